/-
  mem: a key's entry; those of a range; all.
-/
import Derived.Test.YtdfhjmodacjilaaMeD
namespace Go.Proofs.Ytdfhjmodacjilaa.Me
open Go.RowKit Go.Maps
set_option maxRecDepth 100000
set_option linter.unusedVariables false

/-- What Get answers: the entry, or nothing. -/
def entOf : Option En → En
  | some e => e
  | none => ⟨[], [], false⟩

set_option maxHeartbeats 4000000 in
/-- slices.Clone of entries. -/
theorem clone_en (w : World) (x : Value) (L : List En) (hx : EnS w x L) (hlen : L.length ≤ 1000000) :
    Calls Try.prog 15 #[x] w fun e w' => ∃ v, e = .returned v ∧ EnO w.heap.size w' v L ∧ Stay (fun _ => False) w w' := by
  have hq := @Lib.run_eql_slice_nil
  have HX := Lib.hid (hx.stay0 (Stay.alloc w (.cells #[] 28)))
  have how := Lib.hid (EnO.empty w.heap.size w (Nat.le_refl _))
  obtain ⟨a0, c, rfl, hnc, hcm, hn, hr⟩ := hx
  cases a0 with
  | none =>
    obtain rfl := hn rfl
    have hL : L = [] := List.eq_nil_of_length_eq_zero (by omega)
    subst hL
    clear HX how hn hr
    go_enter Try.func15, Try.ntmps15
    go_wp2
    go_ret
    exact ⟨_, rfl, EnO.nil _ _, Stay.refl _ _⟩
  | some ad =>
    clear hn hr
    go_enter Try.func15, Try.ntmps15
    go_wp2_with (at_builtin; refine wpList_append_en rfl (.tmp 5) (.tmp 6) 25 rfl Try.underlying25 (v := .slice (some ⟨w.heap.size, 0, none⟩) 0 0) rfl rfl how.out HX.out (by simp; omega) (by simp) ?_; intro v' w1 hown hgr hnn)
    go_ret
    exact ⟨v', rfl, by simpa using hown, (Stay.alloc (X := fun _ => False) w _).andThen (hgr.mono (Y := fun k => k = w.heap.size) (fun k hk => by simpa [Value.ownBlock] using hk.symm)) (fun k hk e => by omega)⟩

/-- What lies between two places of a slice. -/
theorem EnS.part {w : World} {a0 : Option Addr} {n c i j : Nat} {L : List En} (h : EnS w (.slice a0 n c) L) (hi : i ≤ j) (hj : j ≤ L.length) : EnS w (.slice (if c = i then a0 else a0.map (·.add (i * 3))) (j - i) (c - i)) ((L.drop i).take (j - i)) := by
  have h1 := h.cut (i := i) (by omega)
  exact h1.first (by rw [List.length_drop]; omega)
theorem EnS.part_cap {w : World} {ad : Addr} {n c i m : Nat} {L : List En} (h : EnS w (.slice (some ad) n c) L) (hc : c = i) (hi : i ≤ m) (hm : m ≤ L.length) : EnS w (.slice (some ad) 0 0) ((L.drop i).take (m - i)) := by
  have h1 := h.part hi hm
  obtain ⟨_, c1, e, hnc, _⟩ := h
  cases e
  have e1 : m - i = 0 := by omega
  rw [if_pos hc, e1, hc, Nat.sub_self] at h1
  rw [e1]
  exact h1
theorem EnS.part_in {w : World} {ad : Addr} {n c i m : Nat} {L : List En} (h : EnS w (.slice (some ad) n c) L) (hc : ¬ c = i) (hi : i ≤ m) (hm : m ≤ L.length) : EnS w (.slice (some (ad.add (i * 3))) (m - i) (c - i)) ((L.drop i).take (m - i)) := by
  have h1 := h.part hi hm
  rw [if_neg hc] at h1
  exact h1
theorem EnS.part_no {w : World} {ad : Addr} {n c i m : Nat} {L : List En} (h : EnS w (.slice (some ad) n c) L) (hc : ¬ c = i) (hi : i = m) (hm : m ≤ L.length) : EnS w (.slice (some (ad.add (i * 3))) 0 (c - i)) ((L.drop i).take (m - i)) := by
  have h1 := h.part_in hc (Nat.le_of_eq hi) hm
  have e1 : m - i = 0 := by omega
  rw [e1] at h1 ⊢
  exact h1
theorem drop_nil {L : List En} (h : L.length = 0) (i m : Nat) : (L.drop i).take m = [] := by
  rw [List.eq_nil_of_length_eq_zero h]
  simp
set_option maxHeartbeats 1000000 in
theorem range_nil (L : List En) : rangeL L [] [] = L := by
  unfold rangeL
  rw [List.filter_eq_self]
  intro e _
  simp [lt_nil]
end Go.Proofs.Ytdfhjmodacjilaa.Me
