/-
  mem: where a key stands.
-/
import Derived.Test.YtnhcnikickihgaaMeB
namespace Go.Proofs.Ytnhcnikickihgaa.Me
open Go.RowKit Go.Maps
set_option maxRecDepth 100000
set_option linter.unusedVariables false

/-- All that stand ahead of lo are ahead of the key, none that stand from hi on. -/
structure Between (L : List En) (k : List UInt8) (lo hi : Nat) : Prop where
  le : lo ≤ hi
  len : hi ≤ L.length
  l : ∀ t, t < lo → ∀ e, L[t]? = some e → ltB e.k k = true
  h : ∀ t, hi ≤ t → ∀ e, L[t]? = some e → ltB e.k k = false
theorem Between.start (L : List En) (k : List UInt8) : Between L k 0 L.length :=
  ⟨Nat.zero_le _, Nat.le_refl _, fun t ht => by omega, fun t ht e he => by have := (List.getElem?_eq_some_iff.1 he).1; omega⟩
theorem Between.up {L : List En} (hs : Sorted L) {k : List UInt8} {lo hi m : Nat} (b : Between L k lo hi) (h1 : lo ≤ m) (h2 : m < hi) {e : En} (he : L[m]? = some e) (hl : ltB e.k k = true) : Between L k (m + 1) hi :=
  ⟨h2, b.len, fun t ht x hx => by
    by_cases h : t = m
    · subst h
      rw [he] at hx
      cases hx
      exact hl
    · exact lt_trans (sorted_at hs (show t < m by omega) hx he) hl, b.h⟩
theorem Between.down {L : List En} (hs : Sorted L) {k : List UInt8} {lo hi m : Nat} (b : Between L k lo hi) (h1 : lo ≤ m) (h2 : m < hi) {e : En} (he : L[m]? = some e) (hl : ltB e.k k = false) : Between L k lo m :=
  ⟨h1, by have := b.len; omega, b.l, fun t ht x hx => by
    by_cases h : t = m
    · subst h
      rw [he] at hx
      cases hx
      exact hl
    · cases h3 : ltB x.k k with
      | false => rfl
      | true => rw [lt_trans (sorted_at hs (show m < t by omega) he hx) h3] at hl; cases hl⟩
theorem Between.end {L : List En} {k : List UInt8} {i : Nat} (b : Between L k i i) : posN L k = i :=
  posN_is k L i b.len b.l (fun e he => b.h i (Nat.le_refl _) e he)

set_option maxHeartbeats 4000000 in
theorem search_any (w : World) (x : Value) (L : List En) (k : List UInt8) (hx : EnS w x L) (hs : Sorted L) (hl : L.length ≤ 1000000) :
    Calls Try.prog 26 #[x, strV k, .func (.func 27) #[] #[]] w fun e w' => e = .returned (.tuple #[.int .i64 (posN L k : Int), .bool (hasB L k)]) ∧ Stay (fun _ => False) w w' := by
  have HX := Lib.hid hx
  have HS := Lib.hid hs
  obtain ⟨a0, c, rfl⟩ := hx.form
  have hcm : (L.length : Int) ≤ 1000000 := by omega
  clear hx hs hl
  go_enter Try.func26, Try.ntmps26
  go_wp2
  go_loopw [9, 10] (fun i j wr => ∃ lo hi : Nat, i = .int .i64 (lo : Int) ∧ j = .int .i64 (hi : Int) ∧ Hid (Between L k lo hi) ∧ Stay (fun _ => False) w wr) (fun i j _ => (intOf j).toNat - (intOf i).toNat)
  case atStart => exact ⟨0, L.length, rfl, rfl, Lib.hid (Between.start L k), Stay.refl _ _⟩
  case round =>
    obtain ⟨lo, hi, rfl, rfl, hb, hst⟩ := hrel
    have hle := hb.out.le
    have hlen := hb.out.len
    have HT := Lib.hid hst
    clear hst
    by_cases hlt : lo < hi
    · obtain ⟨e, he⟩ : ∃ e, L[(lo + hi) / 2]? = some e := ⟨_, List.getElem?_eq_getElem (by omega)⟩
      obtain ⟨g, o, rfl, _, hc⟩ := (HX.out.stay0 HT.out).at (by omega)
      obtain ⟨h0, h1, h2⟩ := hc _ e he
      have kl := Lib.hid (run_load_at h0 h1 h2)
      have HE := Lib.hid he
      clear he hc h0 h1 h2
      go_wp2_with (first
        | (refine wpList_load_run (by rfl) 27 (.tmp 27) rfl ⟨g, o + (lo + hi) / 2 * 3, none⟩ rfl _ kl.out ?_))
      refine (cmp_any _ e k).mono ?_
      rintro x w2 ⟨rfl, s2⟩
      have HT2 := Lib.hid (HT.out.trans s2)
      have hcl := cmp_lt e.k k
      clear s2
      generalize Lib.compareBytes e.k k = cv at *
      by_cases hcv : cv < 0
      · have hlt3 : ltB e.k k = true := by rw [← hcl]; exact decide_eq_true hcv
        have HB := Lib.hid (hb.out.up HS.out (m := (lo + hi) / 2) (by omega) (by omega) HE.out hlt3)
        clear hcl hlt3
        go_wp2
        refine ⟨⟨(lo + hi) / 2 + 1, hi, by go_num, rfl, HB, HT2.out⟩, by simp [intOf]; omega⟩
      · have hlt3 : ltB e.k k = false := by rw [← hcl]; exact decide_eq_false hcv
        have HB := Lib.hid (hb.out.down HS.out (m := (lo + hi) / 2) (by omega) (by omega) HE.out hlt3)
        clear hcl hlt3
        go_wp2
        refine ⟨⟨lo, (lo + hi) / 2, rfl, by go_num, HB, HT2.out⟩, by simp [intOf]; omega⟩
    · obtain rfl : hi = lo := by omega
      have HP := Lib.hid hb.out.end
      by_cases hn : hi < L.length
      · obtain ⟨e, he⟩ : ∃ e, L[hi]? = some e := ⟨_, List.getElem?_eq_getElem (by omega)⟩
        obtain ⟨g, o, rfl, _, hc⟩ := (HX.out.stay0 HT.out).at (by omega)
        obtain ⟨h0, h1, h2⟩ := hc _ e he
        have kl := Lib.hid (run_load_at h0 h1 h2)
        have HH := Lib.hid (show hasB L k = (e.k == k) by unfold hasB; rw [HP.out, he])
        clear he hc h0 h1 h2
        go_wp2_with (first
          | (refine wpList_load_run (by rfl) 27 (.tmp 43) rfl ⟨g, o + hi * 3, none⟩ rfl _ kl.out ?_))
        refine (cmp_any _ e k).mono ?_
        rintro x w2 ⟨rfl, s2⟩
        have HT2 := Lib.hid (HT.out.trans s2)
        have HC := Lib.hid (cmp_eq0 e.k k)
        clear s2
        generalize Lib.compareBytes e.k k = cv at *
        go_wp2
        go_ret2
        exact ⟨by rw [HP.out, HH.out, ← HC.out]; rfl, HT2.out⟩
      · have HH := Lib.hid (show hasB L k = false by unfold hasB; rw [HP.out, List.getElem?_eq_none (by omega)])
        go_wp2
        go_ret2
        exact ⟨by rw [HP.out, HH.out]; rfl, HT.out⟩

theorem place_any (w : World) (pv : Value) (L : List En) (k : List UInt8) (h : MR w pv L) (hs : Sorted L) (hl : L.length ≤ 1000000) :
    Calls Try.prog 22 #[pv, strV k] w fun e w' => e = .returned (.tuple #[.int .i64 (posN L k : Int), .bool (hasB L k)]) ∧ Stay (fun _ => False) w w' := by
  have H := Lib.hid h
  obtain ⟨p0, rfl⟩ : ∃ p0, pv = .pointer p0 := by
    rcases h with ⟨e, _⟩ | ⟨p, v, e, _⟩
    · exact ⟨_, e⟩
    · exact ⟨_, e⟩
  clear h
  go_enter Try.func22, Try.ntmps22
  go_wp2_with fail
  refine (all_any w _ L H.out).mono ?_
  rintro e w1 ⟨x, rfl, hx, rfl⟩
  have HX := Lib.hid hx
  obtain ⟨a0, c, rfl⟩ := hx.form
  clear hx
  go_wp2_with fail
  refine (search_any w _ L k HX.out hs hl).mono ?_
  rintro e w1 ⟨rfl, s1⟩
  go_wp2
  go_ret2
  exact ⟨rfl, s1⟩
end Go.Proofs.Ytnhcnikickihgaa.Me
