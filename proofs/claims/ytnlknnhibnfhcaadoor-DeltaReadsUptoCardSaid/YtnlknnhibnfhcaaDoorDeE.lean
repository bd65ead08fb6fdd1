/-
  delta: a byte laid behind parts, of which the last one copies.
-/
import Derived.Test.YtnlknnhibnfhcaaDoorDeD
namespace Go.Proofs.YtnlknnhibnfhcaaDoor.De
open Go.RowKit Pk
set_option maxRecDepth 100000

theorem PsOwn.form1 {ty : TypeId} {base : Nat} {w : World} {v : Value} {L : List Po} {m : Nat} (h : PsOwn ty base w v L) (hm : L.length = m + 1) : ∃ g c, v = .slice (some ⟨g, 0, none⟩) (m + 1) c := by
  rcases h.row.2 with ⟨_, e⟩ | ⟨g, cap, cur, e, _⟩
  · omega
  · exact ⟨g, cap, by rw [e, hm]⟩
theorem PsOwn.cells1 {ty : TypeId} {base : Nat} {w : World} {g c m : Nat} {L : List Po} (h : PsOwn ty base w (.slice (some ⟨g, 0, none⟩) m c) L) {i : Nat} {q : Po} (hq : L[i]? = some q) (j : Nat) (u : Value) (hu : (poC q)[j]? = some u) : w.cell? ⟨g, i * 4 + j, none⟩ = some u := by
  obtain ⟨a0, c0, e, _, _, h3⟩ := h.at.ex
  obtain ⟨g', o, e', hc⟩ := h3 (by have := (List.getElem?_eq_some_iff.1 hq).1; omega)
  obtain ⟨e1, _, _⟩ := Value.slice.inj e
  rw [← e1] at e'
  cases e'
  have := hc i q hq j u hu
  rw [Nat.zero_add] at this
  exact this

set_option maxHeartbeats 4000000 in
theorem tell_new (base : Nat) (w : World) (v : Value) (m : Nat) (L : List Po) (b : UInt8) (hm : L.length = m) (hm64 : m ≤ 64) (hlast : 0 < m → ∃ q, L[m - 1]? = some q ∧ q.p.cp = true)
    (ho : PsOwn 49 base w v L) (hbl : ∀ q ∈ L, 0 < q.p.b.length → ∀ k, q.x.ownBlock = some k → base ≤ k) (hbase : base ≤ w.heap.size) :
    Calls Tryd.prog 38 #[v, .int .u8 (b.toNat : Int)] w fun e w' => ∃ v1, e = .returned v1 ∧ (∃ x1, Grown base w' v1 L [b] x1) ∧ Stay (fun k => base ≤ k) w w' := by
  obtain ⟨i0, hi, hz0, hz1, hz2⟩ := info_parts info5
  have HI := Lib.hid hi
  have HZ0 := Lib.hid hz0
  have HZ1 := Lib.hid hz1
  have HZ2 := Lib.hid hz2
  have HB := Lib.hid hbl
  have HM := Lib.hid hm
  have HO := Lib.hid ho
  have hs4 : Stay (fun _ => False) w (w.alloc (.cells (poC ⟨tellP [], .slice none 0 0⟩).toArray 49)) := Stay.alloc _ _
  have hq4 := fun j u (hu : (poC ⟨tellP [], .slice none 0 0⟩)[j]? = some u) => show (w.alloc (.cells (poC ⟨tellP [], .slice none 0 0⟩).toArray 49)).cell? ⟨w.heap.size, j, none⟩ = some u by
    rw [cell_of_row _ w.heap.size j _ _ _ (heap_alloc_new w _)]
    simpa using hu
  have hsz4 : w.heap.size ≤ (w.alloc (.cells (poC ⟨tellP [], .slice none 0 0⟩).toArray 49)).heap.size := hs4.size
  have ho4 := ho.stay0 hs4
  obtain ⟨w4, hw4⟩ : ∃ w4, w.alloc (.cells #[.bool false, .int .i64 0, .int .i64 0, .slice none 0 0] 49) = w4 := ⟨_, rfl⟩
  rw [show w.alloc (.cells (poC ⟨tellP [], .slice none 0 0⟩).toArray 49) = w4 from hw4] at hs4 hq4 ho4 hsz4
  have HS4 := Lib.hid hs4
  have HQ4 := Lib.hid hq4
  have HO4 := Lib.hid ho4
  have W4 := Lib.hid hw4
  have HL := Lib.hid hlast
  obtain ⟨a0, c0, rfl⟩ := ho.form
  rw [hm] at HO HO4 ⊢
  have HS1 := fun W => Lib.hid (slc_one W b (b.toNat : Int) rfl)
  clear hi hz0 hz1 hz2 ho hbl hs4 hq4 ho4 hw4 hlast hm
  have hcase : (m = 0 ∧ L[m]? = none) ∨ ∃ n, m = n + 1 := by
    rcases Nat.eq_zero_or_pos m with h | h
    · exact .inl ⟨h, List.getElem?_eq_none (by rw [HM.out]; omega)⟩
    · exact .inr ⟨m - 1, by omega⟩
  rcases hcase with ⟨rfl, _⟩ | ⟨n, rfl⟩
  rotate_left
  · obtain ⟨q, hq, hcp⟩ := HL.out (by omega)
    obtain ⟨g, c, e⟩ := HO.out.form1 HM.out
    obtain ⟨e1, _, e3⟩ := Value.slice.inj e
    subst e1
    have k0 : w.cell? ⟨g, n * 4, none⟩ = some (.bool true) := by
      have := HO.out.cells1 (i := n) hq 0 (.bool true) (by rw [← hcp]; rfl)
      rwa [Nat.add_zero] at this
    have hz : ((n : Int) + 1 == 0) = false := beq_eq_false_iff_ne.2 (by omega)
    obtain rfl := e3
    clear hq e
    go_enter Tryd.func38, Tryd.ntmps38
    go_wp2_with (at_builtin; first
      | (rw [W4.out]
         refine append_po pt_prog Tryd.underlying27 rfl (.tmp 18) (.tmp 20) rfl rfl w.heap.size rfl ⟨tellP [], .slice none 0 0⟩ HO4.out HQ4.out ⟨none, 0, rfl, fun h => absurd h (Nat.lt_irrefl 0), fun _ => rfl, Nat.le_refl _, by decide⟩ (I64q.tell []) (fun h => absurd h (Nat.lt_irrefl 0)) (one_po _ _ _ _ rfl) (by rw [HM.out]; omega) (by omega) ?_
         intro v5 w5 ho5 hs5 hn5
         obtain ⟨g5, c5, rfl⟩ := ho5.form1 (m := n + 1) (by simp [HM.out])
         have k5 : w5.cell? ⟨g5, (n + 1) * 4 + 3, none⟩ = some (.slice none 0 0) := ho5.cells1 (i := n + 1) (q := ⟨tellP [], .slice none 0 0⟩) (by rw [← HM.out]; simp) 3 _ rfl
         have hrow5 := ho5.row
         rw [List.length_append, List.length_singleton, HM.out] at hrow5
         have HRW := Lib.hid hrow5
         have HO5 := Lib.hid ho5
         have HS5 := Lib.hid hs5
         have hsz5 := hs5.size
         have HN5 := Lib.hid (Owns.nil base (w5.alloc (.cells #[.int .u8 (b.toNat : Int)] 5)))
         have HSB := HS1 w5
         clear ho5 hs5 hn5 hrow5)
      | (refine wpList_append_slc rfl (.tmp 31) (.tmp 33) 25 rfl base i0 Tryd.underlying25 HI.out HZ0.out HZ1.out HZ2.out (.slice none 0 0) _ [] [b] rfl rfl HN5.out HSB.out (by simp) (by simp; omega) ?_
         intro v6 w6 hown hgr hnn
         have hst6 := Stay.grown (X := fun k => (Value.slice none 0 0).ownBlock = some k) hgr (fun k hk => hk)
         have hfr : w6.frozen? ⟨g5, (n + 1) * 4 + 3, none⟩ = false := frozen_own HRW.out (Stay.alloc _ _) hst6 (fun e => by cases e) _
         have hc6 := hst6.cell (((Stay.alloc (X := fun _ => False) w5 (.cells #[.int .u8 (b.toNat : Int)] 5)).cell k5 (fun x => x))) (fun e => by cases e)
         have HOW := Lib.hid hown
         have HST := Lib.hid hst6
         have HNN := Lib.hid hnn
         obtain ⟨a6, c6, rfl⟩ := hown.form
         clear hown hgr hst6 hnn))
    go_ret
    have hw := told_more (x := .slice none 0 0) (t := []) (b := b) HM.out.symm HO5.out (fun q hq h0 => by
      rcases List.mem_append.1 hq with hq | hq
      · exact HB.out q hq h0
      · obtain rfl := List.mem_singleton.1 hq
        exact absurd h0 (Nat.lt_irrefl 0)) (fun q _ h0 e => by
      have h7 := HO5.out.slc q (List.mem_append_left _ (by assumption))
      obtain ⟨a0, c0, e0, hr, hn, _⟩ := h7
      obtain ⟨ad, e8, _⟩ := hr h0
      rw [e0, e8] at e
      cases e) (fun e => by cases e) HOW.out ((Stay.alloc _ _).trans HST.out) (by
      rcases HNN.out with h | h
      · exact .inl h
      · exact .inr ⟨_, h, by simp⟩) _ rfl
    rw [List.nil_append] at hw
    exact ⟨_, rfl, ⟨_, hw⟩, (((HS4.out.mono (fun _ x => x.elim)).trans (HS5.out.mono (fun k hk => (HO.out.lt k hk).1))).trans (((Stay.alloc _ _).trans HST.out).mono (fun k hk => by cases hk))).trans (Stay.setCell _ _ _ (HO5.out.lt g5 rfl).1)⟩
  · go_enter Tryd.func38, Tryd.ntmps38
    go_wp2_with (at_builtin; first
      | (rw [W4.out]
         refine append_po pt_prog Tryd.underlying27 rfl (.tmp 18) (.tmp 20) rfl rfl w.heap.size rfl ⟨tellP [], .slice none 0 0⟩ HO4.out HQ4.out ⟨none, 0, rfl, fun h => absurd h (Nat.lt_irrefl 0), fun _ => rfl, Nat.le_refl _, by decide⟩ (I64q.tell []) (fun h => absurd h (Nat.lt_irrefl 0)) (one_po _ _ _ _ rfl) (by rw [HM.out]; omega) (by omega) ?_
         intro v5 w5 ho5 hs5 hn5
         obtain ⟨g5, c5, rfl⟩ := ho5.form1 (m := 0) (by simp [HM.out])
         have k5 : w5.cell? ⟨g5, (0) * 4 + 3, none⟩ = some (.slice none 0 0) := ho5.cells1 (i := 0) (q := ⟨tellP [], .slice none 0 0⟩) (by rw [← HM.out]; simp) 3 _ rfl
         have hrow5 := ho5.row
         rw [List.length_append, List.length_singleton, HM.out] at hrow5
         have HRW := Lib.hid hrow5
         have HO5 := Lib.hid ho5
         have HS5 := Lib.hid hs5
         have hsz5 := hs5.size
         have HN5 := Lib.hid (Owns.nil base (w5.alloc (.cells #[.int .u8 (b.toNat : Int)] 5)))
         have HSB := HS1 w5
         clear ho5 hs5 hn5 hrow5)
      | (refine wpList_append_slc rfl (.tmp 31) (.tmp 33) 25 rfl base i0 Tryd.underlying25 HI.out HZ0.out HZ1.out HZ2.out (.slice none 0 0) _ [] [b] rfl rfl HN5.out HSB.out (by simp) (by simp; omega) ?_
         intro v6 w6 hown hgr hnn
         have hst6 := Stay.grown (X := fun k => (Value.slice none 0 0).ownBlock = some k) hgr (fun k hk => hk)
         have hfr : w6.frozen? ⟨g5, (0) * 4 + 3, none⟩ = false := frozen_own HRW.out (Stay.alloc _ _) hst6 (fun e => by cases e) _
         have hc6 := hst6.cell (((Stay.alloc (X := fun _ => False) w5 (.cells #[.int .u8 (b.toNat : Int)] 5)).cell k5 (fun x => x))) (fun e => by cases e)
         have HOW := Lib.hid hown
         have HST := Lib.hid hst6
         have HNN := Lib.hid hnn
         obtain ⟨a6, c6, rfl⟩ := hown.form
         clear hown hgr hst6 hnn))
    go_ret
    have hw := told_more (x := .slice none 0 0) (t := []) (b := b) HM.out.symm HO5.out (fun q hq h0 => by
      rcases List.mem_append.1 hq with hq | hq
      · exact HB.out q hq h0
      · obtain rfl := List.mem_singleton.1 hq
        exact absurd h0 (Nat.lt_irrefl 0)) (fun q _ h0 e => by
      have h7 := HO5.out.slc q (List.mem_append_left _ (by assumption))
      obtain ⟨a0, c0, e0, hr, hn, _⟩ := h7
      obtain ⟨ad, e8, _⟩ := hr h0
      rw [e0, e8] at e
      cases e) (fun e => by cases e) HOW.out ((Stay.alloc _ _).trans HST.out) (by
      rcases HNN.out with h | h
      · exact .inl h
      · exact .inr ⟨_, h, by simp⟩) _ rfl
    rw [List.nil_append] at hw
    exact ⟨_, rfl, ⟨_, hw⟩, (((HS4.out.mono (fun _ x => x.elim)).trans (HS5.out.mono (fun k hk => (HO.out.lt k hk).1))).trans (((Stay.alloc _ _).trans HST.out).mono (fun k hk => by cases hk))).trans (Stay.setCell _ _ _ (HO5.out.lt g5 rfl).1)⟩
end Go.Proofs.YtnlknnhibnfhcaaDoor.De
