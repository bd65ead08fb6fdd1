/-
  table: parts in memory, each with its first key; a table in memory.
-/
import Derived.Test.YteogdihacohkfaaGreatDoorTbP
import Derived.Test.YteogdihacohkfaaGreatDoorGaM
import Derived.Test.YteogdihacohkfaaGreatDoorGaB
import Derived.Test.YteogdihacohkfaaGreatDoorGaK
import Derived.Test.YteogdihacohkfaaGreatDoorClass
import Derived.Test.YteogdihacohkfaaGreatDoorHeldS
import Derived.Great.BuildSlice
namespace Go.Proofs.YteogdihacohkfaaGreatDoor.Tb
open Go.RowKit
open Me (En EnS EnO Box enC enV norm ltB Sorted getL posN hasB sizeL)
open Pk (spellB bytesB boolB textB takeB numB cntB truB RS M64 Slc Owns RdAt WrAt)
open Bo (FAt)
set_option maxRecDepth 100000
set_option linter.unusedVariables false

/-- A part in memory: its first key, its bytes and their slice. -/
structure Pc where
  k : List UInt8
  b : List UInt8
  x : Value
def pcC (q : Pc) : List Value := [Me.strV q.k, q.x]
def pcV (q : Pc) : Value := .agg (pcC q).toArray
theorem length_pcC (q : Pc) : (pcC q).length = 2 := rfl
def pcRows (Q : List Pc) : List Value := Q.flatMap pcC
theorem pcRows_snoc (Q : List Pc) (q : Pc) : pcRows (Q ++ [q]) = pcRows Q ++ pcC q := by simp [pcRows]
theorem length_pcRows : ∀ Q : List Pc, (pcRows Q).length = Q.length * 2
  | [] => rfl
  | q :: Q => by
    have := length_pcRows Q
    unfold pcRows at this ⊢
    rw [List.flatMap_cons, List.length_append, this, length_pcC, List.length_cons]
    omega
theorem pcRows_get {q : Pc} {j : Nat} (hj : j < 2) : ∀ (Q : List Pc) (i : Nat), Q[i]? = some q → (pcRows Q)[i * 2 + j]? = (pcC q)[j]?
  | [], i, h => by simp at h
  | x :: Q, 0, h => by
    simp at h
    subst h
    unfold pcRows
    rw [List.flatMap_cons, List.getElem?_append_left (by rw [length_pcC]; omega), Nat.zero_mul, Nat.zero_add]
  | x :: Q, i + 1, h => by
    have ih := pcRows_get hj Q i (by simpa using h)
    unfold pcRows at ih ⊢
    rw [List.flatMap_cons, List.getElem?_append_right (by rw [length_pcC]; omega), length_pcC, ← ih]
    congr 1
    omega
theorem one_pc (q : Pc) (a0 : Option Addr) (n c : Nat) (h : q.x = .slice a0 n c) : ∀ u ∈ pcC q, u.oneCell' = true := by
  intro u hu
  unfold pcC at hu
  rw [h] at hu
  simp at hu
  rcases hu with rfl | rfl <;> rfl
/-- The part of nothing, by value. -/
def zeroP : Value := .agg #[.string ⟨#[]⟩, .slice none 0 0]
theorem info_pc : (Tryz.prog.info? 95).map (fun i => (i.zero, i.size, i.bytes)) = some (some zeroP, 2, 40) := by kernel_rfl
theorem size_pc : (Tryz.prog.info? 95).map (·.size) = some 2 := by
  obtain ⟨i0, hi, _, h, _⟩ := info_parts info_pc
  rw [hi]
  simp [h]
/-- One of them as a whole. -/
theorem run_load_pc {w : World} {g o : Nat} {q : Pc} (hc : ∀ j u, (pcC q)[j]? = some u → w.cell? ⟨g, o + j, none⟩ = some u) : (loadVar 95 ⟨g, o, none⟩).run Tryz.prog w = .ok (pcV q) w :=
  Me.run_loadVar_at w ⟨g, o, none⟩ 95 (pcC q) _ Tryz.underlying95 rfl size_pc (fun j v hv => by rw [add_at]; exact hc j v hv)

/-- Parts of one's own, and their bytes beside them. -/
structure PcOwn (base : Nat) (w : World) (v : Value) (Q : List Pc) : Prop where
  row : w.ownsRow base 95 2 v Q.length (pcRows Q)
  slc : ∀ q ∈ Q, Slc w q.x q.b
  ne : ∀ q ∈ Q, 0 < q.b.length → q.x.ownBlock ≠ v.ownBlock
section
variable {base : Nat} {w : World} {v : Value} {Q : List Pc}
theorem PcOwn.nil (base : Nat) (w : World) : PcOwn base w (.slice none 0 0) [] := ⟨World.ownsRow_nil w base _ _, fun _ hq => (List.not_mem_nil hq).elim, fun _ hq => (List.not_mem_nil hq).elim⟩
theorem PcOwn.form (h : PcOwn base w v Q) : ∃ a c, v = .slice a Q.length c := by
  rcases h.row.2 with ⟨e, hn⟩ | ⟨g, cap, cur, e, _⟩
  · exact ⟨none, 0, by rw [e, hn]⟩
  · exact ⟨_, _, e⟩
theorem PcOwn.lt (h : PcOwn base w v Q) : ∀ k, v.ownBlock = some k → base ≤ k ∧ k < w.heap.size := World.ownsRow.lt h.row
theorem PcOwn.stay {X : Nat → Prop} {w' : World} (h : PcOwn base w v Q) (hs : Stay X w w') (h1 : ∀ k, v.ownBlock = some k → ¬ X k) (h2 : ∀ q ∈ Q, 0 < q.b.length → ∀ k, q.x.ownBlock = some k → ¬ X k) : PcOwn base w' v Q := by
  refine ⟨⟨h.row.1, ?_⟩, fun q hq => ?_, h.ne⟩
  · rcases h.row.2 with h' | ⟨g, cap, cur, rfl, hb, hg, r⟩
    · exact .inl h'
    · exact .inr ⟨g, cap, cur, rfl, hb, (hs.block g (Array.getElem?_eq_some_iff.1 hg).1 (h1 g rfl)).trans hg, r⟩
  · obtain ⟨a0, c, e, hr, hn⟩ := h.slc q hq
    refine ⟨a0, c, e, hr.stay hs (fun h0 ad ha => h2 q hq h0 ad.block (by rw [e, ha]; rfl)), hn⟩
theorem PcOwn.stay0 {w' : World} (h : PcOwn base w v Q) (hs : Stay (fun _ => False) w w') : PcOwn base w' v Q := h.stay hs (fun _ _ x => x) (fun _ _ _ _ _ x => x)
/-- A part appended. -/
theorem append_pc {K : Act → World → Prop} {E : Prop} {ops : Array Oper} {o : Oper} {a : Act} {Q0 : Exit → Act → World → Prop} (hgd : o.guard = none) (s x : Operand)
    (ho : o.op = .call { callee := .builtin .append, args := #[s, x], argTypes := #[88, 88] }) (hs : a.eval s = v) (g : Nat) (hx : a.eval x = .slice (some ⟨g, 0, none⟩) 1 1) (q : Pc)
    (hm : PcOwn base w v Q) (hq : ∀ j u, (pcC q)[j]? = some u → w.cell? ⟨g, j, none⟩ = some u) (hsl : Slc w q.x q.b) (hne : 0 < q.b.length → q.x.ownBlock ≠ v.ownBlock) (hone : ∀ u ∈ pcC q, u.oneCell' = true) (hn : (Q.length + 1) * 40 ≤ 140737488355328) (hb : base ≤ w.heap.size)
    (h : ∀ v' w', PcOwn base w' v' (Q ++ [q]) → Stay (fun k => v.ownBlock = some k) w w' → (v'.ownBlock = v.ownBlock ∨ v'.ownBlock = some w.heap.size) → wpList Tryz.prog ops Q0 [] (a.put o.dst v') w') : wpList Tryz.prog ops Q0 [o] a w := by
  obtain ⟨i0, hi0, hz0, hz1, hz2⟩ := info_parts info_pc
  refine wpList_append_own_at (P := Tryz.prog) w hgd s x 88 ho base 95 i0 _ 2 40 Tryz.underlying88 hi0 hz0 hz1 hz2 rfl (by decide) v Q.length (pcRows Q) hs hm.row ⟨g, 0, none⟩ 1 1 (pcC q) hx rfl
    (fun j u hu => ?_) hone (by unfold maxLen; omega) hn hb (fun v' w' h1 h2 _ h4 => ?_)
  · rw [add_at, Nat.zero_add]
    exact hq j u hu
  · have hst : Stay (fun k => v.ownBlock = some k) w w' := Stay.grown h2 (fun k hk => hk)
    have hold : ∀ z ∈ Q ++ [q], Slc w z.x z.b ∧ (0 < z.b.length → z.x.ownBlock ≠ v.ownBlock) := by
      intro z hz
      rcases List.mem_append.1 hz with hz | hz
      · exact ⟨hm.slc z hz, hm.ne z hz⟩
      · obtain rfl := List.mem_singleton.1 hz
        exact ⟨hsl, hne⟩
    refine h v' w' ⟨by rw [List.length_append, pcRows_snoc]; exact h1, fun z hz => ?_, fun z hz h0 e => ?_⟩ hst h4
    · obtain ⟨h5, h7⟩ := hold z hz
      obtain ⟨a0, c, e, hr, hn2⟩ := id h5
      refine ⟨a0, c, e, hr.stay hst (fun h0 ad ha hv => h7 h0 ?_), hn2⟩
      rw [e, ha, hv]
      rfl
    · obtain ⟨h5, h7⟩ := hold z hz
      rcases h4 with h4 | h4
      · exact h7 h0 (e.trans h4)
      · have := h5.blk_lt h0 _ (e.trans h4)
        omega
end

/-- A slice of the parts of entries. -/
structure PcAt (w : World) (v : Value) (L : List En) (p : Nat) : Prop where
  ex : ∃ g c, v = .slice (some ⟨g, 0, none⟩) (cN L.length p) c ∧ ∀ i, i < cN L.length p → w.cell? ⟨g, i * 2, none⟩ = some (Me.strV (keyAt L (i * p))) ∧ ∃ x, w.cell? ⟨g, i * 2 + 1, none⟩ = some x ∧ Slc w x (partB (chunk L p i))
theorem PcAt.stay0 {w w' : World} {v : Value} {L : List En} {p : Nat} (h : PcAt w v L p) (hs : Stay (fun _ => False) w w') : PcAt w' v L p := by
  obtain ⟨g, c, e, hc⟩ := h.ex
  refine ⟨g, c, e, fun i hi => ?_⟩
  obtain ⟨h1, x, h2, h3⟩ := hc i hi
  exact ⟨hs.cell h1 (fun x => x), x, hs.cell h2 (fun x => x), h3.stay0 hs⟩
/-- Those that one owns are of that kind. -/
theorem PcOwn.at {base : Nat} {w : World} {v : Value} {Q : List Pc} {L : List En} {p : Nat} (h : PcOwn base w v Q) (hn : Q.length = cN L.length p) (h0 : 0 < Q.length) (hq : ∀ i q, Q[i]? = some q → q.k = keyAt L (i * p) ∧ q.b = partB (chunk L p i)) : PcAt w v L p := by
  have hc := fun g hg => World.ownsRow.cells (g := g) h.row hg
  rcases h.row.2 with ⟨e, hn⟩ | ⟨g, cap, cur, e, _, _, h1, h2, _⟩
  · omega
  · refine ⟨g, cap, by rw [e, hn], fun i hi => ?_⟩
    subst e
    obtain ⟨q, hqi⟩ : ∃ q, Q[i]? = some q := ⟨_, List.getElem?_eq_getElem (by omega)⟩
    obtain ⟨e1, e2⟩ := hq i q hqi
    have g0 := hc g rfl (i * 2 + 0) _ (by rw [pcRows_get (by omega) Q i hqi]; rfl)
    have g1 := hc g rfl (i * 2 + 1) _ (by rw [pcRows_get (by omega) Q i hqi]; rfl)
    rw [add_at, Nat.zero_add] at g0 g1
    rw [Nat.add_zero, e1] at g0
    exact ⟨g0, q.x, g1, e2 ▸ h.slc q (List.mem_of_getElem? hqi)⟩

/-- A table in memory: the one of entries, so many a part, so many bits an entry. -/
structure TAt (w : World) (t : Nat) (L : List En) (p q : Nat) : Prop where
  ex : ∃ v pf gf, w.heap[t]? = some (.cells #[.int .i64 (L.length : Int), v, Me.strV (lastK L), .pointer (some ⟨pf, 0, none⟩)] 90 (0, 0)) ∧ PcAt w v L p ∧ FAt w pf gf 3 (filtB L q)
  p1 : 1 ≤ p
  q1 : 1 ≤ q
  n1 : 1 ≤ L.length
  n2 : L.length ≤ 1000000
  srt : Sorted L
  nrm : ∀ e ∈ L, norm e = e
  sz : sizeL L ≤ 1000000000
section
variable {w w' : World} {t p q : Nat} {L : List En}
theorem TAt.stay0 (h : TAt w t L p q) (hs : Stay (fun _ => False) w w') : TAt w' t L p q := by
  obtain ⟨v, pf, gf, h1, h2, h3⟩ := h.ex
  exact ⟨⟨v, pf, gf, (hs.block t (Array.getElem?_eq_some_iff.1 h1).1 (fun x => x)).trans h1, h2.stay0 hs, h3.stay0 hs⟩, h.p1, h.q1, h.n1, h.n2, h.srt, h.nrm, h.sz⟩
theorem TAt.lt (h : TAt w t L p q) : t < w.heap.size := by
  obtain ⟨v, pf, gf, h1, _⟩ := h.ex
  exact (Array.getElem?_eq_some_iff.1 h1).1
end
end Go.Proofs.YteogdihacohkfaaGreatDoor.Tb
