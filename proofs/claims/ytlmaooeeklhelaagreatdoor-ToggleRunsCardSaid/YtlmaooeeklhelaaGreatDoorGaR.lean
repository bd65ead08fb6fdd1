import Derived.Test.YtlmaooeeklhelaaGreatDoorTgWholeF
import Derived.Lib.BufferWrite
import Derived.Test.YtlmaooeeklhelaaGreatDoorHeld
import Derived.Deep.RegionLaw
/-
  The document's device (drydockref01): a sector of its text.
-/
namespace Go.Proofs.YtlmaooeeklhelaaGreatDoor.Tg
open Go.RowKit Pk Go.Lib
set_option maxRecDepth 100000

theorem made64 (w : World) : (Instr.makeSlice 37 (.int .i64 64) (.int .i64 64)).run Tryz.prog w = .ok (.slice (some ⟨w.heap.size, 0, none⟩) 64 64) (w.alloc (.cells (cellsB zsec).toArray 5)) := by
  obtain ⟨i0, hi, hz0, hz1, hz2⟩ := info_parts info5
  have hm := run_make (P := Tryz.prog) w 37 5 i0 (.int .u8 0) Tryz.underlying37 hi hz0 .i64 .i64 64 64 (by omega) (Int.le_refl _) (by rw [hz2]; omega) (by omega)
  rw [hz1] at hm
  rw [hm]
  have hz : madeCells (Value.int IntKind.u8 0).cells ((64 : Int).toNat * 1) = (cellsB zsec).toArray := by
    rw [made_zeros _ (by decide) (by rfl)]
    simp only [zeros, cellsB, zsec, List.map_replicate, List.toArray_replicate]
    rfl
  rw [hz]
  rfl

theorem byteCells_eq (l : List UInt8) : byteCells l = cellsB l := rfl

theorem blank_any (l : List UInt8) (hl : l.length ≤ 64) (w : World) : Calls Tryz.prog 26 #[strV l] w fun e w' => e = .returned (strV (pad l)) ∧ Stay (fun _ => False) w w' := by
  have hm := made64 w
  obtain ⟨i0, hi, hz0, hz1, hz2⟩ := info_parts info5
  have hg := heap_alloc_new w (.cells (cellsB zsec).toArray 5)
  have hc := run_copy_row_string (P := Tryz.prog) (w.alloc (.cells (cellsB zsec).toArray 5)) 37 9 3 5 w.heap.size 0 64 64 ⟨l.toArray⟩ _ _ Tryz.underlying37 (by rw [hi]; exact congrArg some hz1) hg (by show l.length ≤ 64; exact hl) (by simp [cellsB, length_zsec]; exact hl)
  have e1 : (((cellsB zsec).toArray.toList.take 0 ++ byteCells (ByteArray.mk l.toArray).data.toList ++ (cellsB zsec).toArray.toList.drop (0 + (ByteArray.mk l.toArray).size)).toArray) = (cellsB (pad l)).toArray := by
    have h := splice_pad (l := l)
    unfold splice at h
    rw [length_cellsB] at h
    rw [← h]
    rfl
  rw [e1] at hc
  obtain ⟨w2, hw2⟩ : ∃ w2, (w.alloc (.cells (cellsB zsec).toArray 5)).setRow w.heap.size (cellsB (pad l)).toArray = w2 := ⟨_, rfl⟩
  have hg2 : w2.heap[w.heap.size]? = some (.cells (cellsB (pad l)).toArray 5 (0, 0)) := by
    rw [← hw2]
    exact setRow_heap _ _ _ _ _ _ hg
  have hs2 : Stay (fun _ => False) w w2 := by
    refine stay_seal (X := fun k => k = w.heap.size) ((Stay.alloc w (.cells (cellsB zsec).toArray 5)).trans ?_) (fun k e => by omega)
    rw [← hw2]
    exact ⟨rfl, rfl, rfl, by simp, fun k _ hk => setRow_other _ _ _ _ hk⟩
  rw [hw2] at hc
  have hpl := length_pad hl
  have hcs := conv_slc (w := w2) (x := .slice (some ⟨w.heap.size, 0, none⟩) 64 64) (b := pad l) ⟨_, 64, by rw [hpl], fun _ => ⟨_, rfl, fun j v hv => by rw [add_at, cell_of_row _ _ _ _ _ _ hg2, Nat.zero_add]; simpa using hv⟩, (fun e => by cases e), by rw [hpl]; exact Nat.le_refl _, by decide⟩
  have HS2 := Lib.hid hs2
  clear hg hg2 hw2 e1 hs2 hpl hz0 hz1 hz2 hi
  unfold strV at hcs ⊢
  go_enter Tryz.func26, Tryz.ntmps26
  go_wp2
  go_ret
  exact ⟨rfl, HS2.out⟩

end Go.Proofs.YtlmaooeeklhelaaGreatDoor.Tg

/-
  The document's device (drydockref01): as a value; what is read of it.
-/
namespace Go.Proofs.YtlmaooeeklhelaaGreatDoor.Tg
open Go.RowKit Pk
set_option maxRecDepth 100000

/-- The document's device, plainly. -/
structure RDev where
  now : List (List UInt8)
  safe : List (List UInt8)
  loose : List Bool
  wr : Int
  ar : Bool
  left : Int
  cr : Bool
  lo : Bool

/-- A slice that reads as texts. -/
def Strs (w : World) (v : Value) (xs : List (List UInt8)) : Prop := ∃ a0 c, v = .slice a0 xs.length c ∧ (a0 = none → c = 0) ∧ (0 < xs.length → ∃ g o, a0 = some ⟨g, o, none⟩ ∧ g < w.heap.size ∧ ∀ j l, xs[j]? = some l → w.cell? ⟨g, o + j, none⟩ = some (strV l)) ∧ xs.length ≤ 16384

/-- The document's device as a value. -/
def RefV (w : World) (v : Value) (r : RDev) : Prop := ∃ v1 v2 v3, v = .agg #[v1, v2, v3, .int .i64 r.wr, .bool r.ar, .int .i64 r.left, .bool r.cr, .bool r.lo] ∧ Strs w v1 r.now ∧ Strs w v2 r.safe ∧ Marks w v3 r.loose

theorem Strs.stay {X : Nat → Prop} {w w' : World} {v : Value} {xs : List (List UInt8)} (h : Strs w v xs) (hs : Stay X w w') (hx : ∀ k, k < w.heap.size → ¬ X k) : Strs w' v xs := by
  obtain ⟨a0, c, rfl, hn, hr, hl⟩ := h
  refine ⟨a0, c, rfl, hn, fun h0 => ?_, hl⟩
  obtain ⟨g, o, rfl, hlt, hc⟩ := hr h0
  exact ⟨g, o, rfl, Nat.lt_of_lt_of_le hlt hs.size, fun j l hj => hs.cell (hc j l hj) (hx _ hlt)⟩
theorem RefV.stay {X : Nat → Prop} {w w' : World} {v : Value} {r : RDev} (h : RefV w v r) (hs : Stay X w w') (hx : ∀ k, k < w.heap.size → ¬ X k) : RefV w' v r := by
  obtain ⟨v1, v2, v3, rfl, h1, h2, h3⟩ := h
  exact ⟨v1, v2, v3, rfl, h1.stay hs hx, h2.stay hs hx, h3.stay hs hx⟩

/-- What is read of a sector: its text, or an error. -/
def readR (r : RDev) (i : Int) : List UInt8 × Nat := if (r.cr || r.lo) = true then ([], 13) else if i < 0 ∨ (r.now.length : Int) ≤ i then ([], 4) else (r.now.getD i.toNat [], 0)

set_option maxHeartbeats 1000000 in
theorem rread_any (w : World) (v : Value) (r : RDev) (i : Int) (h : RefV w v r) (hi : I64 i) :
    Calls Tryz.prog 23 #[v, .int .i64 i] w fun e w' => e = .returned (.tuple #[strV (readR r i).1, .int .i64 ((readR r i).2 : Nat)]) ∧ Stay (fun _ => False) w w' := by
  obtain ⟨v1, v2, v3, rfl, h1, h2, h3⟩ := h
  obtain ⟨a1, c1, rfl, hn1, hr1, hl1⟩ := h1
  obtain ⟨a2, c2, rfl, _⟩ := h2
  obtain ⟨a3, c3, rfl, _⟩ := h3
  have HR := Lib.hid hr1
  clear hr1 hn1
  by_cases hd : (r.cr || r.lo) = true
  · have e1 : readR r i = ([], 13) := if_pos hd
    rw [e1]
    have hcs : r.cr = true ∨ (r.cr = false ∧ r.lo = true) := by
      cases hc : r.cr
      · rw [hc] at hd; exact .inr ⟨rfl, by simpa using hd⟩
      · exact .inl rfl
    clear hd e1
    rcases hcs with hc | ⟨hc, hl⟩
    all_goals
      unfold strV
      go_enter Tryz.func23, Tryz.ntmps23
      go_wp2
      go_ret2
      exact ⟨rfl, Stay.alloc _ _⟩
  · have hc : r.cr = false := by cases hc : r.cr; rfl; rw [hc] at hd; exact absurd rfl hd
    have hl : r.lo = false := by cases hl : r.lo; rfl; rw [hl, Bool.or_true] at hd; exact absurd rfl hd
    by_cases hb : i < 0 ∨ (r.now.length : Int) ≤ i
    · have e1 : readR r i = ([], 4) := by unfold readR; rw [if_neg hd, if_pos hb]
      rw [e1]
      clear e1 hd
      have hcs : i < 0 ∨ (¬ i < 0 ∧ (r.now.length : Int) ≤ i) := by omega
      clear hb
      rcases hcs with hb | ⟨hb, hb2⟩
      all_goals
        unfold strV
        go_enter Tryz.func23, Tryz.ntmps23
        go_wp2
        go_ret2
        exact ⟨rfl, Stay.alloc _ _⟩
    · obtain ⟨k, rfl⟩ : ∃ k : Nat, i = (k : Int) := ⟨i.toNat, by omega⟩
      have hk : k < r.now.length := by omega
      have e1 : readR r (k : Int) = (r.now[k], 0) := by unfold readR; rw [if_neg hd, if_neg hb, Int.toNat_natCast, List.getD_eq_getElem?_getD, List.getElem?_eq_getElem hk]; rfl
      rw [e1]
      obtain ⟨g, o, rfl, hlt, hcell⟩ := HR.out (by omega)
      have hck := hcell k _ (List.getElem?_eq_getElem hk)
      have hcw := fun ob => (World.cell?_alloc_lt w ob ⟨g, o + k, none⟩ hlt).trans hck
      clear e1 hd hb hcell hck
      generalize r.now[k] = t at *
      unfold strV at *
      go_enter Tryz.func23, Tryz.ntmps23
      go_wp2
      go_ret2
      exact ⟨rfl, Stay.alloc _ _⟩

end Go.Proofs.YtlmaooeeklhelaaGreatDoor.Tg

/-
  The document's device (drydockref01): rows of its own (append to a nil slice).
-/
namespace Go.Proofs.YtlmaooeeklhelaaGreatDoor.Tg
open Go.RowKit Pk
set_option maxRecDepth 100000

/-- A block that holds a row of cells, with room behind it. -/
def RowAt (w : World) (g : Nat) (e : TypeId) (cap : Nat) (vs : List Value) : Prop := ∃ cur, w.heap[g]? = some (.cells cur e (0, 0)) ∧ cur.size = cap ∧ vs.length ≤ cap ∧ cap ≤ 9223372036854775807 ∧ cur.toList.take vs.length = vs

theorem RowAt.stay {X : Nat → Prop} {w w' : World} {g : Nat} {e : TypeId} {cap : Nat} {vs : List Value} (h : RowAt w g e cap vs) (hs : Stay X w w') (hx : ¬ X g) : RowAt w' g e cap vs := by
  obtain ⟨cur, hg, h⟩ := h
  exact ⟨cur, (hs.block g (lt_of_block hg) hx).trans hg, h⟩
theorem RowAt.lt {w : World} {g : Nat} {e : TypeId} {cap : Nat} {vs : List Value} (h : RowAt w g e cap vs) : g < w.heap.size := by
  obtain ⟨cur, hg, _⟩ := h
  exact lt_of_block hg
theorem RowAt.cell {w : World} {g : Nat} {e : TypeId} {cap : Nat} {vs : List Value} (h : RowAt w g e cap vs) {j : Nat} {v : Value} (hv : vs[j]? = some v) : w.cell? ⟨g, j, none⟩ = some v := by
  obtain ⟨cur, hg, hc, hl, hm, ht⟩ := h
  have hj := (List.getElem?_eq_some_iff.1 hv).1
  rw [cell_of_row w g j _ _ _ hg]
  rw [← ht, List.getElem?_take_of_lt hj] at hv
  simpa using hv
theorem RowAt.frozen {w : World} {g : Nat} {e : TypeId} {cap : Nat} {vs : List Value} (h : RowAt w g e cap vs) (j : Nat) : w.frozen? ⟨g, j, none⟩ = false := by
  obtain ⟨cur, hg, _⟩ := h
  exact frozen_of_row w g j _ _ hg
theorem RowAt.set {w : World} {g : Nat} {e : TypeId} {cap : Nat} {vs : List Value} (h : RowAt w g e cap vs) (j : Nat) (v : Value) : RowAt (w.setCell ⟨g, j, none⟩ v) g e cap (vs.set j v) := by
  obtain ⟨cur, hg, hc, hl, hm, ht⟩ := h
  refine ⟨cur.setIfInBounds j v, ?_, by simpa using hc, by simpa using hl, hm, ?_⟩
  · simp [World.setCell, Array.getElem?_modify, hg]
  · rw [Array.toList_setIfInBounds, List.length_set, List.take_set, ht]

theorem append_fresh (w : World) (t ty e : TypeId) (i0 : TypeInfo) (z : Value) (by_ : Nat) (ht : Tryz.prog.underlying t = some (.slice e)) (hi : Tryz.prog.info? e = some i0) (hz : i0.zero = some z) (hs : i0.size = 1) (hb : i0.bytes = by_) (hzs : z.cells.size = 1) (ad : Addr) (n c : Nat) (vs : List Value) (hl : vs.length = n) (h0 : 0 < n)
    (hn : n ≤ 16384) (hby : by_ ≤ 16) (hcell : ∀ j u, vs[j]? = some u → w.cell? (ad.add j) = some u) (h1 : ∀ u ∈ vs, u.oneCell' = true) :
    ∃ cap w', (Builtin.append_ #[t, t] ty #[.slice none 0 0, .slice (some ad) n c]).run Tryz.prog w = .ok (.slice (some ⟨w.heap.size, 0, none⟩) n cap) w' ∧ RowAt w' w.heap.size e cap vs ∧ Stay (fun _ => False) w w' := by
  have hbb : (0 + n) * by_ ≤ 140737488355328 := by
    have h1 : (0 + n) * by_ ≤ 16384 * 16 := Nat.mul_le_mul (by omega) hby
    omega
  obtain ⟨v', w', hrun, h2, h3, h4, h5⟩ := run_append_own_at (P := Tryz.prog) w w.heap.size t ty e i0 z 1 by_ ht hi hz hs hb hzs (by decide) (.slice none 0 0) 0 [] (World.ownsRow_nil w _ _ _) ad n c vs (by rw [hl, Nat.mul_one]) hcell h1
    (by unfold maxLen; omega) hbb (Nat.le_refl _)
  rw [Nat.zero_add, List.nil_append] at h2
  obtain ⟨_, hr⟩ := h2
  rcases hr with ⟨rfl, hn0⟩ | ⟨g, cap, cur, rfl, hg, hcur, hle, hmx, hsz, htk⟩
  · omega
  · have hgw : g = w.heap.size := by
      rcases h5 with h5 | h5
      · cases h5
      · cases h5; rfl
    subst hgw
    rw [Nat.mul_one] at hsz htk
    refine ⟨cap, w', hrun, ⟨cur, hcur, hsz, by omega, by unfold maxLen at hmx; omega, by rw [hl]; exact htk⟩, Stay.grown h3 (fun k e => by cases e)⟩

theorem infoS : (Tryz.prog.info? 9).map (fun i => (i.zero, i.size, i.bytes)) = some (some (.string ⟨#[]⟩), 1, 16) := by kernel_rfl

def cellsS (xs : List (List UInt8)) : List Value := xs.map strV
theorem length_cellsS (xs : List (List UInt8)) : (cellsS xs).length = xs.length := by simp [cellsS]
theorem length_cellsK (ks : List Bool) : (cellsK ks).length = ks.length := by simp [cellsK]
theorem oneCell_cellsS (xs : List (List UInt8)) : ∀ u ∈ cellsS xs, u.oneCell' = true := by
  intro u hu
  obtain ⟨b, _, rfl⟩ := List.mem_map.1 hu
  rfl

theorem append_strs (w : World) (ty : TypeId) (x : Value) (xs : List (List UInt8)) (hx : Strs w x xs) (h0 : 0 < xs.length) :
    ∃ cap w', (Builtin.append_ #[30, 30] ty #[.slice none 0 0, x]).run Tryz.prog w = .ok (.slice (some ⟨w.heap.size, 0, none⟩) xs.length cap) w' ∧ RowAt w' w.heap.size 9 cap (cellsS xs) ∧ Stay (fun _ => False) w w' := by
  obtain ⟨i0, hi, hz0, hz1, hz2⟩ := info_parts infoS
  obtain ⟨a0, c, rfl, _, hr, hl⟩ := hx
  obtain ⟨g, o, rfl, _, hc⟩ := hr h0
  exact append_fresh w 30 ty 9 i0 _ 16 Tryz.underlying30 hi hz0 hz1 hz2 rfl ⟨g, o, none⟩ xs.length c (cellsS xs) (length_cellsS xs) h0 hl (Nat.le_refl _) (fun j u hu => by
    rw [add_at]
    simp only [cellsS, List.getElem?_map] at hu
    cases hj : xs[j]? with
    | none => rw [hj] at hu; cases hu
    | some l =>
      rw [hj] at hu
      cases hu
      exact hc j l hj) (oneCell_cellsS xs)

theorem append_bools (w : World) (ty : TypeId) (x : Value) (ks : List Bool) (hx : Marks w x ks) (h0 : 0 < ks.length) (hk : ks.length ≤ 16384) :
    ∃ cap w', (Builtin.append_ #[31, 31] ty #[.slice none 0 0, x]).run Tryz.prog w = .ok (.slice (some ⟨w.heap.size, 0, none⟩) ks.length cap) w' ∧ RowAt w' w.heap.size 4 cap (cellsK ks) ∧ Stay (fun _ => False) w w' := by
  obtain ⟨i0, hi, hz0, hz1, hz2⟩ := info_parts infoB
  obtain ⟨a0, c, rfl, _, hr, _⟩ := hx
  obtain ⟨ad, rfl, _, hc⟩ := hr h0
  exact append_fresh w 31 ty 4 i0 _ 1 Tryz.underlying31 hi hz0 hz1 hz2 rfl ad ks.length c (cellsK ks) (length_cellsK ks) h0 hk (by decide) hc (oneCell_cellsK ks)

end Go.Proofs.YtlmaooeeklhelaaGreatDoor.Tg

/-
  The document's device (drydockref01): Twin: one with rows of its own.
-/
namespace Go.Proofs.YtlmaooeeklhelaaGreatDoor.Tg
open Go.RowKit Pk
set_option maxRecDepth 100000

section
variable {P : Program}
theorem wpList_append_ex {ops : Array Oper} {rest : List Oper} {o : Oper} {a : Act} {w : World} {Q : Exit → Act → World → Prop} (hgd : o.guard = none) (s x : Operand) (t : TypeId)
    (ho : o.op = .call { callee := .builtin .append, args := #[s, x], argTypes := #[t, t] }) (vs vx : Value) (hs : a.eval s = vs) (hx : a.eval x = vx) (V : Nat → Value) (R : Nat → World → Prop)
    (hrun : ∃ c w', (Builtin.append_ #[t, t] o.type #[vs, vx]).run P w = .ok (V c) w' ∧ R c w')
    (h : ∀ c w', R c w' → wpList P ops Q rest (a.put o.dst (V c)) w') : wpList P ops Q (o :: rest) a w := by
  obtain ⟨c, w', h1, h2⟩ := hrun
  exact wpList_append_run hgd s x t ho vs vx (V c) w' hs hx h1 (h c w' h2)
end

/-- A block of eight cells: the device as a variable. -/
def BoxAt (w : World) (g : Nat) (v1 v2 v3 : Value) (r : RDev) : Prop := w.heap[g]? = some (.cells #[v1, v2, v3, .int .i64 r.wr, .bool r.ar, .int .i64 r.left, .bool r.cr, .bool r.lo] 33 (0, 0))
theorem BoxAt.stay {X : Nat → Prop} {w w' : World} {g : Nat} {v1 v2 v3 : Value} {r : RDev} (h : BoxAt w g v1 v2 v3 r) (hs : Stay X w w') (hx : ¬ X g) : BoxAt w' g v1 v2 v3 r := (hs.block g (lt_of_block h) hx).trans h
theorem BoxAt.c {w : World} {g : Nat} {v1 v2 v3 : Value} {r : RDev} (h : BoxAt w g v1 v2 v3 r) (j : Nat) : w.cell? ⟨g, j, none⟩ = (#[v1, v2, v3, .int .i64 r.wr, .bool r.ar, .int .i64 r.left, .bool r.cr, .bool r.lo] : Array Value)[j]? := cell_of_row w g j _ _ _ h
theorem BoxAt.f {w : World} {g : Nat} {v1 v2 v3 : Value} {r : RDev} (h : BoxAt w g v1 v2 v3 r) (j : Nat) : w.frozen? ⟨g, j, none⟩ = false := frozen_of_row w g j _ _ h
theorem BoxAt.set0 {w : World} {g : Nat} {v1 v2 v3 : Value} {r : RDev} (h : BoxAt w g v1 v2 v3 r) (u : Value) : BoxAt (w.setCell ⟨g, 0, none⟩ u) g u v2 v3 r := by
  have h' : w.heap[g]? = _ := h
  simp [BoxAt, World.setCell, Array.getElem?_modify, h']
theorem BoxAt.set1 {w : World} {g : Nat} {v1 v2 v3 : Value} {r : RDev} (h : BoxAt w g v1 v2 v3 r) (u : Value) : BoxAt (w.setCell ⟨g, 1, none⟩ u) g v1 u v3 r := by
  have h' : w.heap[g]? = _ := h
  simp [BoxAt, World.setCell, Array.getElem?_modify, h']
theorem BoxAt.set2 {w : World} {g : Nat} {v1 v2 v3 : Value} {r : RDev} (h : BoxAt w g v1 v2 v3 r) (u : Value) : BoxAt (w.setCell ⟨g, 2, none⟩ u) g v1 v2 u r := by
  have h' : w.heap[g]? = _ := h
  simp [BoxAt, World.setCell, Array.getElem?_modify, h']

end Go.Proofs.YtlmaooeeklhelaaGreatDoor.Tg

/-
  The document's device (drydockref01): Twin, walked.
-/
namespace Go.Proofs.YtlmaooeeklhelaaGreatDoor.Tg
open Go.RowKit Pk
set_option maxRecDepth 100000

/-- A twin: rows of its own, in the blocks g1, g2, g3. -/
structure TwinAt (w : World) (base : Nat) (v1 v2 v3 : Value) (g1 g2 g3 c1 c2 c3 : Nat) (r : RDev) : Prop where
  e1 : v1 = .slice (some ⟨g1, 0, none⟩) r.now.length c1
  e2 : v2 = .slice (some ⟨g2, 0, none⟩) r.safe.length c2
  e3 : v3 = .slice (some ⟨g3, 0, none⟩) r.loose.length c3
  r1 : RowAt w g1 9 c1 (cellsS r.now)
  r2 : RowAt w g2 9 c2 (cellsS r.safe)
  r3 : RowAt w g3 4 c3 (cellsK r.loose)
  b1 : base ≤ g1
  l12 : g1 < g2
  l23 : g2 < g3

def zeroR : RDev := ⟨[], [], [], 0, false, 0, false, false⟩

theorem box_two (w : World) (v1 v2 v3 u1 u2 u3 : Value) (r s : RDev) :
    BoxAt ((w.alloc (.cells #[v1, v2, v3, .int .i64 r.wr, .bool r.ar, .int .i64 r.left, .bool r.cr, .bool r.lo] 33)).alloc (.cells #[u1, u2, u3, .int .i64 s.wr, .bool s.ar, .int .i64 s.left, .bool s.cr, .bool s.lo] 33)) w.heap.size v1 v2 v3 r ∧
    BoxAt ((w.alloc (.cells #[v1, v2, v3, .int .i64 r.wr, .bool r.ar, .int .i64 r.left, .bool r.cr, .bool r.lo] 33)).alloc (.cells #[u1, u2, u3, .int .i64 s.wr, .bool s.ar, .int .i64 s.left, .bool s.cr, .bool s.lo] 33)) (w.heap.size + 1) u1 u2 u3 s := by
  refine ⟨(Below.heap_alloc _ _ w.heap.size (by simp)).trans (heap_alloc_new w _), ?_⟩
  have h := heap_alloc_new (w.alloc (.cells #[v1, v2, v3, .int .i64 r.wr, .bool r.ar, .int .i64 r.left, .bool r.cr, .bool r.lo] 33)) (.cells #[u1, u2, u3, .int .i64 s.wr, .bool s.ar, .int .i64 s.left, .bool s.cr, .bool s.lo] 33)
  rw [show (w.alloc (.cells #[v1, v2, v3, .int .i64 r.wr, .bool r.ar, .int .i64 r.left, .bool r.cr, .bool r.lo] 33)).heap.size = w.heap.size + 1 by simp] at h
  exact h

set_option maxHeartbeats 4000000 in
theorem twin_any (w : World) (v1 v2 v3 : Value) (r : RDev) (h1 : Strs w v1 r.now) (h2 : Strs w v2 r.safe) (h3 : Marks w v3 r.loose) (n1 : 0 < r.now.length) (n2 : 0 < r.safe.length) (n3 : 0 < r.loose.length) (n4 : r.loose.length ≤ 16384) :
    Calls Tryz.prog 29 #[.agg #[v1, v2, v3, .int .i64 r.wr, .bool r.ar, .int .i64 r.left, .bool r.cr, .bool r.lo]] w fun e w' => ∃ u1 u2 u3 g1 g2 g3 c1 c2 c3, e = .returned (.agg #[u1, u2, u3, .int .i64 r.wr, .bool r.ar, .int .i64 r.left, .bool r.cr, .bool r.lo]) ∧ TwinAt w' w.heap.size u1 u2 u3 g1 g2 g3 c1 c2 c3 r ∧ Stay (fun _ => False) w w' := by
  have hx : ∀ k, k < w.heap.size → ¬ w.heap.size ≤ k := fun k a b => by omega
  have H1 := Lib.hid (fun (W : World) (hs : Stay (fun k => w.heap.size ≤ k) w W) => append_strs W 30 v1 r.now (h1.stay hs hx) n1)
  have H2 := Lib.hid (fun (W : World) (hs : Stay (fun k => w.heap.size ≤ k) w W) => append_strs W 30 v2 r.safe (h2.stay hs hx) n2)
  have H3 := Lib.hid (fun (W : World) (hs : Stay (fun k => w.heap.size ≤ k) w W) => append_bools W 31 v3 r.loose (h3.stay hs hx) n3 n4)
  obtain ⟨b0, z0⟩ := box_two w v1 v2 v3 (.slice none 0 0) (.slice none 0 0) (.slice none 0 0) r zeroR
  have kb0 := b0.c 0
  have kb1 := b0.c 1
  have kb2 := b0.c 2
  have fb0 := b0.f 0
  have HB0 := Lib.hid b0
  have HZ0 := Lib.hid z0
  clear h1 h2 h3 n1 n2 n3 n4 b0 z0 hx
  go_enter Tryz.func29, Tryz.ntmps29
  go_wp2_with (first
    | (at_builtin
       refine wpList_append_ex rfl (.tmp 6) (.tmp 8) 30 rfl _ _ rfl rfl _ _ (H1.out _ ((Stay.alloc _ _).trans (Stay.alloc _ _))) ?_
       rintro cA wA ⟨hrA, hsA⟩
       have HSA := Lib.hid (show Stay (fun k => w.heap.size ≤ k) w wA from ((Stay.alloc _ _).trans (Stay.alloc _ _)).trans (hsA.mono (fun _ y => y.elim)))
       have hbA := HB0.out.stay hsA (fun y => y)
       have kA0 := hbA.c 0
       have kA1 := hbA.c 1
       have kA2 := hbA.c 2
       have fA0 := hbA.f 0
       have HZA := Lib.hid (HZ0.out.stay hsA (fun y => y))
       have HRA := Lib.hid (show RowAt wA (w.heap.size + 1 + 1) 9 cA (cellsS r.now) by simpa using hrA)
       have HBA := Lib.hid hbA
       have HGA := Lib.hid (show w.heap.size + 1 + 1 < wA.heap.size by have := hrA.lt; simpa using this)
       clear hrA hsA hbA kb0 kb1 kb2 fb0)
    | (at_builtin
       refine wpList_append_ex rfl (.tmp 11) (.tmp 13) 30 rfl _ _ rfl rfl _ _ (H2.out _ (HSA.out.trans (Stay.setCell _ _ _ (Nat.le_refl _)))) ?_
       rintro cB wB ⟨hrB, hsB⟩
       have HSB := Lib.hid (show Stay (fun k => w.heap.size ≤ k) w wB from (HSA.out.trans (Stay.setCell _ _ _ (Nat.le_refl _))).trans (hsB.mono (fun _ y => y.elim)))
       have hst := (Stay.setCell (X := fun k => k = w.heap.size) wA ⟨w.heap.size, 0, none⟩ (.slice (some ⟨w.heap.size + 1 + 1, 0, none⟩) r.now.length cA) rfl).trans (hsB.mono (fun _ y => y.elim))
       have hbB := (HBA.out.set0 (.slice (some ⟨w.heap.size + 1 + 1, 0, none⟩) r.now.length cA)).stay hsB (fun y => y)
       have kB1 := hbB.c 1
       have kB2 := hbB.c 2
       have fB1 := hbB.f 1
       have HZB := Lib.hid (HZA.out.stay hst (fun y => by omega))
       have HRB1 := Lib.hid (HRA.out.stay hst (fun (y : _ = w.heap.size) => by omega))
       have HRB := Lib.hid (show RowAt wB wA.heap.size 9 cB (cellsS r.safe) by simpa using hrB)
       have HBB := Lib.hid hbB
       have HGB := Lib.hid (show wA.heap.size < wB.heap.size by have := hrB.lt; simpa using this)
       clear hrB hsB hbB hst kA0 kA1 kA2 fA0)
    | (at_builtin
       refine wpList_append_ex rfl (.tmp 16) (.tmp 18) 31 rfl _ _ rfl rfl _ _ (H3.out _ (HSB.out.trans (Stay.setCell _ _ _ (Nat.le_refl _)))) ?_
       rintro cC wC ⟨hrC, hsC⟩
       have HSC := Lib.hid (show Stay (fun k => w.heap.size ≤ k) w wC from (HSB.out.trans (Stay.setCell _ _ _ (Nat.le_refl _))).trans (hsC.mono (fun _ y => y.elim)))
       have hst := (Stay.setCell (X := fun k => k = w.heap.size) wB ⟨w.heap.size, 1, none⟩ (.slice (some ⟨wA.heap.size, 0, none⟩) r.safe.length cB) rfl).trans (hsC.mono (fun _ y => y.elim))
       have hbC := (HBB.out.set1 (.slice (some ⟨wA.heap.size, 0, none⟩) r.safe.length cB)).stay hsC (fun y => y)
       have kC2 := hbC.c 2
       have fC2 := hbC.f 2
       have HZC := Lib.hid (HZB.out.stay hst (fun y => by omega))
       have HRC1 := Lib.hid (HRB1.out.stay hst (fun (y : _ = w.heap.size) => by omega))
       have HRC2 := Lib.hid (HRB.out.stay hst (fun (y : _ = w.heap.size) => by have := HGA.out; omega))
       have HRC := Lib.hid (show RowAt wC wB.heap.size 4 cC (cellsK r.loose) by simpa using hrC)
       have HBC := Lib.hid hbC
       have HGC := Lib.hid (show wB.heap.size < wC.heap.size by have := hrC.lt; simpa using this)
       have HBX := Lib.hid (HBC.out.set2 (.slice (some ⟨wB.heap.size, 0, none⟩) r.loose.length cC))
       have HZX := Lib.hid (HZC.out.stay (Stay.setCell (X := fun k => k = w.heap.size) wC ⟨w.heap.size, 2, none⟩ (.slice (some ⟨wB.heap.size, 0, none⟩) r.loose.length cC) rfl) (fun y => by omega))
       clear hrC hsC hbC hst kB1 kB2 fB1)
    | (refine wpList_load_mid rfl 33 (.tmp 1) rfl w.heap.size 0 rfl 33 #[.slice (some ⟨w.heap.size + 1 + 1, 0, none⟩) r.now.length cA, .slice (some ⟨wA.heap.size, 0, none⟩) r.safe.length cB, .slice (some ⟨wB.heap.size, 0, none⟩) r.loose.length cC, .int .i64 r.wr, .bool r.ar, .int .i64 r.left, .bool r.cr, .bool r.lo] #[.slice (some ⟨w.heap.size + 1 + 1, 0, none⟩) r.now.length cA, .slice (some ⟨wA.heap.size, 0, none⟩) r.safe.length cB, .slice (some ⟨wB.heap.size, 0, none⟩) r.loose.length cC, .int .i64 r.wr, .bool r.ar, .int .i64 r.left, .bool r.cr, .bool r.lo] (0, 0) _ HBX.out Tryz.underlying33 rfl (by kernel_rfl) (fun j _ => by rw [Nat.zero_add]) ?_)
    | (refine wpList_store_mid rfl 33 (.tmp 2) (.tmp 21) rfl (w.heap.size + 1) 0 rfl 33 _ [.slice (some ⟨w.heap.size + 1 + 1, 0, none⟩) r.now.length cA, .slice (some ⟨wA.heap.size, 0, none⟩) r.safe.length cB, .slice (some ⟨wB.heap.size, 0, none⟩) r.loose.length cC, .int .i64 r.wr, .bool r.ar, .int .i64 r.left, .bool r.cr, .bool r.lo] rfl HZX.out (by kernel_rfl) (Nat.le_refl _) (by intro v hv; simp at hv; rcases hv with rfl | rfl | rfl | rfl | rfl | rfl | rfl | rfl <;> rfl) ?_
       intro wD hD sD
       have HD := Lib.hid (show wD.heap[w.heap.size + 1]? = some (.cells #[.slice (some ⟨w.heap.size + 1 + 1, 0, none⟩) r.now.length cA, .slice (some ⟨wA.heap.size, 0, none⟩) r.safe.length cB, .slice (some ⟨wB.heap.size, 0, none⟩) r.loose.length cC, .int .i64 r.wr, .bool r.ar, .int .i64 r.left, .bool r.cr, .bool r.lo] 33 (0, 0)) from hD)
       have SD := Lib.hid sD
       clear hD sD))
  have hld := run_loadVar_mid (P := Tryz.prog) wD (w.heap.size + 1) 0 33 33 #[.slice (some ⟨w.heap.size + 1 + 1, 0, none⟩) r.now.length cA, .slice (some ⟨wA.heap.size, 0, none⟩) r.safe.length cB, .slice (some ⟨wB.heap.size, 0, none⟩) r.loose.length cC, .int .i64 r.wr, .bool r.ar, .int .i64 r.left, .bool r.cr, .bool r.lo] #[.slice (some ⟨w.heap.size + 1 + 1, 0, none⟩) r.now.length cA, .slice (some ⟨wA.heap.size, 0, none⟩) r.safe.length cB, .slice (some ⟨wB.heap.size, 0, none⟩) r.loose.length cC, .int .i64 r.wr, .bool r.ar, .int .i64 r.left, .bool r.cr, .bool r.lo] (0, 0) _ HD.out Tryz.underlying33 rfl (by kernel_rfl) (fun j _ => by rw [Nat.zero_add])
  have hst := Lib.hid ((Stay.setCell (X := fun k => k = w.heap.size ∨ k = w.heap.size + 1) wC ⟨w.heap.size, 2, none⟩ (.slice (some ⟨wB.heap.size, 0, none⟩) r.loose.length cC) (.inl rfl)).trans (SD.out.mono (fun k y => .inr y)))
  refine bodyPost_ret (v := .agg #[.slice (some ⟨w.heap.size + 1 + 1, 0, none⟩) r.now.length cA, .slice (some ⟨wA.heap.size, 0, none⟩) r.safe.length cB, .slice (some ⟨wB.heap.size, 0, none⟩) r.loose.length cC, .int .i64 r.wr, .bool r.ar, .int .i64 r.left, .bool r.cr, .bool r.lo]) (by simp [results, Tryz.results29, asAddr, Act.put, hld]) rfl ?_
  have hA := HGA.out
  have hB := HGB.out
  refine ⟨_, _, _, _, _, _, _, _, _, rfl, ⟨rfl, rfl, rfl, HRC1.out.stay hst.out (fun y => by omega), HRC2.out.stay hst.out (fun y => by omega), HRC.out.stay hst.out (fun y => by omega), by omega, by omega, by omega⟩, ?_⟩
  exact stay_seal (X := fun k => w.heap.size ≤ k) (HSC.out.trans (hst.out.mono (fun k y => by omega))) (fun _ hk => hk)

end Go.Proofs.YtlmaooeeklhelaaGreatDoor.Tg

/-
  The document's device (drydockref01), plainly: what its calls make of it; held against the program's.
-/
namespace Go.Proofs.YtlmaooeeklhelaaGreatDoor.Tg
open Go.RowKit Pk
set_option maxRecDepth 100000

def writeR (r : RDev) (i : Int) (l : List UInt8) : RDev × Nat :=
  if (readR r i).2 ≠ 0 then (r, (readR r i).2) else if 64 < l.length then (r, 2) else if r.ar = true ∧ r.left = 0 then ({ r with cr := true }, 13)
  else ({ r with left := r.left - 1, wr := r.wr + 1, now := r.now.set i.toNat (pad l), loose := r.loose.set i.toNat true }, 0)
def settleR (r : RDev) (l : List (List UInt8)) : RDev := { r with now := l, safe := l, loose := List.replicate l.length false }
def flushR (r : RDev) : RDev × Nat := if (r.cr || r.lo) = true then (r, 13) else (settleR r r.now, 0)
def loseR (r : RDev) : RDev := { settleR r r.now with lo := true }
def newR (n : Nat) : RDev := ⟨List.replicate n zsec, List.replicate n zsec, List.replicate n false, 0, false, 0, false, false⟩
def replaceR (r : RDev) : RDev := if r.lo = true then { newR r.now.length with wr := r.wr } else r

/-- The document's device and the program's, that are at the same. -/
structure Sim (d : DS) (r : RDev) : Prop where
  n1 : r.now.length = d.n
  n2 : r.safe.length = d.n
  n3 : r.loose.length = d.n
  cr : r.cr = d.cr
  lo : r.lo = d.lo
  ar : r.ar = d.ar
  left : d.ar = true → r.left = d.left
  now : d.lo = false → ∀ j, j < d.n → r.now[j]? = some (d.cur j)
  safe : d.lo = false → ∀ j, j < d.n → r.safe[j]? = some (d.s j)
  loose : d.lo = false → ∀ j, j < d.n → r.loose[j]? = some (d.L j).isSome
  z : d.lo = true → d.s = (fun _ => zsec) ∧ d.L = none64

theorem sim_new (n : Nat) : Sim (fresh n) (newR n) := by
  refine ⟨by simp [newR, fresh], by simp [newR, fresh], by simp [newR, fresh], rfl, rfl, rfl, fun h => (by cases h), fun _ j hj => ?_, fun _ j hj => ?_, fun _ j hj => ?_, fun h => (by cases h)⟩
  · have hj' : j < n := hj
    simp [newR, fresh, DS.cur, none64, hj']
  · have hj' : j < n := hj
    simp [newR, fresh, hj']
  · have hj' : j < n := hj
    simp [newR, fresh, none64, hj']

theorem sim_settle {d : DS} {r : RDev} (h : Sim d r) (hlo : d.lo = false) : Sim d.flushed (settleR r r.now) := by
  refine ⟨h.n1, h.n1, by simp [settleR]; exact h.n1, h.cr, h.lo, h.ar, h.left, fun _ j hj => ?_, fun _ j hj => h.now hlo j hj, fun _ j hj => ?_, fun e => ?_⟩
  · have := h.now hlo j hj
    simpa [settleR, DS.flushed, DS.cur, none64] using this
  · have hj' : j < r.now.length := by rw [h.n1]; exact hj
    simp [settleR, DS.flushed, none64, hj']
  · have e' : d.lo = true := e
    rw [hlo] at e'
    cases e'

theorem sim_lose {d : DS} {r : RDev} (h : Sim d r) : Sim { d with lo := true, L := none64, s := fun _ => zsec } (loseR r) :=
  ⟨h.n1, h.n1, by simp [loseR, settleR]; exact h.n1, h.cr, rfl, h.ar, h.left, fun e => (by cases e), fun e => (by cases e), fun e => (by cases e), fun _ => ⟨rfl, rfl⟩⟩

theorem sim_replace {d : DS} {r : RDev} (h : Sim d r) (hlo : d.lo = true) : Sim { d with lo := false, cr := false, ar := false } (replaceR r) := by
  have hr : r.lo = true := h.lo.trans hlo
  have e : replaceR r = { newR r.now.length with wr := r.wr } := if_pos hr
  obtain ⟨z1, z2⟩ := h.z hlo
  rw [e, h.n1]
  refine ⟨by simp [newR], by simp [newR], by simp [newR], rfl, rfl, rfl, fun h => (by cases h), fun _ j hj => ?_, fun _ j hj => ?_, fun _ j hj => ?_, fun h => (by cases h)⟩
  · have hj' : j < d.n := hj
    simp [newR, DS.cur, z1, z2, none64, hj']
  · have hj' : j < d.n := hj
    simp [newR, z1, hj']
  · have hj' : j < d.n := hj
    simp [newR, z2, none64, hj']

theorem sim_wrote {d : DS} {r : RDev} (h : Sim d r) (hlo : d.lo = false) (i : Nat) (hi : i < d.n) (l : List UInt8) (lf : Int) (hlf : d.ar = true → lf = r.left - 1) :
    Sim ({ d with left := lf }.wrote i l) { r with left := r.left - 1, wr := r.wr + 1, now := r.now.set i (pad l), loose := r.loose.set i true } := by
  refine ⟨by simp; exact h.n1, h.n2, by simp; exact h.n3, h.cr, h.lo, h.ar, fun e => (hlf e).symm, fun _ j hj => ?_, fun _ j hj => h.safe hlo j hj, fun _ j hj => ?_, fun e => ?_⟩
  · have hj' : j < d.n := hj
    have h1 := h.now hlo j hj'
    by_cases e : i = j
    · subst e
      have : i < r.now.length := by rw [h.n1]; exact hi
      simp [DS.wrote, DS.cur, updL, this]
    · rw [List.getElem?_set_ne e, h1]
      have e' : ¬ j = i := fun q => e q.symm
      simp [DS.wrote, DS.cur, updL, e']
  · have hj' : j < d.n := hj
    have h1 := h.loose hlo j hj'
    by_cases e : i = j
    · subst e
      have : i < r.loose.length := by rw [h.n3]; exact hi
      simp [DS.wrote, updL, this]
    · rw [List.getElem?_set_ne e, h1]
      have e' : ¬ j = i := fun q => e q.symm
      simp [DS.wrote, updL, e']
  · have e' : d.lo = true := e
    rw [hlo] at e'
    cases e'

end Go.Proofs.YtlmaooeeklhelaaGreatDoor.Tg

/-
  The document's device (drydockref01): Write, where nothing is written.
-/
namespace Go.Proofs.YtlmaooeeklhelaaGreatDoor.Tg
open Go.RowKit Pk
set_option maxRecDepth 100000

theorem Strs.one {w : World} {v : Value} {xs : List (List UInt8)} (h : Strs w v xs) : v.oneCell' = true := by
  obtain ⟨a0, c, rfl, _⟩ := h
  rfl
theorem Marks.one {w : World} {v : Value} {ks : List Bool} (h : Marks w v ks) : v.oneCell' = true := by
  obtain ⟨a0, c, rfl, _⟩ := h
  rfl

set_option maxHeartbeats 4000000 in
theorem rwrite_none (w : World) (v1 v2 v3 : Value) (r : RDev) (i : Int) (l : List UInt8) (h1 : Strs w v1 r.now) (h2 : Strs w v2 r.safe) (h3 : Marks w v3 r.loose) (hi : I64 i) (hl : l.length ≤ 140737488355328) (hn : (readR r i).2 ≠ 0 ∨ 64 < l.length) :
    Calls Tryz.prog 8 #[.agg #[v1, v2, v3, .int .i64 r.wr, .bool r.ar, .int .i64 r.left, .bool r.cr, .bool r.lo], .int .i64 i, strV l] w fun e w' => e = .returned (.tuple #[.agg #[v1, v2, v3, .int .i64 r.wr, .bool r.ar, .int .i64 r.left, .bool r.cr, .bool r.lo], .int .i64 ((writeR r i l).2 : Nat)]) ∧ (writeR r i l).1 = r ∧ Stay (fun _ => False) w w' := by
  have HO1 := Lib.hid h1.one
  have HO2 := Lib.hid h2.one
  have HO3 := Lib.hid h3.one
  have HR := Lib.hid (show RefV w (.agg #[v1, v2, v3, .int .i64 r.wr, .bool r.ar, .int .i64 r.left, .bool r.cr, .bool r.lo]) r from ⟨v1, v2, v3, rfl, h1, h2, h3⟩)
  obtain ⟨b0, z0⟩ := box_two w v1 v2 v3 (.slice none 0 0) (.slice none 0 0) (.slice none 0 0) r zeroR
  have HB0 := Lib.hid b0
  have HZ0 := Lib.hid z0
  clear h1 h2 h3 b0 z0
  by_cases he : (readR r i).2 ≠ 0
  · have HW := Lib.hid (show writeR r i l = (r, (readR r i).2) from if_pos he)
    have heb : (((readR r i).2 : Int) == 0) = false := beq_eq_false_iff_ne.2 (by omega)
    have HRD := Lib.hid (fun W (hW : Stay (fun _ => False) w W) => rread_any W _ r i (HR.out.stay hW (fun _ _ y => y)) hi)
    generalize (readR r i) = rd at *
    unfold strV
    go_enter Tryz.func8, Tryz.ntmps8
    go_wp2_with (first
      | (refine wpList_load_mid rfl 33 (.tmp 3) rfl (w.heap.size) 0 rfl 33 #[v1, v2, v3, .int .i64 r.wr, .bool r.ar, .int .i64 r.left, .bool r.cr, .bool r.lo] #[v1, v2, v3, .int .i64 r.wr, .bool r.ar, .int .i64 r.left, .bool r.cr, .bool r.lo] (0, 0) _ HB0.out Tryz.underlying33 rfl (by kernel_rfl) (fun j _ => by rw [Nat.zero_add]) ?_))
    refine (HRD.out _ ((Stay.alloc _ _).trans (Stay.alloc _ _))).mono ?_
    rintro e w1 ⟨rfl, hs1⟩
    have HS1 := Lib.hid (show Stay (fun _ => False) w w1 from ((Stay.alloc _ _).trans (Stay.alloc _ _)).trans hs1)
    have HB1 := Lib.hid (HB0.out.stay hs1 (fun y => y))
    have HZ1 := Lib.hid (HZ0.out.stay hs1 (fun y => y))
    clear hs1
    unfold strV
    go_wp2_with (first
    | (refine wpList_load_mid rfl 33 (.tmp 3) rfl (w.heap.size) 0 rfl 33 #[v1, v2, v3, .int .i64 r.wr, .bool r.ar, .int .i64 r.left, .bool r.cr, .bool r.lo] #[v1, v2, v3, .int .i64 r.wr, .bool r.ar, .int .i64 r.left, .bool r.cr, .bool r.lo] (0, 0) _ HB1.out Tryz.underlying33 rfl (by kernel_rfl) (fun j _ => by rw [Nat.zero_add]) ?_)
    | (refine wpList_store_mid rfl 33 (.tmp 6) (.tmp 19) rfl (w.heap.size + 1) 0 rfl 33 _ [v1, v2, v3, .int .i64 r.wr, .bool r.ar, .int .i64 r.left, .bool r.cr, .bool r.lo] rfl HZ1.out (by kernel_rfl) (Nat.le_refl _) (by intro v hv; simp at hv; rcases hv with rfl | rfl | rfl | rfl | rfl | rfl | rfl | rfl <;> first | rfl | exact HO1.out | exact HO2.out | exact HO3.out) ?_
       intro wD hwD swD
       have HwD := Lib.hid (show wD.heap[w.heap.size + 1]? = some (.cells #[v1, v2, v3, .int .i64 r.wr, .bool r.ar, .int .i64 r.left, .bool r.cr, .bool r.lo] 33 (0, 0)) from hwD)
       have SwD := Lib.hid swD
       clear hwD swD
       skip))
    have hld := run_loadVar_mid (P := Tryz.prog) wD (w.heap.size + 1) 0 33 33 #[v1, v2, v3, .int .i64 r.wr, .bool r.ar, .int .i64 r.left, .bool r.cr, .bool r.lo] #[v1, v2, v3, .int .i64 r.wr, .bool r.ar, .int .i64 r.left, .bool r.cr, .bool r.lo] (0, 0) _ HwD.out Tryz.underlying33 rfl (by kernel_rfl) (fun j _ => by rw [Nat.zero_add])
    have hfin := Lib.hid (show Stay (fun _ => False) w wD from stay_seal (X := fun k => w.heap.size ≤ k) ((HS1.out.mono (fun _ y => y.elim)).trans (SwD.out.mono (fun k (y : k = _) => by omega))) (fun _ hk => hk))
    refine bodyPost_ret (v := .tuple #[.agg #[v1, v2, v3, .int .i64 r.wr, .bool r.ar, .int .i64 r.left, .bool r.cr, .bool r.lo], .int .i64 (rd.2 : Nat)]) (by simp [results, Tryz.results8, asAddr, Result.andThen, hld]) rfl ?_
    rw [HW.out]
    exact ⟨rfl, rfl, hfin.out⟩
  · have he0 : (readR r i).2 = 0 := Decidable.not_not.1 he
    have hlong : 64 < l.length := hn.resolve_left he
    have HW := Lib.hid (show writeR r i l = (r, 2) by unfold writeR; rw [if_neg he, if_pos hlong])
    have HRD := Lib.hid (fun W (hW : Stay (fun _ => False) w W) => rread_any W _ r i (HR.out.stay hW (fun _ _ y => y)) hi)
    rw [he0] at HRD
    generalize (readR r i).1 = rd at *
    clear he he0 hn
    have hsz : ((ByteArray.mk l.toArray).size : Int) = (l.length : Int) := rfl
    unfold strV
    go_enter Tryz.func8, Tryz.ntmps8
    go_wp2_with (first
      | (refine wpList_load_mid rfl 33 (.tmp 3) rfl (w.heap.size) 0 rfl 33 #[v1, v2, v3, .int .i64 r.wr, .bool r.ar, .int .i64 r.left, .bool r.cr, .bool r.lo] #[v1, v2, v3, .int .i64 r.wr, .bool r.ar, .int .i64 r.left, .bool r.cr, .bool r.lo] (0, 0) _ HB0.out Tryz.underlying33 rfl (by kernel_rfl) (fun j _ => by rw [Nat.zero_add]) ?_))
    refine (HRD.out _ ((Stay.alloc _ _).trans (Stay.alloc _ _))).mono ?_
    rintro e w1 ⟨rfl, hs1⟩
    have HS1 := Lib.hid (show Stay (fun _ => False) w w1 from ((Stay.alloc _ _).trans (Stay.alloc _ _)).trans hs1)
    have HB1 := Lib.hid (HB0.out.stay hs1 (fun y => y))
    have HZ1 := Lib.hid (HZ0.out.stay hs1 (fun y => y))
    clear hs1
    unfold strV
    go_wp2_with (first
    | (refine wpList_load_mid rfl 33 (.tmp 3) rfl (w.heap.size) 0 rfl 33 #[v1, v2, v3, .int .i64 r.wr, .bool r.ar, .int .i64 r.left, .bool r.cr, .bool r.lo] #[v1, v2, v3, .int .i64 r.wr, .bool r.ar, .int .i64 r.left, .bool r.cr, .bool r.lo] (0, 0) _ HB1.out Tryz.underlying33 rfl (by kernel_rfl) (fun j _ => by rw [Nat.zero_add]) ?_)
    | (refine wpList_store_mid rfl 33 (.tmp 6) (.tmp 25) rfl (w.heap.size + 1) 0 rfl 33 _ [v1, v2, v3, .int .i64 r.wr, .bool r.ar, .int .i64 r.left, .bool r.cr, .bool r.lo] rfl HZ1.out (by kernel_rfl) (Nat.le_refl _) (by intro v hv; simp at hv; rcases hv with rfl | rfl | rfl | rfl | rfl | rfl | rfl | rfl <;> first | rfl | exact HO1.out | exact HO2.out | exact HO3.out) ?_
       intro wD hwD swD
       have HwD := Lib.hid (show wD.heap[w.heap.size + 1]? = some (.cells #[v1, v2, v3, .int .i64 r.wr, .bool r.ar, .int .i64 r.left, .bool r.cr, .bool r.lo] 33 (0, 0)) from hwD)
       have SwD := Lib.hid swD
       clear hwD swD
       skip))
    have hld := run_loadVar_mid (P := Tryz.prog) wD (w.heap.size + 1) 0 33 33 #[v1, v2, v3, .int .i64 r.wr, .bool r.ar, .int .i64 r.left, .bool r.cr, .bool r.lo] #[v1, v2, v3, .int .i64 r.wr, .bool r.ar, .int .i64 r.left, .bool r.cr, .bool r.lo] (0, 0) _ HwD.out Tryz.underlying33 rfl (by kernel_rfl) (fun j _ => by rw [Nat.zero_add])
    have hfin := Lib.hid (show Stay (fun _ => False) w wD from stay_seal (X := fun k => w.heap.size ≤ k) ((HS1.out.mono (fun _ y => y.elim)).trans (SwD.out.mono (fun k (y : k = _) => by omega))) (fun _ hk => hk))
    refine bodyPost_ret (v := .tuple #[.agg #[v1, v2, v3, .int .i64 r.wr, .bool r.ar, .int .i64 r.left, .bool r.cr, .bool r.lo], .int .i64 2]) (by simp [results, Tryz.results8, asAddr, Result.andThen, hld]) rfl ?_
    rw [HW.out]
    exact ⟨rfl, rfl, hfin.out⟩

end Go.Proofs.YtlmaooeeklhelaaGreatDoor.Tg

/-
  The document's device (drydockref01) as a value that the walk does not look into: laws for its variable.
-/
namespace Go.Proofs.YtlmaooeeklhelaaGreatDoor.Tg
open Go.RowKit Pk
set_option maxRecDepth 100000

/-- The document's device by value. -/
def devV (v1 v2 v3 : Value) (r : RDev) : Value := .agg #[v1, v2, v3, .int .i64 r.wr, .bool r.ar, .int .i64 r.left, .bool r.cr, .bool r.lo]

/-- Its rows read so. -/
structure Dv (w : World) (v1 v2 v3 : Value) (r : RDev) : Prop where
  s1 : Strs w v1 r.now
  s2 : Strs w v2 r.safe
  s3 : Marks w v3 r.loose

theorem Dv.stay {X : Nat → Prop} {w w' : World} {v1 v2 v3 : Value} {r : RDev} (h : Dv w v1 v2 v3 r) (hs : Stay X w w') (hx : ∀ k, k < w.heap.size → ¬ X k) : Dv w' v1 v2 v3 r := ⟨h.s1.stay hs hx, h.s2.stay hs hx, h.s3.stay hs hx⟩
theorem Dv.stay0 {w w' : World} {v1 v2 v3 : Value} {r : RDev} (h : Dv w v1 v2 v3 r) (hs : Stay (fun _ => False) w w') : Dv w' v1 v2 v3 r := h.stay hs (fun _ _ x => x)
theorem Dv.ref {w : World} {v1 v2 v3 : Value} {r : RDev} (h : Dv w v1 v2 v3 r) : RefV w (devV v1 v2 v3 r) r := ⟨v1, v2, v3, rfl, h.s1, h.s2, h.s3⟩
theorem RefV.dv {w : World} {v : Value} {r : RDev} (h : RefV w v r) : ∃ v1 v2 v3, v = devV v1 v2 v3 r ∧ Dv w v1 v2 v3 r := by
  obtain ⟨v1, v2, v3, e, h1, h2, h3⟩ := h
  exact ⟨v1, v2, v3, e, h1, h2, h3⟩

/-- Three values that go into one cell each. -/
structure One3 (v1 v2 v3 : Value) : Prop where
  o1 : v1.oneCell' = true
  o2 : v2.oneCell' = true
  o3 : v3.oneCell' = true
theorem Dv.one {w : World} {v1 v2 v3 : Value} {r : RDev} (h : Dv w v1 v2 v3 r) : One3 v1 v2 v3 := ⟨h.s1.one, h.s2.one, h.s3.one⟩

theorem run_load_box {w : World} {g : Nat} {v1 v2 v3 : Value} {r : RDev} (h : BoxAt w g v1 v2 v3 r) : (loadVar 33 ⟨g, 0, none⟩).run Tryz.prog w = .ok (devV v1 v2 v3 r) w :=
  run_loadVar_mid (P := Tryz.prog) w g 0 33 33 #[v1, v2, v3, .int .i64 r.wr, .bool r.ar, .int .i64 r.left, .bool r.cr, .bool r.lo] #[v1, v2, v3, .int .i64 r.wr, .bool r.ar, .int .i64 r.left, .bool r.cr, .bool r.lo] (0, 0) _ h Tryz.underlying33 rfl (by kernel_rfl) (fun j _ => by rw [Nat.zero_add])
theorem load_box {ops : Array Oper} {rest : List Oper} {o : Oper} {a : Act} {w : World} {Q : Exit → Act → World → Prop} (hgd : o.guard = none) (x : Operand) (ho : o.op = .load 33 x)
    (g : Nat) (hx : a.eval x = .pointer (some ⟨g, 0, none⟩)) (v1 v2 v3 : Value) (r : RDev) (h : BoxAt w g v1 v2 v3 r)
    (hn : wpList Tryz.prog ops Q rest (a.put o.dst (devV v1 v2 v3 r)) w) : wpList Tryz.prog ops Q (o :: rest) a w :=
  wpList_plain hgd fun _ hK => by
    unfold Oper.wp execOp
    simp only [ho, hx, Instr.loadAt, Instr.sureAddr, Sem.run_bind, Sem.run_pure, Result.andThen_ok, run_load_box h]
    exact hK _ _ hn
theorem store_box {ops : Array Oper} {rest : List Oper} {o : Oper} {a : Act} {w : World} {Q : Exit → Act → World → Prop} (hgd : o.guard = none) (x y : Operand) (ho : o.op = .store 33 x y)
    (g : Nat) (hx : a.eval x = .pointer (some ⟨g, 0, none⟩)) (v1 v2 v3 u1 u2 u3 : Value) (r s : RDev) (hy : a.eval y = devV v1 v2 v3 r) (h1 : One3 v1 v2 v3) (h : BoxAt w g u1 u2 u3 s)
    (hn : ∀ w', BoxAt w' g v1 v2 v3 r → Stay (fun k => k = g) w w' → wpList Tryz.prog ops Q rest (a.put o.dst undef) w') : wpList Tryz.prog ops Q (o :: rest) a w :=
  wpList_store_mid hgd 33 x y ho g 0 hx 33 [u1, u2, u3, .int .i64 s.wr, .bool s.ar, .int .i64 s.left, .bool s.cr, .bool s.lo] [v1, v2, v3, .int .i64 r.wr, .bool r.ar, .int .i64 r.left, .bool r.cr, .bool r.lo] hy h (by kernel_rfl) (Nat.le_refl _)
    (by intro v hv; simp at hv; rcases hv with rfl | rfl | rfl | rfl | rfl | rfl | rfl | rfl <;> first | rfl | exact h1.o1 | exact h1.o2 | exact h1.o3) (fun w' h2 h3 => hn w' h2 h3)

theorem BoxAt.set3 {w : World} {g : Nat} {v1 v2 v3 : Value} {r : RDev} (h : BoxAt w g v1 v2 v3 r) (u : Int) : BoxAt (w.setCell ⟨g, 3, none⟩ (.int .i64 u)) g v1 v2 v3 { r with wr := u } := by
  have h' : w.heap[g]? = _ := h
  simp [BoxAt, World.setCell, Array.getElem?_modify, h']
theorem BoxAt.set4 {w : World} {g : Nat} {v1 v2 v3 : Value} {r : RDev} (h : BoxAt w g v1 v2 v3 r) (u : Bool) : BoxAt (w.setCell ⟨g, 4, none⟩ (.bool u)) g v1 v2 v3 { r with ar := u } := by
  have h' : w.heap[g]? = _ := h
  simp [BoxAt, World.setCell, Array.getElem?_modify, h']
theorem BoxAt.set5 {w : World} {g : Nat} {v1 v2 v3 : Value} {r : RDev} (h : BoxAt w g v1 v2 v3 r) (u : Int) : BoxAt (w.setCell ⟨g, 5, none⟩ (.int .i64 u)) g v1 v2 v3 { r with left := u } := by
  have h' : w.heap[g]? = _ := h
  simp [BoxAt, World.setCell, Array.getElem?_modify, h']
theorem BoxAt.set6 {w : World} {g : Nat} {v1 v2 v3 : Value} {r : RDev} (h : BoxAt w g v1 v2 v3 r) (u : Bool) : BoxAt (w.setCell ⟨g, 6, none⟩ (.bool u)) g v1 v2 v3 { r with cr := u } := by
  have h' : w.heap[g]? = _ := h
  simp [BoxAt, World.setCell, Array.getElem?_modify, h']
theorem BoxAt.set7 {w : World} {g : Nat} {v1 v2 v3 : Value} {r : RDev} (h : BoxAt w g v1 v2 v3 r) (u : Bool) : BoxAt (w.setCell ⟨g, 7, none⟩ (.bool u)) g v1 v2 v3 { r with lo := u } := by
  have h' : w.heap[g]? = _ := h
  simp [BoxAt, World.setCell, Array.getElem?_modify, h']
theorem BoxAt.as {w : World} {g : Nat} {v1 v2 v3 : Value} {r s : RDev} (h : BoxAt w g v1 v2 v3 r) (e1 : r.wr = s.wr) (e2 : r.ar = s.ar) (e3 : r.left = s.left) (e4 : r.cr = s.cr) (e5 : r.lo = s.lo) : BoxAt w g v1 v2 v3 s := by
  unfold BoxAt at h ⊢
  rw [h, e1, e2, e3, e4, e5]

theorem RowAt.strs {w : World} {g c : Nat} {xs : List (List UInt8)} (h : RowAt w g 9 c (cellsS xs)) (hl : xs.length ≤ 16384) : Strs w (.slice (some ⟨g, 0, none⟩) xs.length c) xs :=
  ⟨_, c, rfl, (fun e => by cases e), fun _ => ⟨g, 0, rfl, h.lt, fun j l hj => by rw [Nat.zero_add]; exact h.cell (by simp [cellsS, hj])⟩, hl⟩
theorem RowAt.marks {w : World} {g c : Nat} {ks : List Bool} (h : RowAt w g 4 c (cellsK ks)) (hl : ks.length ≤ 16384) : Marks w (.slice (some ⟨g, 0, none⟩) ks.length c) ks :=
  ⟨_, c, rfl, (fun e => by cases e), fun _ => ⟨⟨g, 0, none⟩, rfl, h.lt, fun j v hj => by rw [add_at, Nat.zero_add]; exact h.cell hj⟩, by omega⟩

/-- The blocks in which rows lie. -/
def blk3 (v1 v2 v3 : Value) (k : Nat) : Prop := v1.ownBlock = some k ∨ v2.ownBlock = some k ∨ v3.ownBlock = some k
/-- Rows that lie behind all that there was. -/
def Fr (base : Nat) (v1 v2 v3 : Value) : Prop := ∀ k, blk3 v1 v2 v3 k → base ≤ k
theorem Fr.le {base b2 : Nat} {v1 v2 v3 : Value} (h : Fr base v1 v2 v3) (hb : b2 ≤ base) : Fr b2 v1 v2 v3 := fun k hk => Nat.le_trans hb (h k hk)
theorem fr_rows (base g1 g2 g3 n1 n2 n3 c1 c2 c3 : Nat) (h1 : base ≤ g1) (h2 : base ≤ g2) (h3 : base ≤ g3) : Fr base (.slice (some ⟨g1, 0, none⟩) n1 c1) (.slice (some ⟨g2, 0, none⟩) n2 c2) (.slice (some ⟨g3, 0, none⟩) n3 c3) := by
  rintro k (h | h | h) <;> (cases h; assumption)
theorem Strs.stayB {X : Nat → Prop} {w w' : World} {v : Value} {xs : List (List UInt8)} (h : Strs w v xs) (hs : Stay X w w') (hx : ∀ k, v.ownBlock = some k → ¬ X k) : Strs w' v xs := by
  obtain ⟨a0, c, rfl, hn, hr, hl⟩ := h
  refine ⟨a0, c, rfl, hn, fun h0 => ?_, hl⟩
  obtain ⟨g, o, rfl, hlt, hc⟩ := hr h0
  exact ⟨g, o, rfl, Nat.lt_of_lt_of_le hlt hs.size, fun j l hj => hs.cell (hc j l hj) (hx g rfl)⟩
theorem Marks.stayB {X : Nat → Prop} {w w' : World} {v : Value} {ks : List Bool} (h : Marks w v ks) (hs : Stay X w w') (hx : ∀ k, v.ownBlock = some k → ¬ X k) : Marks w' v ks := by
  obtain ⟨a0, c, rfl, hn, hr, hl⟩ := h
  refine ⟨a0, c, rfl, hn, fun h0 => ?_, hl⟩
  obtain ⟨ad, rfl, hlt, hc⟩ := hr h0
  refine ⟨ad, rfl, Nat.lt_of_lt_of_le hlt hs.size, fun j v hv => hs.cell (hc j v hv) ?_⟩
  have hb : (ad.add j).block = ad.block := by unfold Addr.add; split <;> rfl
  rw [hb]
  exact hx ad.block rfl
theorem Dv.stayB {X : Nat → Prop} {w w' : World} {v1 v2 v3 : Value} {r : RDev} (h : Dv w v1 v2 v3 r) (hs : Stay X w w') (hx : ∀ k, blk3 v1 v2 v3 k → ¬ X k) : Dv w' v1 v2 v3 r :=
  ⟨h.s1.stayB hs (fun k e => hx k (.inl e)), h.s2.stayB hs (fun k e => hx k (.inr (.inl e))), h.s3.stayB hs (fun k e => hx k (.inr (.inr e)))⟩

/-- A device of n sectors, none of them at its bounds. -/
structure ROk (n : Nat) (b : Int) (r : RDev) : Prop where
  n1 : r.now.length = n
  n2 : r.safe.length = n
  n3 : r.loose.length = n
  w0 : 0 ≤ r.wr
  w1 : r.wr ≤ b
  f0 : -b ≤ r.left
  f1 : r.left ≤ b

theorem twin_dv (w : World) (v1 v2 v3 : Value) (r : RDev) (n : Nat) (b : Int) (h : Dv w v1 v2 v3 r) (hr : ROk n b r) (h0 : 0 < n) (hn : n ≤ 16384) :
    Calls Tryz.prog 29 #[devV v1 v2 v3 r] w fun e w' => ∃ u1 u2 u3 g1 g2 g3 c1 c2 c3, e = .returned (devV u1 u2 u3 r) ∧ TwinAt w' w.heap.size u1 u2 u3 g1 g2 g3 c1 c2 c3 r ∧ Stay (fun _ => False) w w' :=
  twin_any w v1 v2 v3 r h.s1 h.s2 h.s3 (by rw [hr.n1]; exact h0) (by rw [hr.n2]; exact h0) (by rw [hr.n3]; exact h0) (by rw [hr.n3]; exact hn)
theorem Dv.lt {w : World} {v1 v2 v3 : Value} {r : RDev} {n : Nat} {b : Int} (h : Dv w v1 v2 v3 r) (hr : ROk n b r) (h0 : 0 < n) : ∀ k, blk3 v1 v2 v3 k → k < w.heap.size := by
  rintro k (e | e | e)
  · obtain ⟨a0, c, rfl, _, q, _⟩ := h.s1
    obtain ⟨g, o, rfl, hg, _⟩ := q (by rw [hr.n1]; exact h0)
    cases e; exact hg
  · obtain ⟨a0, c, rfl, _, q, _⟩ := h.s2
    obtain ⟨g, o, rfl, hg, _⟩ := q (by rw [hr.n2]; exact h0)
    cases e; exact hg
  · obtain ⟨a0, c, rfl, _, q, _⟩ := h.s3
    obtain ⟨ad, rfl, hg, _⟩ := q (by rw [hr.n3]; exact h0)
    cases e; exact hg
theorem TwinAt.one {w : World} {base : Nat} {v1 v2 v3 : Value} {g1 g2 g3 c1 c2 c3 : Nat} {r : RDev} (h : TwinAt w base v1 v2 v3 g1 g2 g3 c1 c2 c3 r) : One3 v1 v2 v3 := ⟨by rw [h.e1]; rfl, by rw [h.e2]; rfl, by rw [h.e3]; rfl⟩

end Go.Proofs.YtlmaooeeklhelaaGreatDoor.Tg

/-
  The document's device (drydockref01): Write, where it crashes.
-/
namespace Go.Proofs.YtlmaooeeklhelaaGreatDoor.Tg
open Go.RowKit Pk
set_option maxRecDepth 100000

set_option maxHeartbeats 2000000 in
theorem rwrite_crash (w : World) (v1 v2 v3 : Value) (r : RDev) (n : Nat) (b : Int) (i : Int) (l : List UInt8) (h : Dv w v1 v2 v3 r) (hr : ROk n b r) (h0 : 0 < n) (hn : n ≤ 16384) (hi : I64 i) (hl : l.length ≤ 64) (he : (readR r i).2 = 0) (ha : r.ar = true) (hf : r.left = 0) :
    Calls Tryz.prog 8 #[devV v1 v2 v3 r, .int .i64 i, strV l] w fun e w' => ∃ u1 u2 u3, e = .returned (.tuple #[devV u1 u2 u3 { r with cr := true }, .int .i64 13]) ∧ Dv w' u1 u2 u3 { r with cr := true } ∧ Fr w.heap.size u1 u2 u3 ∧ Stay (fun _ => False) w w' := by
  obtain ⟨b0, z0⟩ := box_two w v1 v2 v3 (.slice none 0 0) (.slice none 0 0) (.slice none 0 0) r zeroR
  obtain ⟨w1, hw1⟩ : ∃ w1, ((w.alloc (.cells #[v1, v2, v3, .int .i64 r.wr, .bool r.ar, .int .i64 r.left, .bool r.cr, .bool r.lo] 33)).alloc (.cells #[.slice none 0 0, .slice none 0 0, .slice none 0 0, .int .i64 0, .bool false, .int .i64 0, .bool false, .bool false] 33)) = w1 := ⟨_, rfl⟩
  have hst : Stay (fun _ => False) w w1 := hw1 ▸ ((Stay.alloc _ _).trans (Stay.alloc _ _))
  have hsz : w1.heap.size = w.heap.size + 2 := by rw [← hw1]; simp
  have HB0 := Lib.hid (show BoxAt w1 w.heap.size v1 v2 v3 r from hw1 ▸ b0)
  have HZ0 := Lib.hid (show BoxAt w1 (w.heap.size + 1) (.slice none 0 0) (.slice none 0 0) (.slice none 0 0) zeroR from hw1 ▸ z0)
  have HD := Lib.hid (h.stay0 hst)
  have HST := Lib.hid hst
  have HSZ := Lib.hid hsz
  have HRO := Lib.hid hr
  have HE := Lib.hid he
  have HA := Lib.hid ha
  have HF := Lib.hid hf
  have hlb : ¬ ((64 : Int) < ((ByteArray.mk l.toArray).size : Int)) := by
    have : (ByteArray.mk l.toArray).size = l.length := rfl
    omega
  have HRD := Lib.hid (fun W (hW : Stay (fun _ => False) w1 W) => rread_any W _ r i ((HD.out.stay0 hW).ref) hi)
  rw [he] at HRD
  generalize (readR r i).1 = rd at *
  clear b0 z0 hst hsz h hr he ha hf
  unfold devV strV
  go_enter Tryz.func8, Tryz.ntmps8
  go_wp2_with (refine load_box rfl (.tmp 3) rfl w.heap.size rfl v1 v2 v3 r HB0.out ?_)
  clear hw1
  refine (HRD.out w1 (Stay.refl _ _)).mono ?_
  rintro e w2 ⟨rfl, s2⟩
  have HB2 := Lib.hid (HB0.out.stay s2 (fun x => x))
  have HZ2 := Lib.hid (HZ0.out.stay s2 (fun x => x))
  have HD2 := Lib.hid (HD.out.stay0 s2)
  have HS2 := Lib.hid s2
  clear s2
  unfold strV
  go_wp2_with (refine load_box rfl (.tmp 3) rfl w.heap.size rfl v1 v2 v3 r HB2.out ?_)
  refine (twin_dv w2 v1 v2 v3 r n b HD2.out HRO.out h0 hn).mono ?_
  rintro e w3 ⟨u1, u2, u3, g1, g2, g3, c1, c2, c3, rfl, ht, s3⟩
  have HT := Lib.hid ht
  have HB3 := Lib.hid (HB2.out.stay s3 (fun x => x))
  have HZ3 := Lib.hid (HZ2.out.stay s3 (fun x => x))
  have HS3 := Lib.hid s3
  have HO := Lib.hid ht.one
  clear ht s3
  have hg1 : w1.heap.size ≤ w2.heap.size := HS2.out.size
  have HG1 := Lib.hid hg1
  clear hg1
  go_wp2_with (first
    | (refine store_box rfl (.tmp 3) (.tmp 27) rfl w.heap.size rfl u1 u2 u3 v1 v2 v3 r r rfl HO.out HB3.out ?_
       intro w4 hb4 s4
       have k4 := hb4.c 4
       have k5 := hb4.c 5
       have k6 := hb4.c 6
       have f6 := hb4.f 6
       rw [show (#[u1, u2, u3, .int .i64 r.wr, .bool r.ar, .int .i64 r.left, .bool r.cr, .bool r.lo] : Array Value)[4]? = some (.bool true) by rw [← HA.out]; rfl] at k4
       rw [show (#[u1, u2, u3, .int .i64 r.wr, .bool r.ar, .int .i64 r.left, .bool r.cr, .bool r.lo] : Array Value)[5]? = some (.int .i64 0) by rw [← HF.out]; rfl] at k5
       have HB4 := Lib.hid hb4
       have HS4 := Lib.hid s4
       have HB5 := Lib.hid (hb4.set6 true)
       have HZ4 := Lib.hid (((HZ3.out.stay s4 (fun (e : w.heap.size + 1 = w.heap.size) => by omega)).stay (Stay.setCell (X := fun k => k = w.heap.size) w4 ⟨w.heap.size, 6, none⟩ (.bool true) rfl) (fun (e : w.heap.size + 1 = w.heap.size) => by omega)))
       clear hb4 s4)
    | (refine load_box rfl (.tmp 3) rfl w.heap.size rfl u1 u2 u3 { r with cr := true } HB5.out ?_)
    | (refine store_box rfl (.tmp 6) (.tmp 36) rfl (w.heap.size + 1) rfl u1 u2 u3 _ _ _ { r with cr := true } zeroR rfl HO.out HZ4.out ?_
       intro w6 hb6 s6
       have HB6 := Lib.hid hb6
       have HS6 := Lib.hid s6
       clear hb6 s6))
  have hld := run_load_box HB6.out
  have hx := Lib.hid (show Stay (fun k => k = w.heap.size ∨ k = w.heap.size + 1) w3 w6 from ((HS4.out.mono (fun k e => .inl e)).trans (Stay.setCell _ _ _ (.inl rfl))).trans (HS6.out.mono (fun k e => .inr e)))
  have hfin := Lib.hid (show Stay (fun _ => False) w w6 from stay_seal (X := fun k => w.heap.size ≤ k) ((((HST.out.trans HS2.out).trans HS3.out).mono (fun _ y => y.elim)).trans (hx.out.mono (fun k y => by omega))) (fun _ hk => hk))
  refine bodyPost_ret (v := .tuple #[devV u1 u2 u3 { r with cr := true }, .int .i64 13]) (by simp [results, Tryz.results8, asAddr, hld]) rfl ?_
  have t := HT.out
  refine ⟨u1, u2, u3, rfl, ?_, by rw [t.e1, t.e2, t.e3]; have := t.b1; have := t.l12; have := t.l23; have := HSZ.out; have := HG1.out; exact fr_rows _ _ _ _ _ _ _ _ _ _ (by omega) (by omega) (by omega), hfin.out⟩
  have t1 := t.b1
  have t2 := t.l12
  have t3 := t.l23
  have z := HSZ.out
  have z2 := HG1.out
  exact ⟨by rw [t.e1]; exact (t.r1.stay hx.out (fun y => by omega)).strs (by rw [HRO.out.n1]; exact hn), by rw [t.e2]; exact (t.r2.stay hx.out (fun y => by omega)).strs (by rw [HRO.out.n2]; exact hn), by rw [t.e3]; exact (t.r3.stay hx.out (fun y => by omega)).marks (by rw [HRO.out.n3]; exact hn)⟩

end Go.Proofs.YtlmaooeeklhelaaGreatDoor.Tg

/-
  The document's device (drydockref01): Write, where something is written.
-/
namespace Go.Proofs.YtlmaooeeklhelaaGreatDoor.Tg
open Go.RowKit Pk
set_option maxRecDepth 100000

theorem cellsS_set (xs : List (List UInt8)) (k : Nat) (l : List UInt8) : (cellsS xs).set k (strV l) = cellsS (xs.set k l) := by simp [cellsS, List.map_set]
theorem cellsK_set (ks : List Bool) (k : Nat) (b : Bool) : (cellsK ks).set k (.bool b) = cellsK (ks.set k b) := by simp [cellsK, List.map_set]

/-- What is made of a device by a write. -/
def wroteR (r : RDev) (k : Nat) (l : List UInt8) : RDev := { r with left := r.left - 1, wr := r.wr + 1, now := r.now.set k (pad l), loose := r.loose.set k true }

set_option maxHeartbeats 4000000 in
theorem rwrite_some (w : World) (v1 v2 v3 : Value) (r : RDev) (n : Nat) (b : Int) (k : Nat) (l : List UInt8) (h : Dv w v1 v2 v3 r) (hr : ROk n b r) (hb : b ≤ 1099511627776) (hn : n ≤ 16384) (hk : k < n) (hl : l.length ≤ 64) (he : (readR r k).2 = 0) (ha : r.ar = false ∨ r.left ≠ 0) :
    Calls Tryz.prog 8 #[devV v1 v2 v3 r, .int .i64 (k : Int), strV l] w fun e w' => ∃ u1 u2 u3, e = .returned (.tuple #[devV u1 u2 u3 (wroteR r k l), .int .i64 0]) ∧ Dv w' u1 u2 u3 (wroteR r k l) ∧ Fr w.heap.size u1 u2 u3 ∧ Stay (fun _ => False) w w' := by
  obtain ⟨b0, z0⟩ := box_two w v1 v2 v3 (.slice none 0 0) (.slice none 0 0) (.slice none 0 0) r zeroR
  obtain ⟨w1, hw1⟩ : ∃ w1, ((w.alloc (.cells #[v1, v2, v3, .int .i64 r.wr, .bool r.ar, .int .i64 r.left, .bool r.cr, .bool r.lo] 33)).alloc (.cells #[.slice none 0 0, .slice none 0 0, .slice none 0 0, .int .i64 0, .bool false, .int .i64 0, .bool false, .bool false] 33)) = w1 := ⟨_, rfl⟩
  have hst : Stay (fun _ => False) w w1 := hw1 ▸ ((Stay.alloc _ _).trans (Stay.alloc _ _))
  have hsz : w1.heap.size = w.heap.size + 2 := by rw [← hw1]; simp
  have HB0 := Lib.hid (show BoxAt w1 w.heap.size v1 v2 v3 r from hw1 ▸ b0)
  have HZ0 := Lib.hid (show BoxAt w1 (w.heap.size + 1) (.slice none 0 0) (.slice none 0 0) (.slice none 0 0) zeroR from hw1 ▸ z0)
  have HD := Lib.hid (h.stay0 hst)
  have HST := Lib.hid hst
  have HSZ := Lib.hid hsz
  have HRO := Lib.hid hr
  have HA := Lib.hid ha
  have hi : I64 (k : Int) := by constructor <;> omega
  have hlb : ¬ ((64 : Int) < ((ByteArray.mk l.toArray).size : Int)) := by
    have : (ByteArray.mk l.toArray).size = l.length := rfl
    omega
  have HRD := Lib.hid (fun W (hW : Stay (fun _ => False) w1 W) => rread_any W _ r (k : Int) ((HD.out.stay0 hW).ref) hi)
  rw [he] at HRD
  generalize (readR r (k : Int)).1 = rd at *
  have hkn : (k : Int) < (n : Int) := by omega
  have wl : IntKind.i64.wrap (r.left - 1) = r.left - 1 := IntWalk.i64_in _ (by have := hr.f0; have := hr.f1; omega)
  have ww : IntKind.i64.wrap (r.wr + 1) = r.wr + 1 := IntWalk.i64_in _ (by have := hr.w0; have := hr.w1; omega)
  have HK := Lib.hid hk
  have HLL := Lib.hid hl
  clear b0 z0 hst hsz h hr he ha hi hk
  unfold devV strV
  go_enter Tryz.func8, Tryz.ntmps8
  go_wp2_with (refine load_box rfl (.tmp 3) rfl w.heap.size rfl v1 v2 v3 r HB0.out ?_)
  clear hw1
  refine (HRD.out w1 (Stay.refl _ _)).mono ?_
  rintro e w2 ⟨rfl, s2⟩
  have HB2 := Lib.hid (HB0.out.stay s2 (fun x => x))
  have HZ2 := Lib.hid (HZ0.out.stay s2 (fun x => x))
  have HD2 := Lib.hid (HD.out.stay0 s2)
  have HS2 := Lib.hid s2
  clear s2
  unfold strV
  go_wp2_with (refine load_box rfl (.tmp 3) rfl w.heap.size rfl v1 v2 v3 r HB2.out ?_)
  refine (twin_dv w2 v1 v2 v3 r n b HD2.out HRO.out (by have := HK.out; omega) hn).mono ?_
  rintro e w3 ⟨u1, u2, u3, g1, g2, g3, c1, c2, c3, rfl, ht, s3⟩
  have e1 := ht.e1
  have e2 := ht.e2
  have e3 := ht.e3
  rw [HRO.out.n1] at e1
  rw [HRO.out.n2] at e2
  rw [HRO.out.n3] at e3
  have HO := Lib.hid ht.one
  have HT := Lib.hid ht
  subst e1
  subst e2
  subst e3
  have HB3 := Lib.hid (HB2.out.stay s3 (fun x => x))
  have HZ3 := Lib.hid (HZ2.out.stay s3 (fun x => x))
  have HS3 := Lib.hid s3
  have HG1 := Lib.hid (show w1.heap.size ≤ w2.heap.size from HS2.out.size)
  clear ht s3
  have hcs : r.ar = false ∨ (r.ar = true ∧ r.left ≠ 0) := by
    have := HA.out
    cases h : r.ar
    · exact .inl rfl
    · rw [h] at this
      exact .inr ⟨rfl, this.resolve_left (by decide)⟩
  have HCS : Hid (∃ ab : Bool, r.ar = ab ∧ (ab = true → (r.left == 0) = false)) := Lib.hid (by
    rcases hcs with h | ⟨h, h2⟩
    · exact ⟨false, h, fun e => by cases e⟩
    · exact ⟨true, h, fun _ => beq_eq_false_iff_ne.2 h2⟩)
  clear hcs
  obtain ⟨ab, hab, hlf⟩ := HCS.out
  have HAB := Lib.hid hab
  clear hab HCS HA
  have hcase : (ab = true ∧ (r.left == 0) = false) ∨ ab = false := by
    cases ab
    · exact .inr rfl
    · exact .inl ⟨rfl, hlf rfl⟩
  clear hlf
  rcases hcase with ⟨rfl, hlf⟩ | rfl
  all_goals
    go_wp2_with (
      refine store_box rfl (.tmp 3) (.tmp 27) rfl w.heap.size rfl (.slice (some ⟨g1, 0, none⟩) n c1) (.slice (some ⟨g2, 0, none⟩) n c2) (.slice (some ⟨g3, 0, none⟩) n c3) v1 v2 v3 r r rfl HO.out HB3.out ?_
      intro w4 hb4 s4
      have k0 := hb4.c 0
      have k3 := hb4.c 3
      have f3 := hb4.f 3
      have k4 := hb4.c 4
      have k5 := hb4.c 5
      have f5 := hb4.f 5
      rw [HAB.out] at k4
      have HB4 := Lib.hid hb4
      obtain ⟨w6, hw6⟩ : ∃ w6, (w4.setCell ⟨w.heap.size, 5, none⟩ (.int .i64 (r.left - 1))).setCell ⟨w.heap.size, 3, none⟩ (.int .i64 (r.wr + 1)) = w6 := ⟨_, rfl⟩
      have HB6 := Lib.hid (show BoxAt w6 w.heap.size (.slice (some ⟨g1, 0, none⟩) n c1) (.slice (some ⟨g2, 0, none⟩) n c2) (.slice (some ⟨g3, 0, none⟩) n c3) (wroteR r k l) from hw6 ▸ ((hb4.set5 (r.left - 1)).set3 (r.wr + 1)).as rfl rfl rfl rfl rfl)
      have HS6 := Lib.hid (show Stay (fun k => k = w.heap.size) w3 w6 from hw6 ▸ ((s4.trans (Stay.setCell _ _ _ rfl)).trans (Stay.setCell _ _ _ rfl)))
      have b0 := HB6.out.c 0
      clear hb4 s4 k0)
    clear hw6 k3 f3 k4 k5 f5
    have hg1 := HT.out.b1
    have hg2 := HT.out.l12
    have hg3 := HT.out.l23
    have hz := HSZ.out
    have hz2 := HG1.out
    have r1 := HT.out.r1.stay HS6.out (fun y => by omega)
    have r3 := HT.out.r3.stay HS6.out (fun y => by omega)
    have r2 := HT.out.r2.stay HS6.out (fun y => by omega)
    have HR1 := Lib.hid r1
    have HR2 := Lib.hid r2
    have HR3 := Lib.hid r3
    have HN1 := Lib.hid (show g1 ≠ w.heap.size ∧ g3 ≠ w.heap.size ∧ g1 ≠ g3 ∧ g1 ≠ g2 ∧ g2 ≠ g3 ∧ w.heap.size + 2 ≤ g2 ∧ w.heap.size + 2 ≤ g1 ∧ w.heap.size + 2 ≤ g3 by omega)
    clear hg1 hg2 hg3 hz hz2 r1 r2 r3
    obtain ⟨t0, ht0⟩ : ∃ t0, r.now[k]? = some t0 := ⟨_, List.getElem?_eq_getElem (by rw [HRO.out.n1]; exact HK.out)⟩
    obtain ⟨m0, hm0⟩ : ∃ m0, r.loose[k]? = some m0 := ⟨_, List.getElem?_eq_getElem (by rw [HRO.out.n3]; exact HK.out)⟩
    have HT0 := Lib.hid (show (cellsS r.now)[k]? = some (strV t0) by simp [cellsS, ht0])
    have HM0 := Lib.hid (show (cellsK r.loose)[k]? = some (.bool m0) by simp [cellsK, hm0])
    clear ht0 hm0
    go_region_with (
      go_at_call 26
      refine (blank_any l HLL.out _).mono ?_
      rintro e w7 ⟨rfl, s7⟩
      have hs7 := (Stay.drew (X := fun _ => False) (w := w6)).trans s7
      have q1 := (HR1.out.stay hs7 (fun y => y)).cell HT0.out
      have q2 := (HR1.out.stay hs7 (fun y => y)).frozen k
      have q3 := (HB6.out.stay hs7 (fun y => y)).c 0
      have HS7 := Lib.hid hs7
      unfold strV at q1 ⊢
      clear s7 hs7)
    all_goals
      obtain ⟨w8, hw8⟩ : ∃ w8, w7.setCell ⟨g1, k, none⟩ (.string ⟨(pad l).toArray⟩) = w8 := ⟨_, rfl⟩
      rw [hw8]
      have hn1 := HN1.out
      have hs8 : Stay (fun j => j = g1) w6 w8 := hw8 ▸ ((HS7.out.mono (fun _ y => y.elim)).trans (Stay.setCell _ _ _ rfl))
      have p1 : RowAt w8 g1 9 c1 (cellsS (r.now.set k (pad l))) := by
        rw [← cellsS_set]
        exact hw8 ▸ (HR1.out.stay HS7.out (fun y => y)).set k (strV (pad l))
      have p2 := HR2.out.stay hs8 (fun y => by omega)
      have p3 := HR3.out.stay hs8 (fun y => by omega)
      have pb := HB6.out.stay hs8 (fun y => by omega)
      have c2' := pb.c 2
      have c3' := p3.cell HM0.out
      have f3' := p3.frozen k
      have P1 := Lib.hid p1
      have P2 := Lib.hid p2
      have P3 := Lib.hid p3
      have PB := Lib.hid pb
      have HS8 := Lib.hid hs8
      clear q1 q2 q3 b0 hw8 hs8 p1 p2 p3 pb hn1
      obtain ⟨w9, hw9⟩ : ∃ w9, w8.setCell ⟨g3, k, none⟩ (.bool true) = w9 := ⟨_, rfl⟩
      have hn1 := HN1.out
      have hs9 : Stay (fun j => j = g3) w8 w9 := hw9 ▸ Stay.setCell _ _ _ rfl
      have P31 := Lib.hid (show RowAt w9 g3 4 c3 (cellsK (r.loose.set k true)) from by
        rw [← cellsK_set]
        exact hw9 ▸ P3.out.set k (.bool true))
      have P11 := Lib.hid (P1.out.stay hs9 (fun y => by omega))
      have P21 := Lib.hid (P2.out.stay hs9 (fun y => by omega))
      have PB1 := Lib.hid (PB.out.stay hs9 (fun y => by omega))
      have HS9 := Lib.hid hs9
      have HZ9 := Lib.hid (((HZ3.out.stay HS6.out (fun (e : w.heap.size + 1 = w.heap.size) => by omega)).stay HS8.out (fun (e : w.heap.size + 1 = g1) => by omega)).stay hs9 (fun (e : w.heap.size + 1 = g3) => by omega))
      clear hs9 hn1
      go_wp2_with (first
        | (refine load_box rfl (.tmp 3) rfl w.heap.size rfl _ _ _ _ PB1.out ?_)
        | (refine store_box rfl (.tmp 6) (.tmp 55) rfl (w.heap.size + 1) rfl _ _ _ _ _ _ _ _ rfl HO.out HZ9.out ?_
           intro wE hE sE
           have HE := Lib.hid hE
           have SE := Lib.hid sE
           clear hE sE))
      have hld := run_load_box HE.out
      have hn1 := HN1.out
      have hx := Lib.hid (show Stay (fun j => w.heap.size ≤ j) w3 wE from (((HS6.out.mono (fun j (e : j = w.heap.size) => by omega)).trans (HS8.out.mono (fun j (e : j = g1) => by omega))).trans (HS9.out.mono (fun j (e : j = g3) => by omega))).trans (SE.out.mono (fun j (e : j = w.heap.size + 1) => by omega)))
      have hfin := Lib.hid (show Stay (fun _ => False) w wE from stay_seal (X := fun j => w.heap.size ≤ j) ((((HST.out.trans HS2.out).trans HS3.out).mono (fun _ y => y.elim)).trans hx.out) (fun _ hk => hk))
      refine bodyPost_ret (v := .tuple #[devV (.slice (some ⟨g1, 0, none⟩) n c1) (.slice (some ⟨g2, 0, none⟩) n c2) (.slice (some ⟨g3, 0, none⟩) n c3) (wroteR r k l), .int .i64 0]) (by simp [results, Tryz.results8, asAddr, hld]) rfl ?_
      refine ⟨_, _, _, rfl, ?_, fr_rows _ _ _ _ _ _ _ _ _ _ (by omega) (by omega) (by omega), hfin.out⟩
      have l1 : (wroteR r k l).now.length = n := by simp [wroteR]; exact HRO.out.n1
      have l2 : (wroteR r k l).safe.length = n := HRO.out.n2
      have l3 : (wroteR r k l).loose.length = n := by simp [wroteR]; exact HRO.out.n3
      have d1 := (P11.out.stay SE.out (fun (e : g1 = w.heap.size + 1) => by omega)).strs (by rw [show (r.now.set k (pad l)).length = n from l1]; exact hn)
      have d2 := (P21.out.stay SE.out (fun (e : g2 = w.heap.size + 1) => by omega)).strs (by rw [HRO.out.n2]; exact hn)
      have d3 := (P31.out.stay SE.out (fun (e : g3 = w.heap.size + 1) => by omega)).marks (by rw [show (r.loose.set k true).length = n from l3]; exact hn)
      rw [show (r.now.set k (pad l)).length = n from l1] at d1
      rw [HRO.out.n2] at d2
      rw [show (r.loose.set k true).length = n from l3] at d3
      exact ⟨d1, d2, d3⟩

end Go.Proofs.YtlmaooeeklhelaaGreatDoor.Tg

/-
  The document's device (drydockref01): settle, walked.
-/
namespace Go.Proofs.YtlmaooeeklhelaaGreatDoor.Tg
open Go.RowKit Pk
set_option maxRecDepth 100000

/-- The first so many of one list, the others of another one. -/
def mixL {α : Type} (a b : List α) (k : Nat) : List α := a.take k ++ b.drop k
theorem mix_set {α : Type} (a b : List α) (k : Nat) (x : α) (ha : a[k]? = some x) (hb : k < b.length) : (mixL a b k).set k x = mixL a b (k + 1) := by
  obtain ⟨hk, rfl⟩ := List.getElem?_eq_some_iff.1 ha
  unfold mixL
  have hl : (a.take k).length = k := by rw [List.length_take]; omega
  rw [List.set_append_right _ _ (by omega), hl, Nat.sub_self, List.drop_eq_getElem_cons hb, List.set_cons_zero, ← List.take_append_getElem hk, List.append_assoc]
  rfl
theorem mix_none {α : Type} (a b : List α) : mixL a b 0 = b := by simp [mixL]
theorem mix_all {α : Type} (a b : List α) (n : Nat) (ha : a.length = n) (hb : b.length = n) : mixL a b n = a := by
  unfold mixL
  rw [List.take_of_length_le (by omega), List.drop_eq_nil_of_le (by omega), List.append_nil]
theorem length_mix {α : Type} (a b : List α) (n k : Nat) (hk : k ≤ n) (ha : a.length = n) (hb : b.length = n) : (mixL a b k).length = n := by
  unfold mixL
  rw [List.length_append, List.length_take, List.length_drop]
  omega

theorem settle_one : One3 (.slice (some ⟨0, 0, none⟩) 0 0) (.slice none 0 0) (.slice none 0 0) := ⟨rfl, rfl, rfl⟩

set_option maxHeartbeats 4000000 in
theorem settle_any (w : World) (v1 v2 v3 vl : Value) (r : RDev) (ls : List (List UInt8)) (n : Nat) (b : Int) (h : Dv w v1 v2 v3 r) (hr : ROk n b r) (h0 : 0 < n) (hn : n ≤ 16384) (hl : Strs w vl ls) (hln : ls.length = n) :
    Calls Tryz.prog 32 #[devV v1 v2 v3 r, vl] w fun e w' => ∃ u1 u2 u3, e = .returned (devV u1 u2 u3 (settleR r ls)) ∧ Dv w' u1 u2 u3 (settleR r ls) ∧ Fr w.heap.size u1 u2 u3 ∧ Stay (fun _ => False) w w' := by
  obtain ⟨b0, z0⟩ := box_two w v1 v2 v3 (.slice none 0 0) (.slice none 0 0) (.slice none 0 0) r zeroR
  obtain ⟨w1, hw1⟩ : ∃ w1, ((w.alloc (.cells #[v1, v2, v3, .int .i64 r.wr, .bool r.ar, .int .i64 r.left, .bool r.cr, .bool r.lo] 33)).alloc (.cells #[.slice none 0 0, .slice none 0 0, .slice none 0 0, .int .i64 0, .bool false, .int .i64 0, .bool false, .bool false] 33)) = w1 := ⟨_, rfl⟩
  have hst : Stay (fun _ => False) w w1 := hw1 ▸ ((Stay.alloc _ _).trans (Stay.alloc _ _))
  have hsz : w1.heap.size = w.heap.size + 2 := by rw [← hw1]; simp
  have HB0 := Lib.hid (show BoxAt w1 w.heap.size v1 v2 v3 r from hw1 ▸ b0)
  have HZ0 := Lib.hid (show BoxAt w1 (w.heap.size + 1) (.slice none 0 0) (.slice none 0 0) (.slice none 0 0) zeroR from hw1 ▸ z0)
  have HD := Lib.hid (h.stay0 hst)
  have HST := Lib.hid hst
  have HSZ := Lib.hid hsz
  have HRO := Lib.hid hr
  obtain ⟨a0, cl, rfl, hln0, hlr, _⟩ := hl
  obtain ⟨gl, ol, rfl, hgl, hlc⟩ := hlr (by omega)
  rw [hln]
  have HLC := Lib.hid hlc
  have HGL := Lib.hid hgl
  have HLN := Lib.hid hln
  have HN0 := Lib.hid h0
  clear b0 z0 hst hsz h hr hln0 hlr hlc hgl hln h0
  unfold devV
  go_enter Tryz.func32, Tryz.ntmps32
  go_wp2_with (refine load_box rfl (.tmp 2) rfl w.heap.size rfl v1 v2 v3 r HB0.out ?_)
  clear hw1
  refine (twin_dv w1 v1 v2 v3 r n b HD.out HRO.out HN0.out hn).mono ?_
  rintro e w3 ⟨u1, u2, u3, g1, g2, g3, c1, c2, c3, rfl, ht, s3⟩
  have e1 := ht.e1
  have e2 := ht.e2
  have e3 := ht.e3
  rw [HRO.out.n1] at e1
  rw [HRO.out.n2] at e2
  rw [HRO.out.n3] at e3
  have HO := Lib.hid ht.one
  subst e1
  subst e2
  subst e3
  have HN1 := Lib.hid (show g1 ≠ w.heap.size ∧ g2 ≠ w.heap.size ∧ g3 ≠ w.heap.size ∧ g1 ≠ g2 ∧ g1 ≠ g3 ∧ g2 ≠ g3 ∧ w.heap.size + 2 ≤ g1 ∧ w.heap.size + 2 ≤ g2 ∧ w.heap.size + 2 ≤ g3 by
    have := ht.b1
    have := ht.l12
    have := ht.l23
    have := HSZ.out
    omega)
  have HT := Lib.hid ht
  have HB3 := Lib.hid (HB0.out.stay s3 (fun x => x))
  have HZ3 := Lib.hid (HZ0.out.stay s3 (fun x => x))
  have HS3 := Lib.hid (HST.out.trans s3)
  clear ht s3
  go_wp2_with (
    refine store_box rfl (.tmp 2) (.tmp 7) rfl w.heap.size rfl (.slice (some ⟨g1, 0, none⟩) n c1) (.slice (some ⟨g2, 0, none⟩) n c2) (.slice (some ⟨g3, 0, none⟩) n c3) v1 v2 v3 r r rfl HO.out HB3.out ?_
    intro w4 hb4 s4
    have HB4 := Lib.hid hb4
    have HS4 := Lib.hid (show Stay (fun k => w.heap.size ≤ k) w w4 from (HS3.out.mono (fun _ y => y.elim)).trans (s4.mono (fun k (e : k = w.heap.size) => by omega)))
    have R1 := Lib.hid (HT.out.r1.stay s4 (fun y => HN1.out.1 y))
    have R2 := Lib.hid (HT.out.r2.stay s4 (fun y => HN1.out.2.1 y))
    have R3 := Lib.hid (HT.out.r3.stay s4 (fun y => HN1.out.2.2.1 y))
    have HZ4 := Lib.hid (HZ3.out.stay s4 (fun (y : w.heap.size + 1 = w.heap.size) => by omega))
    clear hb4 s4)
  go_loopw [5] (fun i wr => ∃ k : Nat, k ≤ n ∧ i = .int .i64 (k : Int) ∧ RowAt wr g1 9 c1 (cellsS (mixL ls r.now k)) ∧ RowAt wr g2 9 c2 (cellsS (mixL ls r.safe k)) ∧ RowAt wr g3 4 c3 (cellsK (mixL (List.replicate n false) r.loose k)) ∧ Stay (fun j => j = g1 ∨ j = g2 ∨ j = g3) w4 wr) (fun i _ => n - (intOf i).toNat)
  case atStart => exact ⟨0, by omega, rfl, by rw [mix_none]; exact R1.out, by rw [mix_none]; exact R2.out, by rw [mix_none]; exact R3.out, Stay.refl _ _⟩
  case round =>
    obtain ⟨k, hk, rfl, r1, r2, r3, hst⟩ := hrel
    have hn1 := HN1.out
    by_cases hlt : k < n
    · have q0 : (k : Int) < (n : Int) := by omega
      obtain ⟨x, hx⟩ : ∃ x, ls[k]? = some x := ⟨_, List.getElem?_eq_getElem (by rw [HLN.out]; exact hlt)⟩
      obtain ⟨t1, ht1⟩ : ∃ t, (mixL ls r.now k)[k]? = some t := ⟨_, List.getElem?_eq_getElem (by rw [length_mix ls r.now n k hk HLN.out HRO.out.n1]; exact hlt)⟩
      obtain ⟨t2, ht2⟩ : ∃ t, (mixL ls r.safe k)[k]? = some t := ⟨_, List.getElem?_eq_getElem (by rw [length_mix ls r.safe n k hk HLN.out HRO.out.n2]; exact hlt)⟩
      obtain ⟨t3, ht3⟩ : ∃ t, (mixL (List.replicate n false) r.loose k)[k]? = some t := ⟨_, List.getElem?_eq_getElem (by rw [length_mix _ r.loose n k hk (by simp) HRO.out.n3]; exact hlt)⟩
      obtain ⟨S, hSd⟩ : ∃ S : World → Prop, S = Stay (fun j => j = g1 ∨ j = g2 ∨ j = g3) wr := ⟨_, rfl⟩
      have HS := Lib.hid (show ∀ W, S W → Stay (fun j => j = g1 ∨ j = g2 ∨ j = g3) w4 W by intro W h; rw [hSd] at h; exact hst.trans h)
      have HSm := Lib.hid (show ∀ W, Stay (fun j => j = g1 ∨ j = g2 ∨ j = g3) wr W → S W by intro W h; rw [hSd]; exact h)
      clear hSd
      have HB0 := Lib.hid (show ∀ W, S W → W.cell? ⟨w.heap.size, 0, none⟩ = some (.slice (some ⟨g1, 0, none⟩) n c1) from fun W hW => (HB4.out.stay (HS.out W hW) (by omega)).c 0)
      have HB1 := Lib.hid (show ∀ W, S W → W.cell? ⟨w.heap.size, 1, none⟩ = some (.slice (some ⟨g2, 0, none⟩) n c2) from fun W hW => (HB4.out.stay (HS.out W hW) (by omega)).c 1)
      have HB2 := Lib.hid (show ∀ W, S W → W.cell? ⟨w.heap.size, 2, none⟩ = some (.slice (some ⟨g3, 0, none⟩) n c3) from fun W hW => (HB4.out.stay (HS.out W hW) (by omega)).c 2)
      have HLX := Lib.hid (show ∀ W, S W → W.cell? ⟨gl, ol + k, none⟩ = some (.string ⟨x.toArray⟩) from fun W hW => (HS4.out.trans ((HS.out W hW).mono (fun j y => by omega))).cell (HLC.out k x hx) (fun (y : w.heap.size ≤ gl) => by have := HGL.out; omega))
      obtain ⟨W1, hW1⟩ : ∃ W, (wr.setCell ⟨g1, k, none⟩ (.string ⟨x.toArray⟩)).drew = W := ⟨_, rfl⟩
      obtain ⟨W2, hW2⟩ : ∃ W, W1.setCell ⟨g2, k, none⟩ (.string ⟨x.toArray⟩) = W := ⟨_, rfl⟩
      obtain ⟨W3, hW3⟩ : ∃ W, W2.setCell ⟨g3, k, none⟩ (.bool false) = W := ⟨_, rfl⟩
      have s0 : Stay (fun j => j = g1) wr W1 := hW1 ▸ ((Stay.setCell (X := fun j => j = g1) wr ⟨g1, k, none⟩ _ rfl).trans Stay.drew)
      have s1 : Stay (fun j => j = g2) W1 W2 := hW2 ▸ Stay.setCell _ _ _ rfl
      have s2 : Stay (fun j => j = g3) W2 W3 := hW3 ▸ Stay.setCell _ _ _ rfl
      have HSM := Lib.hid (HSm.out wr.drew Stay.drew)
      have hs1 : Stay (fun j => j = g1 ∨ j = g2 ∨ j = g3) wr W1 := s0.mono (fun j y => .inl y)
      have hs2 : Stay (fun j => j = g1 ∨ j = g2 ∨ j = g3) wr W2 := hs1.trans (s1.mono (fun j y => .inr (.inl y)))
      have hs3 : Stay (fun j => j = g1 ∨ j = g2 ∨ j = g3) wr W3 := hs2.trans (s2.mono (fun j y => .inr (.inr y)))
      have HSM1 := Lib.hid (HSm.out W1 hs1)
      have HSM2 := Lib.hid (HSm.out W2 hs2)
      have HSM3 := Lib.hid (HSm.out W3 hs3)
      have a1 : RowAt W1 g1 9 c1 (cellsS (mixL ls r.now (k + 1))) := by
        rw [← mix_set ls r.now k x hx (by rw [HRO.out.n1]; exact hlt), ← cellsS_set]
        exact hW1 ▸ (r1.set k (strV x)).stay (Stay.drew (X := fun _ => False)) (fun y => y)
      have b2 := r2.stay s0 (fun y => by omega)
      have a2 : RowAt W2 g2 9 c2 (cellsS (mixL ls r.safe (k + 1))) := by
        rw [← mix_set ls r.safe k x hx (by rw [HRO.out.n2]; exact hlt), ← cellsS_set]
        exact hW2 ▸ b2.set k (strV x)
      have b3 := (r3.stay s0 (fun y => by omega)).stay s1 (fun y => by omega)
      have a3 : RowAt W3 g3 4 c3 (cellsK (mixL (List.replicate n false) r.loose (k + 1))) := by
        rw [← mix_set (List.replicate n false) r.loose k false (by simp [hlt]) (by rw [HRO.out.n3]; exact hlt), ← cellsK_set]
        exact hW3 ▸ b3.set k (.bool false)
      have A1 := Lib.hid ((a1.stay s1 (fun y => by omega)).stay s2 (fun y => by omega))
      have A2 := Lib.hid (a2.stay s2 (fun y => by omega))
      have A3 := Lib.hid a3
      have HC1 := Lib.hid ((r1.stay (Stay.drew (X := fun _ => False)) (fun y => y)).cell (show (cellsS (mixL ls r.now k))[k]? = some (strV t1) by simp [cellsS, ht1]))
      have HF1 := Lib.hid ((r1.stay (Stay.drew (X := fun _ => False)) (fun y => y)).frozen k)
      have HC2 := Lib.hid (b2.cell (show (cellsS (mixL ls r.safe k))[k]? = some (strV t2) by simp [cellsS, ht2]))
      have HF2 := Lib.hid (b2.frozen k)
      have HC3 := Lib.hid (b3.cell (show (cellsK (mixL (List.replicate n false) r.loose k))[k]? = some (.bool t3) by simp [cellsK, ht3]))
      have HF3 := Lib.hid (b3.frozen k)
      have HW1 := Lib.hid hW1
      have HW2 := Lib.hid hW2
      have HW3 := Lib.hid hW3
      have HS9 := Lib.hid (hst.trans hs3)
      have HK := Lib.hid hlt
      clear hx ht1 ht2 ht3 hst hW1 hW2 hW3 s0 s1 s2 hs1 hs2 hs3 a1 a2 a3 b2 b3 r1 r2 r3 hlt hn1
      go_wp2
      refine wp_region_held (S := S) (by kernel_rfl) ?_
      change wpAnyH _ _ _ _ _ _ _ _ (World.drew _)
      refine wpAnyH_takeL (i := 0) (v := .pointer (some ⟨w.heap.size, 0, none⟩)) #[true, false, false, false, false, false, false, false, false, false, false, false, false, false, false, false, false, false, false, false, false, false, false] rfl (by kernel_rfl) (by kernel_rfl) (by kernel_rfl) (fun _ _ _ h => h) (by kernel_rfl) HSM.out (Or.inl ⟨by rfl, fun W hW => ?_⟩) ?_
      · go_simp
      conv =>
        arg 8
        simp [Act.put]
      refine wpAnyH_takeL (i := 1) (v := .slice (some ⟨g1, 0, none⟩) n c1) #[true, true, false, false, false, false, false, false, false, false, false, false, false, false, false, false, false, false, false, false, false, false, false] rfl (by kernel_rfl) (by kernel_rfl) (by kernel_rfl) (fun _ _ _ h => h) (by kernel_rfl) HSM.out (Or.inl ⟨by rfl, fun W hW => ?_⟩) ?_
      · have q := HB0.out W hW
        go_simp
      conv =>
        arg 8
        simp [Act.put]
      refine wpAnyH_takeL (i := 2) (v := .int .i64 (k : Int)) #[true, true, true, false, false, false, false, false, false, false, false, false, false, false, false, false, false, false, false, false, false, false, false] rfl (by kernel_rfl) (by kernel_rfl) (by kernel_rfl) (fun _ _ _ h => h) (by kernel_rfl) HSM.out (Or.inl ⟨by rfl, fun W hW => ?_⟩) ?_
      · go_simp
      conv =>
        arg 8
        simp [Act.put]
      refine wpAnyH_takeL (i := 3) (v := .pointer (some ⟨w.heap.size, 1, none⟩)) #[true, true, true, true, false, false, false, false, false, false, false, false, false, false, false, false, false, false, false, false, false, false, false] rfl (by kernel_rfl) (by kernel_rfl) (by kernel_rfl) (fun _ _ _ h => h) (by kernel_rfl) HSM.out (Or.inl ⟨by rfl, fun W hW => ?_⟩) ?_
      · go_simp
      conv =>
        arg 8
        simp [Act.put]
      refine wpAnyH_takeL (i := 4) (v := .slice (some ⟨g2, 0, none⟩) n c2) #[true, true, true, true, true, false, false, false, false, false, false, false, false, false, false, false, false, false, false, false, false, false, false] rfl (by kernel_rfl) (by kernel_rfl) (by kernel_rfl) (fun _ _ _ h => h) (by kernel_rfl) HSM.out (Or.inl ⟨by rfl, fun W hW => ?_⟩) ?_
      · have q := HB1.out W hW
        go_simp
      conv =>
        arg 8
        simp [Act.put]
      refine wpAnyH_takeL (i := 5) (v := .int .i64 (k : Int)) #[true, true, true, true, true, true, false, false, false, false, false, false, false, false, false, false, false, false, false, false, false, false, false] rfl (by kernel_rfl) (by kernel_rfl) (by kernel_rfl) (fun _ _ _ h => h) (by kernel_rfl) HSM.out (Or.inl ⟨by rfl, fun W hW => ?_⟩) ?_
      · go_simp
      conv =>
        arg 8
        simp [Act.put]
      refine wpAnyH_takeL (i := 6) (v := .pointer (some ⟨w.heap.size, 2, none⟩)) #[true, true, true, true, true, true, true, false, false, false, false, false, false, false, false, false, false, false, false, false, false, false, false] rfl (by kernel_rfl) (by kernel_rfl) (by kernel_rfl) (fun _ _ _ h => h) (by kernel_rfl) HSM.out (Or.inl ⟨by rfl, fun W hW => ?_⟩) ?_
      · go_simp
      conv =>
        arg 8
        simp [Act.put]
      refine wpAnyH_takeL (i := 7) (v := .slice (some ⟨g3, 0, none⟩) n c3) #[true, true, true, true, true, true, true, true, false, false, false, false, false, false, false, false, false, false, false, false, false, false, false] rfl (by kernel_rfl) (by kernel_rfl) (by kernel_rfl) (fun _ _ _ h => h) (by kernel_rfl) HSM.out (Or.inl ⟨by rfl, fun W hW => ?_⟩) ?_
      · have q := HB2.out W hW
        go_simp
      conv =>
        arg 8
        simp [Act.put]
      refine wpAnyH_takeL (i := 8) (v := .int .i64 (k : Int)) #[true, true, true, true, true, true, true, true, true, false, false, false, false, false, false, false, false, false, false, false, false, false, false] rfl (by kernel_rfl) (by kernel_rfl) (by kernel_rfl) (fun _ _ _ h => h) (by kernel_rfl) HSM.out (Or.inl ⟨by rfl, fun W hW => ?_⟩) ?_
      · go_simp
      conv =>
        arg 8
        simp [Act.put]
      refine wpAnyH_takeL (i := 9) (v := .slice (some ⟨gl, ol, none⟩) n cl) #[true, true, true, true, true, true, true, true, true, true, false, false, false, false, false, false, false, false, false, false, false, false, false] rfl (by kernel_rfl) (by kernel_rfl) (by kernel_rfl) (fun _ _ _ h => h) (by kernel_rfl) HSM.out (Or.inl ⟨by rfl, fun W hW => ?_⟩) ?_
      · go_simp
      conv =>
        arg 8
        simp [Act.put]
      refine wpAnyH_takeL (i := 10) (v := .int .i64 (k : Int)) #[true, true, true, true, true, true, true, true, true, true, true, false, false, false, false, false, false, false, false, false, false, false, false] rfl (by kernel_rfl) (by kernel_rfl) (by kernel_rfl) (fun _ _ _ h => h) (by kernel_rfl) HSM.out (Or.inl ⟨by rfl, fun W hW => ?_⟩) ?_
      · go_simp
      conv =>
        arg 8
        simp [Act.put]
      refine wpAnyH_takeL (i := 11) (v := .pointer (some ⟨gl, ol + k, none⟩)) #[true, true, true, true, true, true, true, true, true, true, true, true, false, false, false, false, false, false, false, false, false, false, false] rfl (by kernel_rfl) (by kernel_rfl) (by kernel_rfl) (fun _ _ _ h => h) (by kernel_rfl) HSM.out (Or.inl ⟨by rfl, fun W hW => ?_⟩) ?_
      · go_simp
      conv =>
        arg 8
        simp [Act.put]
      refine wpAnyH_takeL (i := 12) (v := .string ⟨x.toArray⟩) #[true, true, true, true, true, true, true, true, true, true, true, true, true, false, false, false, false, false, false, false, false, false, false] rfl (by kernel_rfl) (by kernel_rfl) (by kernel_rfl) (fun _ _ _ h => h) (by kernel_rfl) HSM.out (Or.inl ⟨by rfl, fun W hW => ?_⟩) ?_
      · have q := HLX.out W hW
        go_simp
      conv =>
        arg 8
        simp [Act.put]
      refine wpAnyH_takeL (i := 13) (v := .slice (some ⟨gl, ol, none⟩) n cl) #[true, true, true, true, true, true, true, true, true, true, true, true, true, true, false, false, false, false, false, false, false, false, false] rfl (by kernel_rfl) (by kernel_rfl) (by kernel_rfl) (fun _ _ _ h => h) (by kernel_rfl) HSM.out (Or.inl ⟨by rfl, fun W hW => ?_⟩) ?_
      · go_simp
      conv =>
        arg 8
        simp [Act.put]
      refine wpAnyH_takeL (i := 14) (v := .int .i64 (k : Int)) #[true, true, true, true, true, true, true, true, true, true, true, true, true, true, true, false, false, false, false, false, false, false, false] rfl (by kernel_rfl) (by kernel_rfl) (by kernel_rfl) (fun _ _ _ h => h) (by kernel_rfl) HSM.out (Or.inl ⟨by rfl, fun W hW => ?_⟩) ?_
      · go_simp
      conv =>
        arg 8
        simp [Act.put]
      refine wpAnyH_takeL (i := 15) (v := .pointer (some ⟨gl, ol + k, none⟩)) #[true, true, true, true, true, true, true, true, true, true, true, true, true, true, true, true, false, false, false, false, false, false, false] rfl (by kernel_rfl) (by kernel_rfl) (by kernel_rfl) (fun _ _ _ h => h) (by kernel_rfl) HSM.out (Or.inl ⟨by rfl, fun W hW => ?_⟩) ?_
      · go_simp
      conv =>
        arg 8
        simp [Act.put]
      refine wpAnyH_takeL (i := 16) (v := .string ⟨x.toArray⟩) #[true, true, true, true, true, true, true, true, true, true, true, true, true, true, true, true, true, false, false, false, false, false, false] rfl (by kernel_rfl) (by kernel_rfl) (by kernel_rfl) (fun _ _ _ h => h) (by kernel_rfl) HSM.out (Or.inl ⟨by rfl, fun W hW => ?_⟩) ?_
      · have q := HLX.out W hW
        go_simp
      conv =>
        arg 8
        simp [Act.put]
      refine wpAnyH_takeL (i := 17) (v := .pointer (some ⟨g1, k, none⟩)) #[true, true, true, true, true, true, true, true, true, true, true, true, true, true, true, true, true, true, false, false, false, false, false] rfl (by kernel_rfl) (by kernel_rfl) (by kernel_rfl) (fun _ _ _ h => h) (by kernel_rfl) HSM.out (Or.inl ⟨by rfl, fun W hW => ?_⟩) ?_
      · go_simp
      conv =>
        arg 8
        simp [Act.put]
      refine wpAnyH_one #[true, true, true, true, true, true, true, true, true, true, true, true, true, true, true, true, true, true, true, false, false, false, false] (i := 18) rfl (by kernel_rfl) (by kernel_rfl) (fun K hK => ?_)
      have q1 := HC1.out
      have q2 := HF1.out
      go_simp
      refine hK _ _ (HW1.out ▸ HSM1.out) ?_
      rw [HW1.out]
      conv =>
        arg 8
        simp [Act.put]
      clear hK q1 q2 K
      refine wpAnyH_takeL (i := 19) (v := .pointer (some ⟨g2, k, none⟩)) #[true, true, true, true, true, true, true, true, true, true, true, true, true, true, true, true, true, true, true, true, false, false, false] rfl (by kernel_rfl) (by kernel_rfl) (by kernel_rfl) (fun _ _ _ h => h) (by kernel_rfl) HSM1.out (Or.inl ⟨by rfl, fun W hW => ?_⟩) ?_
      · go_simp
      conv =>
        arg 8
        simp [Act.put]
      refine wpAnyH_one #[true, true, true, true, true, true, true, true, true, true, true, true, true, true, true, true, true, true, true, true, true, false, false] (i := 20) rfl (by kernel_rfl) (by kernel_rfl) (fun K hK => ?_)
      have q1 := HC2.out
      have q2 := HF2.out
      go_simp
      refine hK _ _ (HW2.out ▸ HSM2.out) ?_
      rw [HW2.out]
      conv =>
        arg 8
        simp [Act.put]
      clear hK q1 q2 K
      refine wpAnyH_takeL (i := 21) (v := .pointer (some ⟨g3, k, none⟩)) #[true, true, true, true, true, true, true, true, true, true, true, true, true, true, true, true, true, true, true, true, true, true, false] rfl (by kernel_rfl) (by kernel_rfl) (by kernel_rfl) (fun _ _ _ h => h) (by kernel_rfl) HSM2.out (Or.inl ⟨by rfl, fun W hW => ?_⟩) ?_
      · go_simp
      conv =>
        arg 8
        simp [Act.put]
      refine wpAnyH_one #[true, true, true, true, true, true, true, true, true, true, true, true, true, true, true, true, true, true, true, true, true, true, true] (i := 22) rfl (by kernel_rfl) (by kernel_rfl) (fun K hK => ?_)
      have q1 := HC3.out
      have q2 := HF3.out
      go_simp
      refine hK _ _ (HW3.out ▸ HSM3.out) ?_
      rw [HW3.out]
      conv =>
        arg 8
        simp [Act.put]
      clear hK q1 q2 K
      refine wpAnyH_done (by kernel_rfl) ?_ _
      have hk2 := HK.out
      go_wp2
      first
        | exact ⟨⟨k + 1, by omega, by go_num, A1.out, A2.out, A3.out, HS9.out⟩, by simp [intOf]; omega⟩
        | (go_round
           case rel => exact ⟨k + 1, by omega, by go_num, A1.out, A2.out, A3.out, HS9.out⟩
           case measure => simp [intOf]; omega)
    · obtain rfl : k = n := by omega
      rw [mix_all _ _ k HLN.out HRO.out.n1] at r1
      rw [mix_all _ _ k HLN.out HRO.out.n2] at r2
      rw [mix_all _ _ k (by simp) HRO.out.n3] at r3
      have HB5 := Lib.hid (HB4.out.stay hst (by omega))
      have HZ5 := Lib.hid (HZ4.out.stay hst (by omega))
      have R1' := Lib.hid r1
      have R2' := Lib.hid r2
      have R3' := Lib.hid r3
      have HS := Lib.hid hst
      clear r1 r2 r3 hst hn1
      go_wp2_with (first
        | (refine load_box rfl (.tmp 2) rfl w.heap.size rfl _ _ _ _ HB5.out ?_)
        | (refine store_box rfl (.tmp 4) (.tmp 34) rfl (w.heap.size + 1) rfl _ _ _ _ _ _ _ _ rfl HO.out HZ5.out ?_
           intro wE hE sE
           have HE := Lib.hid hE
           have SE := Lib.hid sE
           clear hE sE))
      have hld := run_load_box HE.out
      have hn1 := HN1.out
      have hfin := Lib.hid (show Stay (fun _ => False) w wE from stay_seal (X := fun j => w.heap.size ≤ j) ((HS4.out.trans (HS.out.mono (fun j y => by omega))).trans (SE.out.mono (fun j (e : j = w.heap.size + 1) => by omega))) (fun _ hk => hk))
      refine bodyPost_ret (v := devV (.slice (some ⟨g1, 0, none⟩) k c1) (.slice (some ⟨g2, 0, none⟩) k c2) (.slice (some ⟨g3, 0, none⟩) k c3) r) (by simp [results, Tryz.results32, asAddr, Act.put, hld]) rfl ?_
      refine ⟨_, _, _, rfl, ?_, fr_rows _ _ _ _ _ _ _ _ _ _ (by omega) (by omega) (by omega), hfin.out⟩
      have d1 := (R1'.out.stay SE.out (fun (e : g1 = w.heap.size + 1) => by omega)).strs (by rw [HLN.out]; exact hn)
      have d2 := (R2'.out.stay SE.out (fun (e : g2 = w.heap.size + 1) => by omega)).strs (by rw [HLN.out]; exact hn)
      have d3 := (R3'.out.stay SE.out (fun (e : g3 = w.heap.size + 1) => by omega)).marks (by simp; exact hn)
      have e9 : (settleR r ls).loose = List.replicate k false := by unfold settleR; rw [HLN.out]
      rw [HLN.out] at d1 d2
      rw [List.length_replicate] at d3
      exact ⟨d1, d2, by rw [e9]; exact d3⟩

end Go.Proofs.YtlmaooeeklhelaaGreatDoor.Tg

/-
  The document's device (drydockref01): Flush, Lose.
-/
namespace Go.Proofs.YtlmaooeeklhelaaGreatDoor.Tg
open Go.RowKit Pk
set_option maxRecDepth 100000

theorem two_boxes (w : World) (v1 v2 v3 : Value) (r : RDev) : ∃ w1, ((w.alloc (.cells #[v1, v2, v3, .int .i64 r.wr, .bool r.ar, .int .i64 r.left, .bool r.cr, .bool r.lo] 33)).alloc (.cells #[.slice none 0 0, .slice none 0 0, .slice none 0 0, .int .i64 0, .bool false, .int .i64 0, .bool false, .bool false] 33)) = w1 ∧
    Hid (Stay (fun _ => False) w w1) ∧ Hid (w1.heap.size = w.heap.size + 2) ∧ Hid (BoxAt w1 w.heap.size v1 v2 v3 r) ∧ Hid (BoxAt w1 (w.heap.size + 1) (.slice none 0 0) (.slice none 0 0) (.slice none 0 0) zeroR) := by
  obtain ⟨b0, z0⟩ := box_two w v1 v2 v3 (.slice none 0 0) (.slice none 0 0) (.slice none 0 0) r zeroR
  exact ⟨_, rfl, Lib.hid ((Stay.alloc _ _).trans (Stay.alloc _ _)), Lib.hid (by simp), Lib.hid b0, Lib.hid z0⟩

theorem seal2 {w w1 w2 : World} (h1 : Stay (fun _ => False) w w1) (h2 : Stay (fun j => j = w.heap.size ∨ j = w.heap.size + 1) w1 w2) : Stay (fun _ => False) w w2 :=
  stay_seal (X := fun j => w.heap.size ≤ j) ((h1.mono (fun _ y => y.elim)).trans (h2.mono (fun j y => by omega))) (fun _ hk => hk)

set_option maxHeartbeats 2000000 in
theorem rflush_any (w : World) (v1 v2 v3 : Value) (r : RDev) (n : Nat) (b : Int) (h : Dv w v1 v2 v3 r) (hr : ROk n b r) (h0 : 0 < n) (hn : n ≤ 16384) :
    Calls Tryz.prog 42 #[devV v1 v2 v3 r] w fun e w' => ∃ u1 u2 u3, e = .returned (.tuple #[devV u1 u2 u3 (flushR r).1, .int .i64 ((flushR r).2 : Nat)]) ∧ Dv w' u1 u2 u3 (flushR r).1 ∧ (∀ k, blk3 u1 u2 u3 k → w.heap.size ≤ k ∨ blk3 v1 v2 v3 k) ∧ Stay (fun _ => False) w w' := by
  obtain ⟨w1, hw1, HST, HSZ, HB0, HZ0⟩ := two_boxes w v1 v2 v3 r
  have HD := Lib.hid (h.stay0 HST.out)
  have HO := Lib.hid h.one
  have HRO := Lib.hid hr
  have HN0 := Lib.hid h0
  have H0 := Lib.hid h
  have k6 := HB0.out.c 6
  have k7 := HB0.out.c 7
  have k0 := HB0.out.c 0
  clear h hr h0
  by_cases hd : (r.cr || r.lo) = true
  · have HF := Lib.hid (show flushR r = (r, 13) from if_pos hd)
    have hcs : r.cr = true ∨ (r.cr = false ∧ r.lo = true) := by
      cases hc : r.cr
      · rw [hc] at hd; exact .inr ⟨rfl, by simpa using hd⟩
      · exact .inl rfl
    rw [HF.out]
    have HCS := Lib.hid hcs
    clear hd hcs
    have hk : (w1.cell? ⟨w.heap.size, 6, none⟩ = some (.bool true)) ∨ (w1.cell? ⟨w.heap.size, 6, none⟩ = some (.bool false) ∧ w1.cell? ⟨w.heap.size, 7, none⟩ = some (.bool true)) := by
      rcases HCS.out with e | ⟨e, e2⟩
      · rw [e] at k6; exact .inl k6
      · rw [e] at k6; rw [e2] at k7; exact .inr ⟨k6, k7⟩
    clear k6 k7
    rcases hk with k6 | ⟨k6, k7⟩
    all_goals
      unfold devV
      go_enter Tryz.func42, Tryz.ntmps42
      go_wp2_with (first
        | (refine load_box rfl (.tmp 1) rfl w.heap.size rfl v1 v2 v3 r HB0.out ?_)
        | (refine store_box rfl (.tmp 2) (.tmp 10) rfl (w.heap.size + 1) rfl _ _ _ _ _ _ _ _ rfl HO.out HZ0.out ?_
           intro wE hE sE
           have HE := Lib.hid hE
           have SE := Lib.hid sE
           clear hE sE))
      have hld := run_load_box HE.out
      refine bodyPost_ret (v := .tuple #[devV v1 v2 v3 r, .int .i64 13]) (by simp [results, Tryz.results42, asAddr, hld]) rfl ?_
      have hfin := seal2 HST.out (SE.out.mono (fun j e => .inr e))
      exact ⟨_, _, _, rfl, H0.out.stay0 hfin, fun k hk => .inr hk, hfin⟩
  · have HF := Lib.hid (show flushR r = (settleR r r.now, 0) from if_neg hd)
    have hc : r.cr = false := by cases hc : r.cr; rfl; rw [hc] at hd; exact absurd rfl hd
    have hl : r.lo = false := by cases hl : r.lo; rfl; rw [hl, Bool.or_true] at hd; exact absurd rfl hd
    rw [HF.out]
    rw [hc] at k6
    rw [hl] at k7
    clear hd hc hl
    unfold devV
    go_enter Tryz.func42, Tryz.ntmps42
    go_wp2_with (refine load_box rfl (.tmp 1) rfl w.heap.size rfl v1 v2 v3 r HB0.out ?_)
    refine (settle_any w1 v1 v2 v3 v1 r r.now n b HD.out HRO.out HN0.out hn HD.out.s1 HRO.out.n1).mono ?_
    rintro e w2 ⟨u1, u2, u3, rfl, hd, hfr, s2⟩
    have HFR := Lib.hid hfr
    have HO2 := Lib.hid hd.one
    have HD2 := Lib.hid hd
    have HZ2 := Lib.hid (HZ0.out.stay s2 (fun x => x))
    have HS2 := Lib.hid (HST.out.trans s2)
    have HLT := Lib.hid (show w.heap.size + 1 < w1.heap.size by rw [HSZ.out]; omega)
    have HS12 := Lib.hid s2
    clear hd hfr s2 k6 k7 k0 hw1
    go_wp2_with (
      refine store_box rfl (.tmp 2) (.tmp 14) rfl (w.heap.size + 1) rfl _ _ _ _ _ _ _ _ rfl HO2.out HZ2.out ?_
      intro wE hE sE
      have HE := Lib.hid hE
      have SE := Lib.hid sE
      clear hE sE)
    have hld := run_load_box HE.out
    refine bodyPost_ret (v := .tuple #[devV u1 u2 u3 (settleR r r.now), .int .i64 0]) (by simp [results, Tryz.results42, asAddr, hld]) rfl ?_
    have hfin : Stay (fun _ => False) w wE := stay_seal (X := fun j => w.heap.size ≤ j) ((HS2.out.mono (fun _ y => y.elim)).trans (SE.out.mono (fun j (e : j = w.heap.size + 1) => by omega))) (fun _ hk => hk)
    exact ⟨_, _, _, rfl, HD2.out.stayB SE.out (fun k hk (e : k = w.heap.size + 1) => by have := HFR.out k hk; have := HSZ.out; omega), fun k hk => .inl (by have := HFR.out k hk; have := HSZ.out; omega), hfin⟩

set_option maxHeartbeats 2000000 in
theorem rlose_any (w : World) (v1 v2 v3 : Value) (r : RDev) (n : Nat) (b : Int) (h : Dv w v1 v2 v3 r) (hr : ROk n b r) (h0 : 0 < n) (hn : n ≤ 16384) :
    Calls Tryz.prog 14 #[devV v1 v2 v3 r] w fun e w' => ∃ u1 u2 u3, e = .returned (devV u1 u2 u3 (loseR r)) ∧ Dv w' u1 u2 u3 (loseR r) ∧ Fr w.heap.size u1 u2 u3 ∧ Stay (fun _ => False) w w' := by
  obtain ⟨w1, hw1, HST, HSZ, HB0, HZ0⟩ := two_boxes w v1 v2 v3 r
  have HD := Lib.hid (h.stay0 HST.out)
  have HRO := Lib.hid hr
  have HN0 := Lib.hid h0
  have k0 := HB0.out.c 0
  clear h hr h0
  unfold devV
  go_enter Tryz.func14, Tryz.ntmps14
  go_wp2_with (refine load_box rfl (.tmp 1) rfl w.heap.size rfl v1 v2 v3 r HB0.out ?_)
  refine (settle_any w1 v1 v2 v3 v1 r r.now n b HD.out HRO.out HN0.out hn HD.out.s1 HRO.out.n1).mono ?_
  rintro e w2 ⟨u1, u2, u3, rfl, hd, hfr, s2⟩
  have HFR := Lib.hid hfr
  have HO2 := Lib.hid hd.one
  have HD2 := Lib.hid hd
  have HB2 := Lib.hid (HB0.out.stay s2 (fun x => x))
  have HZ2 := Lib.hid (HZ0.out.stay s2 (fun x => x))
  have HS2 := Lib.hid (HST.out.trans s2)
  clear hd hfr s2 k0 hw1
  go_wp2_with (first
    | (refine store_box rfl (.tmp 1) (.tmp 6) rfl w.heap.size rfl u1 u2 u3 v1 v2 v3 (settleR r r.now) r rfl HO2.out HB2.out ?_
       intro w3 hb3 s3
       have k7 := hb3.c 7
       have f7 := hb3.f 7
       have HB3 := Lib.hid (hb3.set7 true)
       have HS3 := Lib.hid s3
       have HZ3 := Lib.hid ((HZ2.out.stay s3 (fun (e : w.heap.size + 1 = w.heap.size) => by omega)).stay (Stay.setCell (X := fun k => k = w.heap.size) w3 ⟨w.heap.size, 7, none⟩ (.bool true) rfl) (fun (e : w.heap.size + 1 = w.heap.size) => by omega))
       clear hb3 s3)
    | (refine load_box rfl (.tmp 1) rfl w.heap.size rfl u1 u2 u3 (loseR r) HB3.out ?_)
    | (refine store_box rfl (.tmp 2) (.tmp 8) rfl (w.heap.size + 1) rfl _ _ _ _ _ _ _ _ rfl HO2.out HZ3.out ?_
       intro wE hE sE
       have HE := Lib.hid hE
       have SE := Lib.hid sE
       clear hE sE))
  have hld := run_load_box HE.out
  have hx := Lib.hid (show Stay (fun k => k = w.heap.size ∨ k = w.heap.size + 1) w2 wE from ((HS3.out.mono (fun k e => .inl e)).trans (Stay.setCell _ _ _ (.inl rfl))).trans (SE.out.mono (fun k e => .inr e)))
  refine bodyPost_ret (v := devV u1 u2 u3 (loseR r)) (by simp [results, Tryz.results14, asAddr, Act.put, hld]) rfl ?_
  have hz := HSZ.out
  have hdd := HD2.out.stayB hx.out (fun k hk e => by have := HFR.out k hk; omega)
  exact ⟨u1, u2, u3, rfl, ⟨hdd.s1, hdd.s2, hdd.s3⟩, HFR.out.le (by omega), seal2 HS2.out hx.out⟩

end Go.Proofs.YtlmaooeeklhelaaGreatDoor.Tg

/-
  The document's device (drydockref01): Start, plainly; a row of texts that grows.
-/
namespace Go.Proofs.YtlmaooeeklhelaaGreatDoor.Tg
open Go.RowKit Pk
set_option maxRecDepth 100000

/-- The list that Start makes of the first so many sectors, and how many of the marks it has asked. -/
def startK (r : RDev) (ks : List Bool) : Nat → List (List UInt8) × Nat
  | 0 => ([], 0)
  | k + 1 => if r.loose.getD k false = true then
      ((startK r ks k).1 ++ [if ks.getD (startK r ks k).2 false = true then r.now.getD k [] else r.safe.getD k []], (startK r ks k).2 + 1)
    else ((startK r ks k).1 ++ [r.now.getD k []], (startK r ks k).2)
def startR (r : RDev) (ks : List Bool) : RDev := if r.lo = true then r else { settleR r (startK r ks r.now.length).1 with cr := false, ar := false }
theorem length_startK (r : RDev) (ks : List Bool) : ∀ k, (startK r ks k).1.length = k
  | 0 => rfl
  | k + 1 => by
    unfold startK
    split <;> simp [length_startK r ks k]
theorem startK_le (r : RDev) (ks : List Bool) : ∀ k, (startK r ks k).2 ≤ k
  | 0 => Nat.le_refl _
  | k + 1 => by
    have := startK_le r ks k
    unfold startK
    split
    · show (startK r ks k).2 + 1 ≤ k + 1
      omega
    · show (startK r ks k).2 ≤ k + 1
      omega

/-- A row of texts of the call's own. -/
def OwnS (base : Nat) (w : World) (v : Value) (xs : List (List UInt8)) : Prop := w.ownsRow base 9 1 v xs.length (cellsS xs)

theorem run_append_text (w : World) (base : Nat) (ty : TypeId) (v : Value) (xs : List (List UInt8)) (x : List UInt8) (g : Nat) (h : OwnS base w v xs) (hc : w.cell? ⟨g, 0, none⟩ = some (strV x)) (hl : xs.length ≤ 16384) (hb : base ≤ w.heap.size) :
    ∃ v' w', (Builtin.append_ #[30, 30] ty #[v, .slice (some ⟨g, 0, none⟩) 1 1]).run Tryz.prog w = .ok v' w' ∧ OwnS base w' v' (xs ++ [x]) ∧ w.grownBy w' v.ownBlock ∧ (v'.ownBlock = v.ownBlock ∨ v'.ownBlock = some w.heap.size) := by
  obtain ⟨i0, hi, hz0, hz1, hz2⟩ := info_parts infoS
  obtain ⟨v', w', hrun, h2, h3, _, h5⟩ := run_append_own_at (P := Tryz.prog) w base 30 ty 9 i0 _ 1 16 Tryz.underlying30 hi hz0 hz1 hz2 rfl (by decide) v xs.length (cellsS xs) h ⟨g, 0, none⟩ 1 1 [strV x] rfl
    (fun j u hu => by
      have hj : j = 0 := by
        have := (List.getElem?_eq_some_iff.1 hu).1
        simp at this
        omega
      subst hj
      rw [add_at]
      simp only [List.getElem?_cons_zero, Option.some.injEq] at hu
      rw [← hu]
      exact hc) (by intro u hu; rw [List.mem_singleton.1 hu]; rfl)
    (by unfold maxLen; omega) (by omega) hb
  refine ⟨v', w', hrun, ?_, h3, h5⟩
  unfold OwnS
  rw [List.length_append, show cellsS (xs ++ [x]) = cellsS xs ++ [strV x] by simp [cellsS]]
  exact h2
theorem OwnS.strs {base : Nat} {w : World} {v : Value} {xs : List (List UInt8)} (h : OwnS base w v xs) (hl : xs.length ≤ 16384) : Strs w v xs := by
  have hc := fun g hg => World.ownsRow.cells (g := g) h hg
  rcases h.2 with ⟨e, hn⟩ | ⟨g, cap, cur, e, _, hg, h1, h2, _⟩
  · exact ⟨none, 0, by rw [e, hn], fun _ => rfl, fun h0 => by omega, hl⟩
  · subst e
    refine ⟨_, cap, rfl, (fun e => by cases e), fun _ => ⟨g, 0, rfl, (Array.getElem?_eq_some_iff.1 hg).1, fun j l hj => ?_⟩, hl⟩
    have := hc g rfl j (strV l) (by simp [cellsS, hj])
    rw [add_at] at this
    exact this
theorem OwnS.stay {base : Nat} {X : Nat → Prop} {w w' : World} {v : Value} {xs : List (List UInt8)} (h : OwnS base w v xs) (hs : Stay X w w') (hx : ∀ k, v.ownBlock = some k → ¬ X k) : OwnS base w' v xs := by
  refine ⟨h.1, ?_⟩
  rcases h.2 with h' | ⟨g, cap, cur, rfl, h1, hg, r⟩
  · exact .inl h'
  · exact .inr ⟨g, cap, cur, rfl, h1, (hs.block g (Array.getElem?_eq_some_iff.1 hg).1 (hx g rfl)).trans hg, r⟩
theorem OwnS.base {base : Nat} {w : World} {v : Value} {xs : List (List UInt8)} (h : OwnS base w v xs) : ∀ k, v.ownBlock = some k → base ≤ k ∧ k < w.heap.size := World.ownsRow.lt h
theorem OwnS.nil (base : Nat) (w : World) : OwnS base w (.slice none 0 0) [] := World.ownsRow_nil w base _ _
theorem OwnS.form {base : Nat} {w : World} {v : Value} {xs : List (List UInt8)} (h : OwnS base w v xs) : ∃ a c, v = .slice a xs.length c := by
  rcases h.2 with ⟨e, hn⟩ | ⟨g, cap, cur, e, _⟩
  · exact ⟨none, 0, by rw [e, hn]⟩
  · exact ⟨_, _, e⟩

section
variable {P : Program}
theorem wpList_append_ex2 {ops : Array Oper} {rest : List Oper} {o : Oper} {a : Act} {w : World} {Q : Exit → Act → World → Prop} (hgd : o.guard = none) (s x : Operand) (t : TypeId)
    (ho : o.op = .call { callee := .builtin .append, args := #[s, x], argTypes := #[t, t] }) (vs vx : Value) (hs : a.eval s = vs) (hx : a.eval x = vx) (R : Value → World → Prop)
    (hrun : ∃ v' w', (Builtin.append_ #[t, t] o.type #[vs, vx]).run P w = .ok v' w' ∧ R v' w')
    (h : ∀ v' w', R v' w' → wpList P ops Q rest (a.put o.dst v') w') : wpList P ops Q (o :: rest) a w := by
  obtain ⟨v', w', h1, h2⟩ := hrun
  exact wpList_append_run hgd s x t ho vs vx v' w' hs hx h1 (h v' w' h2)
end

end Go.Proofs.YtlmaooeeklhelaaGreatDoor.Tg

/-
  The document's device (drydockref01): Start, walked.
-/
namespace Go.Proofs.YtlmaooeeklhelaaGreatDoor.Tg
open Go.RowKit Pk
set_option maxRecDepth 100000

theorem append_text_at (w1 wr : World) (base : Nat) (v : Value) (xs : List (List UInt8)) (x : List UInt8) (ty : TypeId) (h : OwnS base wr v xs) (hst : Stay (fun _ => False) w1 wr) (hb : base = w1.heap.size) (hl : xs.length ≤ 16384) :
    ∃ v' w', (Builtin.append_ #[30, 30] ty #[v, .slice (some ⟨wr.heap.size, 0, none⟩) 1 1]).run Tryz.prog (wr.alloc (.cells #[.string ⟨x.toArray⟩] 9)) = .ok v' w' ∧ (OwnS base w' v' (xs ++ [x]) ∧ Stay (fun _ => False) w1 w') := by
  subst hb
  have h2 : OwnS w1.heap.size (wr.alloc (.cells #[.string ⟨x.toArray⟩] 9)) v xs := h.stay (Stay.alloc (X := fun _ => False) _ _) (fun _ _ y => y)
  have hc : (wr.alloc (.cells #[.string ⟨x.toArray⟩] 9)).cell? ⟨wr.heap.size, 0, none⟩ = some (strV x) := by rw [World.cell?_alloc_at _ _ _ _ rfl]; rfl
  obtain ⟨v', w', hrun, ho, hg, hown⟩ := run_append_text _ w1.heap.size ty v xs x wr.heap.size h2 hc hl (by have := hst.size; simp; omega)
  refine ⟨v', w', hrun, ho, ?_⟩
  exact (hst.trans (Stay.alloc wr _)).andThen (Stay.grown (X := fun k => w1.heap.size ≤ k) hg (fun k hk => (h2.base k hk).1)) (fun i hi hx => absurd hi (by have hx' : w1.heap.size ≤ i := hx; omega))

theorem Marks.form {w : World} {v : Value} {ks : List Bool} (h : Marks w v ks) : ∃ a c, v = .slice a ks.length c := by
  obtain ⟨a0, c, e, _⟩ := h
  exact ⟨a0, c, e⟩

set_option maxHeartbeats 4000000 in
theorem rstart_any (w : World) (v1 v2 v3 vk : Value) (r : RDev) (ks : List Bool) (n : Nat) (b : Int) (h : Dv w v1 v2 v3 r) (hr : ROk n b r) (h0 : 0 < n) (hn : n ≤ 16384) (hk : Marks w vk ks) :
    Calls Tryz.prog 12 #[devV v1 v2 v3 r, vk] w fun e w' => ∃ u1 u2 u3, e = .returned (devV u1 u2 u3 (startR r ks)) ∧ Dv w' u1 u2 u3 (startR r ks) ∧ (∀ k, blk3 u1 u2 u3 k → w.heap.size ≤ k ∨ blk3 v1 v2 v3 k) ∧ Stay (fun _ => False) w w' := by
  obtain ⟨w1, hw1, HST, HSZ, HB0, HZ0⟩ := two_boxes w v1 v2 v3 r
  have HD := Lib.hid (h.stay0 HST.out)
  have H0 := Lib.hid h
  have HO := Lib.hid h.one
  have HRO := Lib.hid hr
  have HN0 := Lib.hid h0
  have HMK := Lib.hid (hk.stay HST.out (fun _ _ y => y))
  have k7 := HB0.out.c 7
  clear h hr h0 hk
  by_cases hlo : r.lo = true
  · have HF := Lib.hid (show startR r ks = r from if_pos hlo)
    rw [HF.out]
    rw [hlo] at k7
    clear hlo
    unfold devV
    go_enter Tryz.func12, Tryz.ntmps12
    go_wp2_with (first
      | (refine load_box rfl (.tmp 2) rfl w.heap.size rfl v1 v2 v3 r HB0.out ?_)
      | (refine store_box rfl (.tmp 4) (.tmp 10) rfl (w.heap.size + 1) rfl _ _ _ _ _ _ _ _ rfl HO.out HZ0.out ?_
         intro wE hE sE
         have HE := Lib.hid hE
         have SE := Lib.hid sE
         clear hE sE))
    have hld := run_load_box HE.out
    refine bodyPost_ret (v := devV v1 v2 v3 r) (by simp [results, Tryz.results12, asAddr, Act.put, hld]) rfl ?_
    have hfin := seal2 HST.out (SE.out.mono (fun j e => .inr e))
    exact ⟨_, _, _, rfl, H0.out.stay0 hfin, fun k hk => .inr hk, hfin⟩
  · have hl : r.lo = false := by cases hl : r.lo; rfl; exact absurd hl hlo
    have HF := Lib.hid (show startR r ks = { settleR r (startK r ks n).1 with cr := false, ar := false } by rw [← HRO.out.n1]; exact if_neg hlo)
    rw [hl] at k7
    clear hl hlo
    obtain ⟨a1, c1, rfl, _, hr1, _⟩ := id HD.out.s1
    obtain ⟨a2, c2, rfl, _, hr2, _⟩ := id HD.out.s2
    obtain ⟨a3, c3, rfl, _, hr3, _⟩ := id HD.out.s3
    obtain ⟨g1, o1, rfl, hg1, hc1⟩ := hr1 (by rw [HRO.out.n1]; exact HN0.out)
    obtain ⟨g2, o2, rfl, hg2, hc2⟩ := hr2 (by rw [HRO.out.n2]; exact HN0.out)
    obtain ⟨ad3, rfl, hg3, hc3⟩ := hr3 (by rw [HRO.out.n3]; exact HN0.out)
    obtain ⟨ak, ck, rfl, _, hrk, hkl⟩ := id HMK.out
    have HC1 := Lib.hid hc1
    have HC2 := Lib.hid hc2
    have HC3 := Lib.hid hc3
    have HCK := Lib.hid hrk
    have HKL := Lib.hid hkl
    clear hr1 hr2 hr3 hrk hc1 hc2 hc3 hg1 hg2 hg3 hkl
    have q0 : (r.now.length : Int) = (n : Int) := by rw [HRO.out.n1]
    have HQ0 := Lib.hid q0
    clear q0
    unfold devV
    go_enter Tryz.func12, Tryz.ntmps12
    go_wp2_with fail
    go_loopw [5, 6, 7] (fun l k i wr => ∃ j : Nat, j ≤ n ∧ i = .int .i64 (j : Int) ∧ k = .int .i64 ((startK r ks j).2 : Nat) ∧ OwnS w1.heap.size wr l (startK r ks j).1 ∧ Stay (fun _ => False) w1 wr) (fun _ _ i _ => n - (intOf i).toNat)
    case atStart => exact ⟨0, by omega, rfl, rfl, OwnS.nil _ _, Stay.refl _ _⟩
    case round =>
      obtain ⟨j, hj, rfl, rfl, hown, hst⟩ := hrel
      have b0 := (HB0.out.stay hst (fun y => y)).c 0
      have b1 := (HB0.out.stay hst (fun y => y)).c 1
      have b2 := (HB0.out.stay hst (fun y => y)).c 2
      by_cases hlt : j < n
      · have q0 : (j : Int) < (r.now.length : Int) := by have := HQ0.out; omega
        have q1 : (j : Int) < (r.safe.length : Int) := by rw [HRO.out.n2]; omega
        have q2 : (j : Int) < (r.loose.length : Int) := by rw [HRO.out.n3]; omega
        obtain ⟨x1, hx1⟩ : ∃ x, r.now[j]? = some x := ⟨_, List.getElem?_eq_getElem (by rw [HRO.out.n1]; exact hlt)⟩
        obtain ⟨x2, hx2⟩ : ∃ x, r.safe[j]? = some x := ⟨_, List.getElem?_eq_getElem (by rw [HRO.out.n2]; exact hlt)⟩
        obtain ⟨lb, hlb⟩ : ∃ x, r.loose[j]? = some x := ⟨_, List.getElem?_eq_getElem (by rw [HRO.out.n3]; exact hlt)⟩
        have d1 := hst.cell (HC1.out j x1 hx1) (fun y => y)
        have d2 := hst.cell (HC2.out j x2 hx2) (fun y => y)
        have d3 := hst.cell (HC3.out j (.bool lb) (by simp [cellsK, hlb])) (fun y => y)
        unfold strV at d1 d2
        have hsuc : startK r ks (j + 1) = if lb = true then ((startK r ks j).1 ++ [if ks.getD (startK r ks j).2 false = true then x1 else x2], (startK r ks j).2 + 1) else ((startK r ks j).1 ++ [x1], (startK r ks j).2) := by
          rw [startK]
          simp only [List.getD_eq_getElem?_getD, hx1, hx2, hlb, Option.getD_some]
        have hxl : (startK r ks j).1.length ≤ 16384 := by rw [length_startK]; omega
        have hml := startK_le r ks j
        obtain ⟨xs, hxs⟩ : ∃ xs, (startK r ks j).1 = xs := ⟨_, rfl⟩
        obtain ⟨m, hm⟩ : ∃ m, (startK r ks j).2 = m := ⟨_, rfl⟩
        rw [hxs] at hown hsuc hxl
        rw [hm] at hsuc hml ⊢
        have HOWN := Lib.hid hown
        obtain ⟨la, lc, rfl⟩ := hown.form
        have HS := Lib.hid hst
        have HXL := Lib.hid hxl
        have HJ := Lib.hid hlt
        have HML := Lib.hid hml
        have hmi : (m : Int) ≤ 16384 := by omega
        clear hx1 hx2 hlb hown hst hxl hlt hml hxs hm
        cases lb with
        | false =>
          have HSUC := Lib.hid (show startK r ks (j + 1) = (xs ++ [x1], m) from hsuc)
          clear hsuc
          go_wp2_with (
            at_builtin
            refine wpList_append_ex2 rfl (.tmp 24) (.tmp 30) 30 rfl (.slice la xs.length lc) (.slice (some ⟨wr.heap.size, 0, none⟩) 1 1) rfl rfl _ (append_text_at w1 wr _ _ xs x1 _ HOWN.out HS.out rfl HXL.out) ?_
            rintro v' w' ⟨ho, hs⟩
            have HOW := Lib.hid ho
            have HSW := Lib.hid hs
            clear ho hs)
          have hj2 := HJ.out
          first
            | exact ⟨⟨j + 1, by omega, by go_num, by rw [HSUC.out], by rw [HSUC.out]; exact HOW.out, HSW.out⟩, by simp [intOf]; omega⟩
            | (go_round
               case rel => exact ⟨j + 1, by omega, by go_num, by rw [HSUC.out], by rw [HSUC.out]; exact HOW.out, HSW.out⟩
               case measure => simp [intOf]; omega)
        | true =>
          have hcs : (m < ks.length ∧ ks.getD m false = true) ∨ (m < ks.length ∧ ks.getD m false = false) ∨ ¬ m < ks.length := by
            by_cases h1 : m < ks.length
            · cases h2 : ks.getD m false
              · exact .inr (.inl ⟨h1, rfl⟩)
              · exact .inl ⟨h1, rfl⟩
            · exact .inr (.inr h1)
          have HCASE := Lib.hid hcs
          have HSUC0 := Lib.hid hsuc
          clear hcs hsuc
          rcases HCASE.out with ⟨h1, h2⟩ | ⟨h1, h2⟩ | h1
          · have HSUC := Lib.hid (show startK r ks (j + 1) = (xs ++ [x1], m + 1) by rw [HSUC0.out, if_pos rfl, if_pos h2])
            obtain ⟨adk, rfl, hgk, hck⟩ := HCK.out (by omega)
            have d4 := HS.out.cell (hck m (.bool true) (by rw [List.getD_eq_getElem?_getD, List.getElem?_eq_getElem h1] at h2; simp [cellsK, List.getElem?_eq_getElem h1]; exact h2)) (fun y => y)
            have h1i : (m : Int) < (ks.length : Int) := by omega
            clear h1 h2 hck hgk
            go_wp2_with (
              at_builtin
              refine wpList_append_ex2 rfl (.tmp 42) (.tmp 48) 30 rfl (.slice la xs.length lc) (.slice (some ⟨wr.heap.size, 0, none⟩) 1 1) rfl rfl _ (append_text_at w1 wr _ _ xs x1 _ HOWN.out HS.out rfl HXL.out) ?_
              rintro v' w' ⟨ho, hs⟩
              have HOW := Lib.hid ho
              have HSW := Lib.hid hs
              clear ho hs)
            have hj2 := HJ.out
            first
              | exact ⟨⟨j + 1, by omega, by go_num, by rw [HSUC.out]; rfl, by rw [HSUC.out]; exact HOW.out, HSW.out⟩, by simp [intOf]; omega⟩
              | (go_round
                 case rel => exact ⟨j + 1, by omega, by go_num, by rw [HSUC.out]; rfl, by rw [HSUC.out]; exact HOW.out, HSW.out⟩
                 case measure => simp [intOf]; omega)
          · have HSUC := Lib.hid (show startK r ks (j + 1) = (xs ++ [x2], m + 1) by rw [HSUC0.out, if_pos rfl, if_neg (by rw [h2]; decide)])
            obtain ⟨adk, rfl, hgk, hck⟩ := HCK.out (by omega)
            have d4 := HS.out.cell (hck m (.bool false) (by rw [List.getD_eq_getElem?_getD, List.getElem?_eq_getElem h1] at h2; simp [cellsK, List.getElem?_eq_getElem h1]; exact h2)) (fun y => y)
            have h1i : (m : Int) < (ks.length : Int) := by omega
            clear h1 h2 hck hgk
            go_wp2_with (
              at_builtin
              refine wpList_append_ex2 rfl (.tmp 50) (.tmp 56) 30 rfl (.slice la xs.length lc) (.slice (some ⟨wr.heap.size, 0, none⟩) 1 1) rfl rfl _ (append_text_at w1 wr _ _ xs x2 _ HOWN.out HS.out rfl HXL.out) ?_
              rintro v' w' ⟨ho, hs⟩
              have HOW := Lib.hid ho
              have HSW := Lib.hid hs
              clear ho hs)
            have hj2 := HJ.out
            first
              | exact ⟨⟨j + 1, by omega, by go_num, by rw [HSUC.out]; rfl, by rw [HSUC.out]; exact HOW.out, HSW.out⟩, by simp [intOf]; omega⟩
              | (go_round
                 case rel => exact ⟨j + 1, by omega, by go_num, by rw [HSUC.out]; rfl, by rw [HSUC.out]; exact HOW.out, HSW.out⟩
                 case measure => simp [intOf]; omega)
          · have HSUC := Lib.hid (show startK r ks (j + 1) = (xs ++ [x2], m + 1) by rw [HSUC0.out, if_pos rfl, if_neg (by rw [List.getD_eq_getElem?_getD, List.getElem?_eq_none (by omega)]; decide)])
            have h1i : ¬ (m : Int) < (ks.length : Int) := by omega
            clear h1
            go_wp2_with (
              at_builtin
              refine wpList_append_ex2 rfl (.tmp 50) (.tmp 56) 30 rfl (.slice la xs.length lc) (.slice (some ⟨wr.heap.size, 0, none⟩) 1 1) rfl rfl _ (append_text_at w1 wr _ _ xs x2 _ HOWN.out HS.out rfl HXL.out) ?_
              rintro v' w' ⟨ho, hs⟩
              have HOW := Lib.hid ho
              have HSW := Lib.hid hs
              clear ho hs)
            have hj2 := HJ.out
            first
              | exact ⟨⟨j + 1, by omega, by go_num, by rw [HSUC.out]; rfl, by rw [HSUC.out]; exact HOW.out, HSW.out⟩, by simp [intOf]; omega⟩
              | (go_round
                 case rel => exact ⟨j + 1, by omega, by go_num, by rw [HSUC.out]; rfl, by rw [HSUC.out]; exact HOW.out, HSW.out⟩
                 case measure => simp [intOf]; omega)
      · obtain rfl : j = n := by omega
        have q0 : ¬ (j : Int) < (r.now.length : Int) := by have := HQ0.out; omega
        have HB2 := Lib.hid (HB0.out.stay hst (fun y => y))
        have HZ2 := Lib.hid (HZ0.out.stay hst (fun y => y))
        have HD2 := Lib.hid (HD.out.stay0 hst)
        have hlen := length_startK r ks j
        have HSL := Lib.hid (hown.strs (by omega))
        have HLEN := Lib.hid hlen
        have HS2 := Lib.hid (HST.out.trans hst)
        clear hlen hown hst
        go_wp2_with (refine load_box rfl (.tmp 2) rfl w.heap.size rfl _ _ _ _ HB2.out ?_)
        refine (settle_any wr _ _ _ _ r (startK r ks j).1 j b HD2.out HRO.out HN0.out hn HSL.out HLEN.out).mono ?_
        rintro e w2 ⟨u1, u2, u3, rfl, hd, hfr, s2⟩
        have HFR := Lib.hid hfr
        have HO2 := Lib.hid hd.one
        have HD3 := Lib.hid hd
        have HB3 := Lib.hid (HB2.out.stay s2 (fun x => x))
        have HZ3 := Lib.hid (HZ2.out.stay s2 (fun x => x))
        have HS3 := Lib.hid (HS2.out.trans s2)
        have HSR := Lib.hid (show w.heap.size + 2 ≤ wr.heap.size by have := HS2.out.size; have := HSZ.out; have := HB2.out; have := HZ2.out; have h9 := lt_of_block HZ2.out; omega)
        clear hd hfr s2 b0 b1 b2 k7 hw1
        go_wp2_with (first
          | (refine store_box rfl (.tmp 2) (.tmp 62) rfl w.heap.size rfl u1 u2 u3 _ _ _ (settleR r (startK r ks j).1) r rfl HO2.out HB3.out ?_
             intro w3 hb3 s3
             have k6 := hb3.c 6
             have f6 := hb3.f 6
             have k4 := hb3.c 4
             have f4 := hb3.f 4
             have HB4 := Lib.hid ((hb3.set6 false).set4 false)
             have HS4 := Lib.hid s3
             have HZ4 := Lib.hid (((HZ3.out.stay s3 (fun (e : w.heap.size + 1 = w.heap.size) => by omega)).stay (Stay.setCell (X := fun k => k = w.heap.size) w3 ⟨w.heap.size, 6, none⟩ (.bool false) rfl) (fun (e : w.heap.size + 1 = w.heap.size) => by omega)).stay (Stay.setCell (X := fun k => k = w.heap.size) _ ⟨w.heap.size, 4, none⟩ (.bool false) rfl) (fun (e : w.heap.size + 1 = w.heap.size) => by omega))
             clear hb3 s3)
          | (refine load_box rfl (.tmp 2) rfl w.heap.size rfl u1 u2 u3 { settleR r (startK r ks j).1 with cr := false, ar := false } HB4.out ?_)
          | (refine store_box rfl (.tmp 4) (.tmp 65) rfl (w.heap.size + 1) rfl _ _ _ _ _ _ _ _ rfl HO2.out HZ4.out ?_
             intro wE hE sE
             have HE := Lib.hid hE
             have SE := Lib.hid sE
             clear hE sE))
        have hld := run_load_box HE.out
        have hx := Lib.hid (show Stay (fun k => k = w.heap.size ∨ k = w.heap.size + 1) w2 wE from (((HS4.out.mono (fun k e => .inl e)).trans (Stay.setCell _ _ _ (.inl rfl))).trans (Stay.setCell _ _ _ (.inl rfl))).trans (SE.out.mono (fun k e => .inr e)))
        rw [HF.out]
        refine bodyPost_ret (v := devV u1 u2 u3 { settleR r (startK r ks j).1 with cr := false, ar := false }) (by simp [results, Tryz.results12, asAddr, hld]) rfl ?_
        have hz := HSR.out
        have hdd := HD3.out.stayB hx.out (fun k hk e => by have := HFR.out k hk; omega)
        exact ⟨u1, u2, u3, rfl, ⟨hdd.s1, hdd.s2, hdd.s3⟩, fun k hk => .inl (by have := HFR.out k hk; omega), seal2 HS3.out hx.out⟩

end Go.Proofs.YtlmaooeeklhelaaGreatDoor.Tg

/-
  The document's device (drydockref01): New.
-/
namespace Go.Proofs.YtlmaooeeklhelaaGreatDoor.Tg
open Go.RowKit Pk
set_option maxRecDepth 100000

theorem pad_nil : pad [] = zsec := by simp [pad, zsec]
theorem blank_nil (w : World) : Calls Tryz.prog 26 #[.string ⟨#[]⟩] w fun e w' => e = .returned (.string ⟨zsec.toArray⟩) ∧ Stay (fun _ => False) w w' := by
  have h := blank_any [] (by simp) w
  rw [pad_nil] at h
  exact h

/-- A row of truths of the call's own. -/
def OwnK (base : Nat) (w : World) (v : Value) (ks : List Bool) : Prop := w.ownsRow base 4 1 v ks.length (cellsK ks)
theorem run_append_truth (w : World) (base : Nat) (ty : TypeId) (v : Value) (ks : List Bool) (x : Bool) (g : Nat) (h : OwnK base w v ks) (hc : w.cell? ⟨g, 0, none⟩ = some (.bool x)) (hl : ks.length ≤ 16384) (hb : base ≤ w.heap.size) :
    ∃ v' w', (Builtin.append_ #[31, 31] ty #[v, .slice (some ⟨g, 0, none⟩) 1 1]).run Tryz.prog w = .ok v' w' ∧ OwnK base w' v' (ks ++ [x]) ∧ w.grownBy w' v.ownBlock ∧ (v'.ownBlock = v.ownBlock ∨ v'.ownBlock = some w.heap.size) := by
  obtain ⟨i0, hi, hz0, hz1, hz2⟩ := info_parts infoB
  obtain ⟨v', w', hrun, h2, h3, _, h5⟩ := run_append_own_at (P := Tryz.prog) w base 31 ty 4 i0 _ 1 1 Tryz.underlying31 hi hz0 hz1 hz2 rfl (by decide) v ks.length (cellsK ks) h ⟨g, 0, none⟩ 1 1 [.bool x] rfl
    (fun j u hu => by
      have hj : j = 0 := by
        have := (List.getElem?_eq_some_iff.1 hu).1
        simp at this
        omega
      subst hj
      rw [add_at]
      simp only [List.getElem?_cons_zero, Option.some.injEq] at hu
      rw [← hu]
      exact hc) (by intro u hu; rw [List.mem_singleton.1 hu]; rfl)
    (by unfold maxLen; omega) (by omega) hb
  refine ⟨v', w', hrun, ?_, h3, h5⟩
  unfold OwnK
  rw [List.length_append, show cellsK (ks ++ [x]) = cellsK ks ++ [.bool x] by simp [cellsK]]
  exact h2
theorem OwnK.stay {base : Nat} {X : Nat → Prop} {w w' : World} {v : Value} {ks : List Bool} (h : OwnK base w v ks) (hs : Stay X w w') (hx : ∀ k, v.ownBlock = some k → ¬ X k) : OwnK base w' v ks := by
  refine ⟨h.1, ?_⟩
  rcases h.2 with h' | ⟨g, cap, cur, rfl, h1, hg, r⟩
  · exact .inl h'
  · exact .inr ⟨g, cap, cur, rfl, h1, (hs.block g (Array.getElem?_eq_some_iff.1 hg).1 (hx g rfl)).trans hg, r⟩
theorem OwnK.base {base : Nat} {w : World} {v : Value} {ks : List Bool} (h : OwnK base w v ks) : ∀ k, v.ownBlock = some k → base ≤ k ∧ k < w.heap.size := World.ownsRow.lt h
theorem OwnK.marks {base : Nat} {w : World} {v : Value} {ks : List Bool} (h : OwnK base w v ks) (hl : ks.length ≤ 16384) : Marks w v ks := by
  have hc := fun g hg => World.ownsRow.cells (g := g) h hg
  rcases h.2 with ⟨e, hn⟩ | ⟨g, cap, cur, e, _, hg, h1, h2, _⟩
  · exact ⟨none, 0, by rw [e, hn], fun _ => rfl, fun h0 => by omega, by omega⟩
  · subst e
    exact ⟨_, cap, rfl, (fun e => by cases e), fun _ => ⟨_, rfl, (Array.getElem?_eq_some_iff.1 hg).1, fun j v hv => hc g rfl j v hv⟩, by omega⟩
theorem OwnK.one {base : Nat} {w : World} {v : Value} {ks : List Bool} (h : OwnK base w v ks) : v.oneCell' = true := by
  rcases h.2 with ⟨e, hn⟩ | ⟨g, cap, cur, e, _⟩ <;> rw [e] <;> rfl
theorem OwnS.one {base : Nat} {w : World} {v : Value} {xs : List (List UInt8)} (h : OwnS base w v xs) : v.oneCell' = true := by
  rcases h.2 with ⟨e, hn⟩ | ⟨g, cap, cur, e, _⟩ <;> rw [e] <;> rfl

theorem OwnK.fm {base : Nat} {w : World} {v : Value} {ks : List Bool} (h : OwnK base w v ks) : ∃ a m c, v = .slice a m c := by
  rcases h.2 with ⟨e, hn⟩ | ⟨g, cap, cur, e, _⟩ <;> exact ⟨_, _, _, e⟩
theorem OwnS.fm {base : Nat} {w : World} {v : Value} {xs : List (List UInt8)} (h : OwnS base w v xs) : ∃ a m c, v = .slice a m c := by
  rcases h.2 with ⟨e, hn⟩ | ⟨g, cap, cur, e, _⟩ <;> exact ⟨_, _, _, e⟩

/-- A device in the making, in the block B, its rows behind base. -/
structure NewSt (w : World) (base B : Nat) (u1 u2 u3 : Value) (xs ys : List (List UInt8)) (ks : List Bool) : Prop where
  box : BoxAt w B u1 u2 u3 zeroR
  o1 : OwnS base w u1 xs
  o2 : OwnS base w u2 ys
  o3 : OwnK base w u3 ks
  d12 : ∀ k, u1.ownBlock = some k → u2.ownBlock ≠ some k
  d13 : ∀ k, u1.ownBlock = some k → u3.ownBlock ≠ some k
  d23 : ∀ k, u2.ownBlock = some k → u3.ownBlock ≠ some k
  hB : B < base
  hb : base ≤ w.heap.size
theorem NewSt.stay0 {w w' : World} {base B : Nat} {u1 u2 u3 : Value} {xs ys : List (List UInt8)} {ks : List Bool} (h : NewSt w base B u1 u2 u3 xs ys ks) (hs : Stay (fun _ => False) w w') : NewSt w' base B u1 u2 u3 xs ys ks :=
  ⟨h.box.stay hs (fun y => y), h.o1.stay hs (fun _ _ y => y), h.o2.stay hs (fun _ _ y => y), h.o3.stay hs (fun _ _ y => y), h.d12, h.d13, h.d23, h.hB, Nat.le_trans h.hb hs.size⟩

/-- What an append to the first row leaves. -/
structure Step (w : World) (w' : World) (base B f : Nat) (u u' : Value) : Prop where
  c : w'.cell? ⟨B, f, none⟩ = some u
  fr : w'.frozen? ⟨B, f, none⟩ = false
  one : u'.oneCell' = true
  fm : ∃ a m c, u' = .slice a m c
  st : Stay (fun j => base ≤ j) w w'

theorem NewSt.step0 {w w4 : World} {base B : Nat} {u1 u2 u3 : Value} {xs ys : List (List UInt8)} {ks : List Bool} (h : NewSt w base B u1 u2 u3 xs ys ks) (hs : Stay (fun _ => False) w w4) (x : List UInt8) (ty : TypeId) (hl : xs.length ≤ 16384) :
    ∃ v' w', (Builtin.append_ #[30, 30] ty #[u1, .slice (some ⟨w4.heap.size, 0, none⟩) 1 1]).run Tryz.prog (w4.alloc (.cells #[.string ⟨x.toArray⟩] 9)) = .ok v' w' ∧ (Step w w' base B 0 u1 v' ∧ NewSt (w'.setCell ⟨B, 0, none⟩ v') base B v' u2 u3 (xs ++ [x]) ys ks) := by
  have hst := hs.trans (Stay.alloc (X := fun _ => False) w4 (.cells #[.string ⟨x.toArray⟩] 9))
  have hc : (w4.alloc (.cells #[.string ⟨x.toArray⟩] 9)).cell? ⟨w4.heap.size, 0, none⟩ = some (strV x) := by rw [World.cell?_alloc_at _ _ _ _ rfl]; rfl
  have h4 := h.stay0 hst
  obtain ⟨w5, hw5⟩ : ∃ w5, w4.alloc (.cells #[.string ⟨x.toArray⟩] 9) = w5 := ⟨_, rfl⟩
  rw [hw5] at hst hc h4 ⊢
  obtain ⟨v', w', hrun, ho, hg, hown⟩ := run_append_text w5 base ty u1 xs x w4.heap.size h4.o1 hc hl h4.hb
  have hst2 : Stay (fun j => u1.ownBlock = some j) w5 w' := Stay.grown hg (fun k hk => hk)
  have hbox := h4.box.stay hst2 (fun e => by have := (h4.o1.base B e).1; have := h.hB; omega)
  have b2 := fun k (e : u2.ownBlock = some k) => h4.o2.base k e
  have b3 := fun k (e : u3.ownBlock = some k) => h4.o3.base k e
  have e1 : ∀ k, v'.ownBlock = some k → u1.ownBlock = some k ∨ k = w5.heap.size := fun k e => by
    rcases hown with q | q
    · exact .inl (q ▸ e)
    · rw [q] at e; cases e; exact .inr rfl
  have sset : Stay (fun j => j = B) w' (w'.setCell ⟨B, 0, none⟩ v') := Stay.setCell _ _ _ rfl
  refine ⟨v', w', hrun, ⟨hbox.c 0, hbox.f 0, ho.one, ho.fm, (hst.mono (fun _ y => y.elim)).trans (hst2.mono (fun k e => (h4.o1.base k e).1))⟩, ?_⟩
  refine ⟨hbox.set0 v', ho.stay sset (fun k e y => by have := (ho.base k e).1; have := h.hB; omega), ?_, ?_, ?_, ?_, h.d23, h.hB, ?_⟩
  · exact (h4.o2.stay hst2 (fun k e y => h.d12 k y e)).stay sset (fun k e y => by have := (b2 k e).1; have := h.hB; omega)
  · exact (h4.o3.stay hst2 (fun k e y => h.d13 k y e)).stay sset (fun k e y => by have := (b3 k e).1; have := h.hB; omega)
  · intro k e q
    rcases e1 k e with y | y
    · exact h.d12 k y q
    · have := (b2 k q).2; omega
  · intro k e q
    rcases e1 k e with y | y
    · exact h.d13 k y q
    · have := (b3 k q).2; omega
  · have := hst2.size
    have := h4.hb
    simp
    omega
theorem NewSt.step1 {w w4 : World} {base B : Nat} {u1 u2 u3 : Value} {xs ys : List (List UInt8)} {ks : List Bool} (h : NewSt w base B u1 u2 u3 xs ys ks) (hs : Stay (fun _ => False) w w4) (x : List UInt8) (ty : TypeId) (hl : ys.length ≤ 16384) :
    ∃ v' w', (Builtin.append_ #[30, 30] ty #[u2, .slice (some ⟨w4.heap.size, 0, none⟩) 1 1]).run Tryz.prog (w4.alloc (.cells #[.string ⟨x.toArray⟩] 9)) = .ok v' w' ∧ (Step w w' base B 1 u2 v' ∧ NewSt (w'.setCell ⟨B, 1, none⟩ v') base B u1 v' u3 xs (ys ++ [x]) ks) := by
  have hst := hs.trans (Stay.alloc (X := fun _ => False) w4 (.cells #[.string ⟨x.toArray⟩] 9))
  have hc : (w4.alloc (.cells #[.string ⟨x.toArray⟩] 9)).cell? ⟨w4.heap.size, 0, none⟩ = some (strV x) := by rw [World.cell?_alloc_at _ _ _ _ rfl]; rfl
  have h4 := h.stay0 hst
  obtain ⟨w5, hw5⟩ : ∃ w5, w4.alloc (.cells #[.string ⟨x.toArray⟩] 9) = w5 := ⟨_, rfl⟩
  rw [hw5] at hst hc h4 ⊢
  obtain ⟨v', w', hrun, ho, hg, hown⟩ := run_append_text w5 base ty u2 ys x w4.heap.size h4.o2 hc hl h4.hb
  have hst2 : Stay (fun j => u2.ownBlock = some j) w5 w' := Stay.grown hg (fun k hk => hk)
  have hbox := h4.box.stay hst2 (fun e => by have := (h4.o2.base B e).1; have := h.hB; omega)
  have b1 := fun k (e : u1.ownBlock = some k) => h4.o1.base k e
  have b3 := fun k (e : u3.ownBlock = some k) => h4.o3.base k e
  have e1 : ∀ k, v'.ownBlock = some k → u2.ownBlock = some k ∨ k = w5.heap.size := fun k e => by
    rcases hown with q | q
    · exact .inl (q ▸ e)
    · rw [q] at e; cases e; exact .inr rfl
  have sset : Stay (fun j => j = B) w' (w'.setCell ⟨B, 1, none⟩ v') := Stay.setCell _ _ _ rfl
  refine ⟨v', w', hrun, ⟨hbox.c 1, hbox.f 1, ho.one, ho.fm, (hst.mono (fun _ y => y.elim)).trans (hst2.mono (fun k e => (h4.o2.base k e).1))⟩, ?_⟩
  refine ⟨hbox.set1 v', ?_, ho.stay sset (fun k e y => by have := (ho.base k e).1; have := h.hB; omega), ?_, ?_, h.d13, ?_, h.hB, ?_⟩
  · exact (h4.o1.stay hst2 (fun k e y => h.d12 k e y)).stay sset (fun k e y => by have := (b1 k e).1; have := h.hB; omega)
  · exact (h4.o3.stay hst2 (fun k e y => h.d23 k y e)).stay sset (fun k e y => by have := (b3 k e).1; have := h.hB; omega)
  · intro k q e
    rcases e1 k e with y | y
    · exact h.d12 k q y
    · have := (b1 k q).2; omega
  · intro k e q
    rcases e1 k e with y | y
    · exact h.d23 k y q
    · have := (b3 k q).2; omega
  · have := hst2.size
    have := h4.hb
    simp
    omega
theorem NewSt.step2 {w w4 : World} {base B : Nat} {u1 u2 u3 : Value} {xs ys : List (List UInt8)} {ks : List Bool} (h : NewSt w base B u1 u2 u3 xs ys ks) (hs : Stay (fun _ => False) w w4) (x : Bool) (ty : TypeId) (hl : ks.length ≤ 16384) :
    ∃ v' w', (Builtin.append_ #[31, 31] ty #[u3, .slice (some ⟨w4.heap.size, 0, none⟩) 1 1]).run Tryz.prog (w4.alloc (.cells #[.bool x] 4)) = .ok v' w' ∧ (Step w w' base B 2 u3 v' ∧ NewSt (w'.setCell ⟨B, 2, none⟩ v') base B u1 u2 v' xs ys (ks ++ [x])) := by
  have hst := hs.trans (Stay.alloc (X := fun _ => False) w4 (.cells #[.bool x] 4))
  have hc : (w4.alloc (.cells #[.bool x] 4)).cell? ⟨w4.heap.size, 0, none⟩ = some (.bool x) := by rw [World.cell?_alloc_at _ _ _ _ rfl]; rfl
  have h4 := h.stay0 hst
  obtain ⟨w5, hw5⟩ : ∃ w5, w4.alloc (.cells #[.bool x] 4) = w5 := ⟨_, rfl⟩
  rw [hw5] at hst hc h4 ⊢
  obtain ⟨v', w', hrun, ho, hg, hown⟩ := run_append_truth w5 base ty u3 ks x w4.heap.size h4.o3 hc hl h4.hb
  have hst2 : Stay (fun j => u3.ownBlock = some j) w5 w' := Stay.grown hg (fun k hk => hk)
  have hbox := h4.box.stay hst2 (fun e => by have := (h4.o3.base B e).1; have := h.hB; omega)
  have b1 := fun k (e : u1.ownBlock = some k) => h4.o1.base k e
  have b2 := fun k (e : u2.ownBlock = some k) => h4.o2.base k e
  have e1 : ∀ k, v'.ownBlock = some k → u3.ownBlock = some k ∨ k = w5.heap.size := fun k e => by
    rcases hown with q | q
    · exact .inl (q ▸ e)
    · rw [q] at e; cases e; exact .inr rfl
  have sset : Stay (fun j => j = B) w' (w'.setCell ⟨B, 2, none⟩ v') := Stay.setCell _ _ _ rfl
  refine ⟨v', w', hrun, ⟨hbox.c 2, hbox.f 2, ho.one, ho.fm, (hst.mono (fun _ y => y.elim)).trans (hst2.mono (fun k e => (h4.o3.base k e).1))⟩, ?_⟩
  refine ⟨hbox.set2 v', ?_, ?_, ho.stay sset (fun k e y => by have := (ho.base k e).1; have := h.hB; omega), h.d12, ?_, ?_, h.hB, ?_⟩
  · exact (h4.o1.stay hst2 (fun k e y => h.d13 k e y)).stay sset (fun k e y => by have := (b1 k e).1; have := h.hB; omega)
  · exact (h4.o2.stay hst2 (fun k e y => h.d23 k e y)).stay sset (fun k e y => by have := (b2 k e).1; have := h.hB; omega)
  · intro k q e
    rcases e1 k e with y | y
    · exact h.d13 k q y
    · have := (b1 k q).2; omega
  · intro k q e
    rcases e1 k e with y | y
    · exact h.d23 k q y
    · have := (b2 k q).2; omega
  · have := hst2.size
    have := h4.hb
    simp
    omega

section
variable {P : Program}
theorem step_append_ex {ops : Array Oper} {o : Oper} {a : Act} {w : World} {K : Act → World → Prop} {Q : Exit → Act → World → Prop} {E : Prop} (hgd : o.guard = none) (s x : Operand) (t : TypeId)
    (ho : o.op = .call { callee := .builtin .append, args := #[s, x], argTypes := #[t, t] }) (vs vx : Value) (hs : a.eval s = vs) (hx : a.eval x = vx) (R : Value → World → Prop)
    (hrun : ∃ v' w', (Builtin.append_ #[t, t] o.type #[vs, vx]).run P w = .ok v' w' ∧ R v' w')
    (h : ∀ v' w', R v' w' → K (a.put o.dst v') w') : if Region.wanted o (yielded ops a.tmps) = true then Oper.wp P o a w K Q else E := by
  have hw : Region.wanted o (yielded ops a.tmps) = true := by simp [Region.wanted, hgd]
  rw [if_pos hw]
  obtain ⟨v', w', h1, h2⟩ := hrun
  unfold Oper.wp execOp
  simp only [ho, resolve, invoke, builtin, Sem.run_bind, Sem.run_pure, Result.andThen_ok, List.map_toArray, List.map_cons, List.map_nil, hs, hx, h1]
  exact h v' w' h2
end
end Go.Proofs.YtlmaooeeklhelaaGreatDoor.Tg

/-
  The document's device (drydockref01): New, walked.
-/
namespace Go.Proofs.YtlmaooeeklhelaaGreatDoor.Tg
open Go.RowKit Pk
set_option maxRecDepth 100000

theorem zero_boxes (w : World) : ∃ w1, ((w.alloc (.cells #[.slice none 0 0, .slice none 0 0, .slice none 0 0, .int .i64 0, .bool false, .int .i64 0, .bool false, .bool false] 33)).alloc (.cells #[.slice none 0 0, .slice none 0 0, .slice none 0 0, .int .i64 0, .bool false, .int .i64 0, .bool false, .bool false] 33)) = w1 ∧
    Hid (Stay (fun _ => False) w w1) ∧ Hid (w1.heap.size = w.heap.size + 2) ∧ Hid (BoxAt w1 w.heap.size (.slice none 0 0) (.slice none 0 0) (.slice none 0 0) zeroR) ∧ Hid (BoxAt w1 (w.heap.size + 1) (.slice none 0 0) (.slice none 0 0) (.slice none 0 0) zeroR) := by
  obtain ⟨b0, z0⟩ := box_two w (.slice none 0 0) (.slice none 0 0) (.slice none 0 0) (.slice none 0 0) (.slice none 0 0) (.slice none 0 0) zeroR zeroR
  exact ⟨_, rfl, Lib.hid ((Stay.alloc _ _).trans (Stay.alloc _ _)), Lib.hid (by simp), Lib.hid b0, Lib.hid z0⟩

theorem rep_snoc {α : Type} (j : Nat) (x : α) : List.replicate (j + 1) x = List.replicate j x ++ [x] := List.replicate_succ'

set_option maxHeartbeats 4000000 in
theorem rnew_any (w : World) (n : Nat) (h0 : 0 < n) (hn : n ≤ 16384) :
    Calls Tryz.prog 6 #[.int .i64 (n : Int)] w fun e w' => ∃ u1 u2 u3, e = .returned (.tuple #[devV u1 u2 u3 (newR n), .int .i64 0]) ∧ Dv w' u1 u2 u3 (newR n) ∧ Fr w.heap.size u1 u2 u3 ∧ Stay (fun _ => False) w w' := by
  obtain ⟨w1, hw1, HST, HSZ, HB0, HZ0⟩ := zero_boxes w
  have n0 : ¬ (n : Int) < 1 := by omega
  have n1 : ¬ 16384 < (n : Int) := by omega
  go_enter Tryz.func6, Tryz.ntmps6
  go_wp2_with (
    refine store_box rfl (.tmp 4) (.tmp 13) rfl (w.heap.size + 1) rfl (.slice none 0 0) (.slice none 0 0) (.slice none 0 0) _ _ _ zeroR _ rfl ⟨rfl, rfl, rfl⟩ HZ0.out ?_
    intro w2 hb2 s2
    have HN2 := Lib.hid (show NewSt w2 (w.heap.size + 2) (w.heap.size + 1) (.slice none 0 0) (.slice none 0 0) (.slice none 0 0) [] [] [] from ⟨hb2, OwnS.nil _ _, OwnS.nil _ _, World.ownsRow_nil w2 _ _ _, (fun k e => by cases e), (fun k e => by cases e), (fun k e => by cases e), Nat.lt_succ_self _, by have := s2.size; have := HSZ.out; omega⟩)
    have HB2 := Lib.hid (HB0.out.stay s2 (fun (e : w.heap.size = w.heap.size + 1) => by omega))
    have HS2 := Lib.hid ((HST.out.mono (fun _ y => y.elim)).trans (s2.mono (Y := fun k => w.heap.size + 1 ≤ k) (fun k (e : k = w.heap.size + 1) => Nat.le_of_eq e.symm)))
    clear hb2 s2)
  clear hw1
  go_loopw [5] (fun i wr => ∃ j : Nat, ∃ u1 u2 u3, j ≤ n ∧ i = .int .i64 (j : Int) ∧ NewSt wr (w.heap.size + 2) (w.heap.size + 1) u1 u2 u3 (List.replicate j zsec) (List.replicate j zsec) (List.replicate j false) ∧ Stay (fun j => w.heap.size + 1 ≤ j) w2 wr) (fun i _ => n - (intOf i).toNat)
  case atStart => exact ⟨0, _, _, _, by omega, rfl, HN2.out, Stay.refl _ _⟩
  case round =>
    obtain ⟨j, u1, u2, u3, hj, rfl, hst, hs⟩ := hrel
    by_cases hlt : j < n
    · have q0 : (j : Int) < (n : Int) := by omega
      have HN := Lib.hid hst
      have HS := Lib.hid hs
      have HJ := Lib.hid hlt
      have HL := Lib.hid (show j ≤ 16384 by omega)
      clear hst hs hlt
      go_wp2_with fail
      refine wp_region_any (by kernel_rfl) ?_
      change wpAny _ _ _ _ _ _ _ (World.drew _)
      refine wpAny_takeL (i := 0) (v := .pointer (some ⟨w.heap.size + 1, 0, none⟩)) #[true, false, false, false, false, false, false] rfl (by kernel_rfl) (by kernel_rfl) (by kernel_rfl) (fun _ _ _ h => h) (by kernel_rfl) (Or.inl ⟨by rfl, fun W => ?_⟩) ?_
      · go_simp
      conv =>
        arg 7
        simp [Act.put]
      refine wpAny_ready (rs := [1, 2]) (by kernel_rfl) (by simp) (AllReady.cons rfl (fun K hK => ?_) (AllReady.cons rfl (fun K hK => ?_) (AllReady.nil)))
      · skip
        have q := (HN.out.stay0 (Stay.drew)).box.c 0
        go_simp
        refine hK _ _ ?_
        conv =>
          arg 7
          simp [Act.put]
        clear hK K q
        refine wpAny_listed #[true, true, false, false, false, false, false] (by kernel_rfl) ?_
        refine wpAny_ready (rs := [2]) (by kernel_rfl) (by simp) (AllReady.cons rfl (fun K hK => ?_) (AllReady.nil))
        go_simp
        go_wp2_with (
          go_at_call 26
          refine (blank_nil _).mono ?_
          rintro e w4 ⟨rfl, hs4⟩
          have HS4 := Lib.hid ((Stay.drew (X := fun _ => False) (w := wr)).trans hs4)
          clear hs4)
        refine wpAny_listed #[true, true, true, false, false, false, false] (by kernel_rfl) ?_
        refine wpAny_ready (rs := [3]) (by kernel_rfl) (by simp) (AllReady.cons rfl (fun K hK => ?_) (AllReady.nil))
        go_simp
        refine hK _ _ ?_
        conv =>
          arg 7
          simp [Act.put]
        clear hK K
        refine wpAny_listed #[true, true, true, true, false, false, false] (by kernel_rfl) ?_
        refine wpAny_ready (rs := [4]) (by kernel_rfl) (by simp) (AllReady.cons rfl (fun K hK => ?_) (AllReady.nil))
        refine step_append_ex rfl (.tmp 20) (.tmp 22) 30 rfl u1 (.slice (some ⟨w4.heap.size, 0, none⟩) 1 1) rfl rfl _ (HN.out.step0 HS4.out zsec _ (by simp; exact HL.out)) ?_
        rintro v1 w5 ⟨hq, hnew⟩
        obtain ⟨fa0, fm0, fc0, rfl⟩ := hq.fm
        have HQ := Lib.hid hq
        have HNEW := Lib.hid hnew
        clear hq hnew
        refine hK _ _ ?_
        conv =>
          arg 7
          simp [Act.put]
        clear hK K
        refine wpAny_listed #[true, true, true, true, true, false, false] (by kernel_rfl) ?_
        refine wpAny_ready (rs := [5]) (by kernel_rfl) (by simp) (AllReady.cons rfl (fun K hK => ?_) (AllReady.nil))
        go_simp
        refine hK _ _ ?_
        conv =>
          arg 7
          simp [Act.put]
        clear hK K
        refine wpAny_listed #[true, true, true, true, true, true, false] (by kernel_rfl) ?_
        refine wpAny_ready (rs := [6]) (by kernel_rfl) (by simp) (AllReady.cons rfl (fun K hK => ?_) (AllReady.nil))
        have p1 := HQ.out.c
        have p2 := HQ.out.fr
        have p3 := HQ.out.one
        go_simp
        refine hK _ _ ?_
        conv =>
          arg 7
          simp [Act.put]
        clear hK K p1 p2 p3
        refine wpAny_done (by kernel_rfl) ?_ _
        obtain ⟨w6, hw6⟩ : ∃ W, w5.setCell ⟨w.heap.size + 1, 0, none⟩ (.slice fa0 fm0 fc0) = W := ⟨_, rfl⟩
        have hs6 : Stay (fun j => w.heap.size + 1 ≤ j) w2 w6 := HS.out.trans (hw6 ▸ ((HQ.out.st.mono (fun j y => by omega)).trans (Stay.setCell _ _ _ (Nat.le_refl _))))
        have hn6 := HNEW.out
        rw [hw6] at hn6 ⊢
        have HN6 := Lib.hid hn6
        have HS6 := Lib.hid hs6
        clear hw6 hs6 hn6 HQ HNEW HS4
        go_wp2_with fail
        refine wp_region_any (by kernel_rfl) ?_
        change wpAny _ _ _ _ _ _ _ (World.drew _)
        refine wpAny_takeL (i := 0) (v := .pointer (some ⟨w.heap.size + 1, 1, none⟩)) #[true, false, false, false, false, false, false] rfl (by kernel_rfl) (by kernel_rfl) (by kernel_rfl) (fun _ _ _ h => h) (by kernel_rfl) (Or.inl ⟨by rfl, fun W => ?_⟩) ?_
        · go_simp
        conv =>
          arg 7
          simp [Act.put]
        refine wpAny_ready (rs := [1, 2]) (by kernel_rfl) (by simp) (AllReady.cons rfl (fun K hK => ?_) (AllReady.cons rfl (fun K hK => ?_) (AllReady.nil)))
        · skip
          have q := (HN6.out.stay0 (Stay.drew)).box.c 1
          go_simp
          refine hK _ _ ?_
          conv =>
            arg 7
            simp [Act.put]
          clear hK K q
          refine wpAny_listed #[true, true, false, false, false, false, false] (by kernel_rfl) ?_
          refine wpAny_ready (rs := [2]) (by kernel_rfl) (by simp) (AllReady.cons rfl (fun K hK => ?_) (AllReady.nil))
          go_simp
          go_wp2_with (
            go_at_call 26
            refine (blank_nil _).mono ?_
            rintro e w4 ⟨rfl, hs4⟩
            have HS4 := Lib.hid ((Stay.drew (X := fun _ => False) (w := w6)).trans hs4)
            clear hs4)
          refine wpAny_listed #[true, true, true, false, false, false, false] (by kernel_rfl) ?_
          refine wpAny_ready (rs := [3]) (by kernel_rfl) (by simp) (AllReady.cons rfl (fun K hK => ?_) (AllReady.nil))
          go_simp
          refine hK _ _ ?_
          conv =>
            arg 7
            simp [Act.put]
          clear hK K
          refine wpAny_listed #[true, true, true, true, false, false, false] (by kernel_rfl) ?_
          refine wpAny_ready (rs := [4]) (by kernel_rfl) (by simp) (AllReady.cons rfl (fun K hK => ?_) (AllReady.nil))
          refine step_append_ex rfl (.tmp 26) (.tmp 28) 30 rfl u2 (.slice (some ⟨w4.heap.size, 0, none⟩) 1 1) rfl rfl _ (HN6.out.step1 HS4.out zsec _ (by simp; exact HL.out)) ?_
          rintro v2 w7 ⟨hq, hnew⟩
          obtain ⟨fa1, fm1, fc1, rfl⟩ := hq.fm
          have HQ := Lib.hid hq
          have HNEW := Lib.hid hnew
          clear hq hnew
          refine hK _ _ ?_
          conv =>
            arg 7
            simp [Act.put]
          clear hK K
          refine wpAny_listed #[true, true, true, true, true, false, false] (by kernel_rfl) ?_
          refine wpAny_ready (rs := [5]) (by kernel_rfl) (by simp) (AllReady.cons rfl (fun K hK => ?_) (AllReady.nil))
          go_simp
          refine hK _ _ ?_
          conv =>
            arg 7
            simp [Act.put]
          clear hK K
          refine wpAny_listed #[true, true, true, true, true, true, false] (by kernel_rfl) ?_
          refine wpAny_ready (rs := [6]) (by kernel_rfl) (by simp) (AllReady.cons rfl (fun K hK => ?_) (AllReady.nil))
          have p1 := HQ.out.c
          have p2 := HQ.out.fr
          have p3 := HQ.out.one
          go_simp
          refine hK _ _ ?_
          conv =>
            arg 7
            simp [Act.put]
          clear hK K p1 p2 p3
          refine wpAny_done (by kernel_rfl) ?_ _
          obtain ⟨w8, hw8⟩ : ∃ W, w7.setCell ⟨w.heap.size + 1, 1, none⟩ (.slice fa1 fm1 fc1) = W := ⟨_, rfl⟩
          have hs8 : Stay (fun j => w.heap.size + 1 ≤ j) w2 w8 := HS6.out.trans (hw8 ▸ ((HQ.out.st.mono (fun j y => by omega)).trans (Stay.setCell _ _ _ (Nat.le_refl _))))
          have hn8 := HNEW.out
          rw [hw8] at hn8 ⊢
          have HN8 := Lib.hid hn8
          have HS8 := Lib.hid hs8
          have c2 := hn8.box.c 2
          clear hw8 hs8 hn8
          go_wp2_with (
            at_builtin
            refine wpList_append_ex2 rfl (.tmp 32) (.tmp 33) 31 rfl u3 (.slice (some ⟨w8.heap.size, 0, none⟩) 1 1) rfl rfl _ (HN8.out.step2 (Stay.refl _ _) false _ (by simp; exact HL.out)) ?_
            rintro v3 w9 ⟨hq, hnew⟩
            obtain ⟨fa2, fm2, fc2, rfl⟩ := hq.fm
            have p1 := hq.c
            have p2 := hq.fr
            have p3 := hq.one
            have HNF := Lib.hid hnew
            have HSF := Lib.hid (show Stay (fun j => w.heap.size + 1 ≤ j) w2 (w9.setCell ⟨w.heap.size + 1, 2, none⟩ (.slice fa2 fm2 fc2)) from (HS8.out.trans (hq.st.mono (fun j y => by omega))).trans (Stay.setCell _ _ _ (Nat.le_refl _)))
            clear hq hnew c2)
          have hj2 := HJ.out
          first
            | exact ⟨⟨j + 1, _, _, _, by omega, by go_num, by rw [rep_snoc, rep_snoc]; exact HNF.out, HSF.out⟩, by simp [intOf]; omega⟩
            | (go_round
               case rel => exact ⟨j + 1, _, _, _, by omega, by go_num, by rw [rep_snoc, rep_snoc]; exact HNF.out, HSF.out⟩
               case measure => simp [intOf]; omega)
        · skip
          go_simp
          go_wp2_with (
            go_at_call 26
            refine (blank_nil _).mono ?_
            rintro e w4 ⟨rfl, hs4⟩
            have HS4 := Lib.hid ((Stay.drew (X := fun _ => False) (w := w6)).trans hs4)
            clear hs4)
          refine wpAny_listed #[true, false, true, false, false, false, false] (by kernel_rfl) ?_
          refine wpAny_ready (rs := [1, 3]) (by kernel_rfl) (by simp) (AllReady.cons rfl (fun K hK => ?_) (AllReady.cons rfl (fun K hK => ?_) (AllReady.nil)))
          · skip
            have q := (HN6.out.stay0 HS4.out).box.c 1
            go_simp
            refine hK _ _ ?_
            conv =>
              arg 7
              simp [Act.put]
            clear hK K q
            refine wpAny_listed #[true, true, true, false, false, false, false] (by kernel_rfl) ?_
            refine wpAny_ready (rs := [3]) (by kernel_rfl) (by simp) (AllReady.cons rfl (fun K hK => ?_) (AllReady.nil))
            go_simp
            refine hK _ _ ?_
            conv =>
              arg 7
              simp [Act.put]
            clear hK K
            refine wpAny_listed #[true, true, true, true, false, false, false] (by kernel_rfl) ?_
            refine wpAny_ready (rs := [4]) (by kernel_rfl) (by simp) (AllReady.cons rfl (fun K hK => ?_) (AllReady.nil))
            refine step_append_ex rfl (.tmp 26) (.tmp 28) 30 rfl u2 (.slice (some ⟨w4.heap.size, 0, none⟩) 1 1) rfl rfl _ (HN6.out.step1 HS4.out zsec _ (by simp; exact HL.out)) ?_
            rintro v2 w7 ⟨hq, hnew⟩
            obtain ⟨fa1, fm1, fc1, rfl⟩ := hq.fm
            have HQ := Lib.hid hq
            have HNEW := Lib.hid hnew
            clear hq hnew
            refine hK _ _ ?_
            conv =>
              arg 7
              simp [Act.put]
            clear hK K
            refine wpAny_listed #[true, true, true, true, true, false, false] (by kernel_rfl) ?_
            refine wpAny_ready (rs := [5]) (by kernel_rfl) (by simp) (AllReady.cons rfl (fun K hK => ?_) (AllReady.nil))
            go_simp
            refine hK _ _ ?_
            conv =>
              arg 7
              simp [Act.put]
            clear hK K
            refine wpAny_listed #[true, true, true, true, true, true, false] (by kernel_rfl) ?_
            refine wpAny_ready (rs := [6]) (by kernel_rfl) (by simp) (AllReady.cons rfl (fun K hK => ?_) (AllReady.nil))
            have p1 := HQ.out.c
            have p2 := HQ.out.fr
            have p3 := HQ.out.one
            go_simp
            refine hK _ _ ?_
            conv =>
              arg 7
              simp [Act.put]
            clear hK K p1 p2 p3
            refine wpAny_done (by kernel_rfl) ?_ _
            obtain ⟨w8, hw8⟩ : ∃ W, w7.setCell ⟨w.heap.size + 1, 1, none⟩ (.slice fa1 fm1 fc1) = W := ⟨_, rfl⟩
            have hs8 : Stay (fun j => w.heap.size + 1 ≤ j) w2 w8 := HS6.out.trans (hw8 ▸ ((HQ.out.st.mono (fun j y => by omega)).trans (Stay.setCell _ _ _ (Nat.le_refl _))))
            have hn8 := HNEW.out
            rw [hw8] at hn8 ⊢
            have HN8 := Lib.hid hn8
            have HS8 := Lib.hid hs8
            have c2 := hn8.box.c 2
            clear hw8 hs8 hn8
            go_wp2_with (
              at_builtin
              refine wpList_append_ex2 rfl (.tmp 32) (.tmp 33) 31 rfl u3 (.slice (some ⟨w8.heap.size, 0, none⟩) 1 1) rfl rfl _ (HN8.out.step2 (Stay.refl _ _) false _ (by simp; exact HL.out)) ?_
              rintro v3 w9 ⟨hq, hnew⟩
              obtain ⟨fa2, fm2, fc2, rfl⟩ := hq.fm
              have p1 := hq.c
              have p2 := hq.fr
              have p3 := hq.one
              have HNF := Lib.hid hnew
              have HSF := Lib.hid (show Stay (fun j => w.heap.size + 1 ≤ j) w2 (w9.setCell ⟨w.heap.size + 1, 2, none⟩ (.slice fa2 fm2 fc2)) from (HS8.out.trans (hq.st.mono (fun j y => by omega))).trans (Stay.setCell _ _ _ (Nat.le_refl _)))
              clear hq hnew c2)
            have hj2 := HJ.out
            first
              | exact ⟨⟨j + 1, _, _, _, by omega, by go_num, by rw [rep_snoc, rep_snoc]; exact HNF.out, HSF.out⟩, by simp [intOf]; omega⟩
              | (go_round
                 case rel => exact ⟨j + 1, _, _, _, by omega, by go_num, by rw [rep_snoc, rep_snoc]; exact HNF.out, HSF.out⟩
                 case measure => simp [intOf]; omega)
          · skip
            go_simp
            refine hK _ _ ?_
            conv =>
              arg 7
              simp [Act.put]
            clear hK K
            refine wpAny_listed #[true, false, true, true, false, false, false] (by kernel_rfl) ?_
            refine wpAny_ready (rs := [1]) (by kernel_rfl) (by simp) (AllReady.cons rfl (fun K hK => ?_) (AllReady.nil))
            have q := (HN6.out.stay0 (HS4.out.trans (Stay.alloc w4 (.cells #[.string ⟨zsec.toArray⟩] 9)))).box.c 1
            go_simp
            refine hK _ _ ?_
            conv =>
              arg 7
              simp [Act.put]
            clear hK K q
            refine wpAny_listed #[true, true, true, true, false, false, false] (by kernel_rfl) ?_
            refine wpAny_ready (rs := [4]) (by kernel_rfl) (by simp) (AllReady.cons rfl (fun K hK => ?_) (AllReady.nil))
            refine step_append_ex rfl (.tmp 26) (.tmp 28) 30 rfl u2 (.slice (some ⟨w4.heap.size, 0, none⟩) 1 1) rfl rfl _ (HN6.out.step1 HS4.out zsec _ (by simp; exact HL.out)) ?_
            rintro v2 w7 ⟨hq, hnew⟩
            obtain ⟨fa1, fm1, fc1, rfl⟩ := hq.fm
            have HQ := Lib.hid hq
            have HNEW := Lib.hid hnew
            clear hq hnew
            refine hK _ _ ?_
            conv =>
              arg 7
              simp [Act.put]
            clear hK K
            refine wpAny_listed #[true, true, true, true, true, false, false] (by kernel_rfl) ?_
            refine wpAny_ready (rs := [5]) (by kernel_rfl) (by simp) (AllReady.cons rfl (fun K hK => ?_) (AllReady.nil))
            go_simp
            refine hK _ _ ?_
            conv =>
              arg 7
              simp [Act.put]
            clear hK K
            refine wpAny_listed #[true, true, true, true, true, true, false] (by kernel_rfl) ?_
            refine wpAny_ready (rs := [6]) (by kernel_rfl) (by simp) (AllReady.cons rfl (fun K hK => ?_) (AllReady.nil))
            have p1 := HQ.out.c
            have p2 := HQ.out.fr
            have p3 := HQ.out.one
            go_simp
            refine hK _ _ ?_
            conv =>
              arg 7
              simp [Act.put]
            clear hK K p1 p2 p3
            refine wpAny_done (by kernel_rfl) ?_ _
            obtain ⟨w8, hw8⟩ : ∃ W, w7.setCell ⟨w.heap.size + 1, 1, none⟩ (.slice fa1 fm1 fc1) = W := ⟨_, rfl⟩
            have hs8 : Stay (fun j => w.heap.size + 1 ≤ j) w2 w8 := HS6.out.trans (hw8 ▸ ((HQ.out.st.mono (fun j y => by omega)).trans (Stay.setCell _ _ _ (Nat.le_refl _))))
            have hn8 := HNEW.out
            rw [hw8] at hn8 ⊢
            have HN8 := Lib.hid hn8
            have HS8 := Lib.hid hs8
            have c2 := hn8.box.c 2
            clear hw8 hs8 hn8
            go_wp2_with (
              at_builtin
              refine wpList_append_ex2 rfl (.tmp 32) (.tmp 33) 31 rfl u3 (.slice (some ⟨w8.heap.size, 0, none⟩) 1 1) rfl rfl _ (HN8.out.step2 (Stay.refl _ _) false _ (by simp; exact HL.out)) ?_
              rintro v3 w9 ⟨hq, hnew⟩
              obtain ⟨fa2, fm2, fc2, rfl⟩ := hq.fm
              have p1 := hq.c
              have p2 := hq.fr
              have p3 := hq.one
              have HNF := Lib.hid hnew
              have HSF := Lib.hid (show Stay (fun j => w.heap.size + 1 ≤ j) w2 (w9.setCell ⟨w.heap.size + 1, 2, none⟩ (.slice fa2 fm2 fc2)) from (HS8.out.trans (hq.st.mono (fun j y => by omega))).trans (Stay.setCell _ _ _ (Nat.le_refl _)))
              clear hq hnew c2)
            have hj2 := HJ.out
            first
              | exact ⟨⟨j + 1, _, _, _, by omega, by go_num, by rw [rep_snoc, rep_snoc]; exact HNF.out, HSF.out⟩, by simp [intOf]; omega⟩
              | (go_round
                 case rel => exact ⟨j + 1, _, _, _, by omega, by go_num, by rw [rep_snoc, rep_snoc]; exact HNF.out, HSF.out⟩
                 case measure => simp [intOf]; omega)
      · skip
        go_simp
        go_wp2_with (
          go_at_call 26
          refine (blank_nil _).mono ?_
          rintro e w4 ⟨rfl, hs4⟩
          have HS4 := Lib.hid ((Stay.drew (X := fun _ => False) (w := wr)).trans hs4)
          clear hs4)
        refine wpAny_listed #[true, false, true, false, false, false, false] (by kernel_rfl) ?_
        refine wpAny_ready (rs := [1, 3]) (by kernel_rfl) (by simp) (AllReady.cons rfl (fun K hK => ?_) (AllReady.cons rfl (fun K hK => ?_) (AllReady.nil)))
        · skip
          have q := (HN.out.stay0 HS4.out).box.c 0
          go_simp
          refine hK _ _ ?_
          conv =>
            arg 7
            simp [Act.put]
          clear hK K q
          refine wpAny_listed #[true, true, true, false, false, false, false] (by kernel_rfl) ?_
          refine wpAny_ready (rs := [3]) (by kernel_rfl) (by simp) (AllReady.cons rfl (fun K hK => ?_) (AllReady.nil))
          go_simp
          refine hK _ _ ?_
          conv =>
            arg 7
            simp [Act.put]
          clear hK K
          refine wpAny_listed #[true, true, true, true, false, false, false] (by kernel_rfl) ?_
          refine wpAny_ready (rs := [4]) (by kernel_rfl) (by simp) (AllReady.cons rfl (fun K hK => ?_) (AllReady.nil))
          refine step_append_ex rfl (.tmp 20) (.tmp 22) 30 rfl u1 (.slice (some ⟨w4.heap.size, 0, none⟩) 1 1) rfl rfl _ (HN.out.step0 HS4.out zsec _ (by simp; exact HL.out)) ?_
          rintro v1 w5 ⟨hq, hnew⟩
          obtain ⟨fa0, fm0, fc0, rfl⟩ := hq.fm
          have HQ := Lib.hid hq
          have HNEW := Lib.hid hnew
          clear hq hnew
          refine hK _ _ ?_
          conv =>
            arg 7
            simp [Act.put]
          clear hK K
          refine wpAny_listed #[true, true, true, true, true, false, false] (by kernel_rfl) ?_
          refine wpAny_ready (rs := [5]) (by kernel_rfl) (by simp) (AllReady.cons rfl (fun K hK => ?_) (AllReady.nil))
          go_simp
          refine hK _ _ ?_
          conv =>
            arg 7
            simp [Act.put]
          clear hK K
          refine wpAny_listed #[true, true, true, true, true, true, false] (by kernel_rfl) ?_
          refine wpAny_ready (rs := [6]) (by kernel_rfl) (by simp) (AllReady.cons rfl (fun K hK => ?_) (AllReady.nil))
          have p1 := HQ.out.c
          have p2 := HQ.out.fr
          have p3 := HQ.out.one
          go_simp
          refine hK _ _ ?_
          conv =>
            arg 7
            simp [Act.put]
          clear hK K p1 p2 p3
          refine wpAny_done (by kernel_rfl) ?_ _
          obtain ⟨w6, hw6⟩ : ∃ W, w5.setCell ⟨w.heap.size + 1, 0, none⟩ (.slice fa0 fm0 fc0) = W := ⟨_, rfl⟩
          have hs6 : Stay (fun j => w.heap.size + 1 ≤ j) w2 w6 := HS.out.trans (hw6 ▸ ((HQ.out.st.mono (fun j y => by omega)).trans (Stay.setCell _ _ _ (Nat.le_refl _))))
          have hn6 := HNEW.out
          rw [hw6] at hn6 ⊢
          have HN6 := Lib.hid hn6
          have HS6 := Lib.hid hs6
          clear hw6 hs6 hn6 HQ HNEW HS4
          go_wp2_with fail
          refine wp_region_any (by kernel_rfl) ?_
          change wpAny _ _ _ _ _ _ _ (World.drew _)
          refine wpAny_takeL (i := 0) (v := .pointer (some ⟨w.heap.size + 1, 1, none⟩)) #[true, false, false, false, false, false, false] rfl (by kernel_rfl) (by kernel_rfl) (by kernel_rfl) (fun _ _ _ h => h) (by kernel_rfl) (Or.inl ⟨by rfl, fun W => ?_⟩) ?_
          · go_simp
          conv =>
            arg 7
            simp [Act.put]
          refine wpAny_ready (rs := [1, 2]) (by kernel_rfl) (by simp) (AllReady.cons rfl (fun K hK => ?_) (AllReady.cons rfl (fun K hK => ?_) (AllReady.nil)))
          · skip
            have q := (HN6.out.stay0 (Stay.drew)).box.c 1
            go_simp
            refine hK _ _ ?_
            conv =>
              arg 7
              simp [Act.put]
            clear hK K q
            refine wpAny_listed #[true, true, false, false, false, false, false] (by kernel_rfl) ?_
            refine wpAny_ready (rs := [2]) (by kernel_rfl) (by simp) (AllReady.cons rfl (fun K hK => ?_) (AllReady.nil))
            go_simp
            go_wp2_with (
              go_at_call 26
              refine (blank_nil _).mono ?_
              rintro e w4 ⟨rfl, hs4⟩
              have HS4 := Lib.hid ((Stay.drew (X := fun _ => False) (w := w6)).trans hs4)
              clear hs4)
            refine wpAny_listed #[true, true, true, false, false, false, false] (by kernel_rfl) ?_
            refine wpAny_ready (rs := [3]) (by kernel_rfl) (by simp) (AllReady.cons rfl (fun K hK => ?_) (AllReady.nil))
            go_simp
            refine hK _ _ ?_
            conv =>
              arg 7
              simp [Act.put]
            clear hK K
            refine wpAny_listed #[true, true, true, true, false, false, false] (by kernel_rfl) ?_
            refine wpAny_ready (rs := [4]) (by kernel_rfl) (by simp) (AllReady.cons rfl (fun K hK => ?_) (AllReady.nil))
            refine step_append_ex rfl (.tmp 26) (.tmp 28) 30 rfl u2 (.slice (some ⟨w4.heap.size, 0, none⟩) 1 1) rfl rfl _ (HN6.out.step1 HS4.out zsec _ (by simp; exact HL.out)) ?_
            rintro v2 w7 ⟨hq, hnew⟩
            obtain ⟨fa1, fm1, fc1, rfl⟩ := hq.fm
            have HQ := Lib.hid hq
            have HNEW := Lib.hid hnew
            clear hq hnew
            refine hK _ _ ?_
            conv =>
              arg 7
              simp [Act.put]
            clear hK K
            refine wpAny_listed #[true, true, true, true, true, false, false] (by kernel_rfl) ?_
            refine wpAny_ready (rs := [5]) (by kernel_rfl) (by simp) (AllReady.cons rfl (fun K hK => ?_) (AllReady.nil))
            go_simp
            refine hK _ _ ?_
            conv =>
              arg 7
              simp [Act.put]
            clear hK K
            refine wpAny_listed #[true, true, true, true, true, true, false] (by kernel_rfl) ?_
            refine wpAny_ready (rs := [6]) (by kernel_rfl) (by simp) (AllReady.cons rfl (fun K hK => ?_) (AllReady.nil))
            have p1 := HQ.out.c
            have p2 := HQ.out.fr
            have p3 := HQ.out.one
            go_simp
            refine hK _ _ ?_
            conv =>
              arg 7
              simp [Act.put]
            clear hK K p1 p2 p3
            refine wpAny_done (by kernel_rfl) ?_ _
            obtain ⟨w8, hw8⟩ : ∃ W, w7.setCell ⟨w.heap.size + 1, 1, none⟩ (.slice fa1 fm1 fc1) = W := ⟨_, rfl⟩
            have hs8 : Stay (fun j => w.heap.size + 1 ≤ j) w2 w8 := HS6.out.trans (hw8 ▸ ((HQ.out.st.mono (fun j y => by omega)).trans (Stay.setCell _ _ _ (Nat.le_refl _))))
            have hn8 := HNEW.out
            rw [hw8] at hn8 ⊢
            have HN8 := Lib.hid hn8
            have HS8 := Lib.hid hs8
            have c2 := hn8.box.c 2
            clear hw8 hs8 hn8
            go_wp2_with (
              at_builtin
              refine wpList_append_ex2 rfl (.tmp 32) (.tmp 33) 31 rfl u3 (.slice (some ⟨w8.heap.size, 0, none⟩) 1 1) rfl rfl _ (HN8.out.step2 (Stay.refl _ _) false _ (by simp; exact HL.out)) ?_
              rintro v3 w9 ⟨hq, hnew⟩
              obtain ⟨fa2, fm2, fc2, rfl⟩ := hq.fm
              have p1 := hq.c
              have p2 := hq.fr
              have p3 := hq.one
              have HNF := Lib.hid hnew
              have HSF := Lib.hid (show Stay (fun j => w.heap.size + 1 ≤ j) w2 (w9.setCell ⟨w.heap.size + 1, 2, none⟩ (.slice fa2 fm2 fc2)) from (HS8.out.trans (hq.st.mono (fun j y => by omega))).trans (Stay.setCell _ _ _ (Nat.le_refl _)))
              clear hq hnew c2)
            have hj2 := HJ.out
            first
              | exact ⟨⟨j + 1, _, _, _, by omega, by go_num, by rw [rep_snoc, rep_snoc]; exact HNF.out, HSF.out⟩, by simp [intOf]; omega⟩
              | (go_round
                 case rel => exact ⟨j + 1, _, _, _, by omega, by go_num, by rw [rep_snoc, rep_snoc]; exact HNF.out, HSF.out⟩
                 case measure => simp [intOf]; omega)
          · skip
            go_simp
            go_wp2_with (
              go_at_call 26
              refine (blank_nil _).mono ?_
              rintro e w4 ⟨rfl, hs4⟩
              have HS4 := Lib.hid ((Stay.drew (X := fun _ => False) (w := w6)).trans hs4)
              clear hs4)
            refine wpAny_listed #[true, false, true, false, false, false, false] (by kernel_rfl) ?_
            refine wpAny_ready (rs := [1, 3]) (by kernel_rfl) (by simp) (AllReady.cons rfl (fun K hK => ?_) (AllReady.cons rfl (fun K hK => ?_) (AllReady.nil)))
            · skip
              have q := (HN6.out.stay0 HS4.out).box.c 1
              go_simp
              refine hK _ _ ?_
              conv =>
                arg 7
                simp [Act.put]
              clear hK K q
              refine wpAny_listed #[true, true, true, false, false, false, false] (by kernel_rfl) ?_
              refine wpAny_ready (rs := [3]) (by kernel_rfl) (by simp) (AllReady.cons rfl (fun K hK => ?_) (AllReady.nil))
              go_simp
              refine hK _ _ ?_
              conv =>
                arg 7
                simp [Act.put]
              clear hK K
              refine wpAny_listed #[true, true, true, true, false, false, false] (by kernel_rfl) ?_
              refine wpAny_ready (rs := [4]) (by kernel_rfl) (by simp) (AllReady.cons rfl (fun K hK => ?_) (AllReady.nil))
              refine step_append_ex rfl (.tmp 26) (.tmp 28) 30 rfl u2 (.slice (some ⟨w4.heap.size, 0, none⟩) 1 1) rfl rfl _ (HN6.out.step1 HS4.out zsec _ (by simp; exact HL.out)) ?_
              rintro v2 w7 ⟨hq, hnew⟩
              obtain ⟨fa1, fm1, fc1, rfl⟩ := hq.fm
              have HQ := Lib.hid hq
              have HNEW := Lib.hid hnew
              clear hq hnew
              refine hK _ _ ?_
              conv =>
                arg 7
                simp [Act.put]
              clear hK K
              refine wpAny_listed #[true, true, true, true, true, false, false] (by kernel_rfl) ?_
              refine wpAny_ready (rs := [5]) (by kernel_rfl) (by simp) (AllReady.cons rfl (fun K hK => ?_) (AllReady.nil))
              go_simp
              refine hK _ _ ?_
              conv =>
                arg 7
                simp [Act.put]
              clear hK K
              refine wpAny_listed #[true, true, true, true, true, true, false] (by kernel_rfl) ?_
              refine wpAny_ready (rs := [6]) (by kernel_rfl) (by simp) (AllReady.cons rfl (fun K hK => ?_) (AllReady.nil))
              have p1 := HQ.out.c
              have p2 := HQ.out.fr
              have p3 := HQ.out.one
              go_simp
              refine hK _ _ ?_
              conv =>
                arg 7
                simp [Act.put]
              clear hK K p1 p2 p3
              refine wpAny_done (by kernel_rfl) ?_ _
              obtain ⟨w8, hw8⟩ : ∃ W, w7.setCell ⟨w.heap.size + 1, 1, none⟩ (.slice fa1 fm1 fc1) = W := ⟨_, rfl⟩
              have hs8 : Stay (fun j => w.heap.size + 1 ≤ j) w2 w8 := HS6.out.trans (hw8 ▸ ((HQ.out.st.mono (fun j y => by omega)).trans (Stay.setCell _ _ _ (Nat.le_refl _))))
              have hn8 := HNEW.out
              rw [hw8] at hn8 ⊢
              have HN8 := Lib.hid hn8
              have HS8 := Lib.hid hs8
              have c2 := hn8.box.c 2
              clear hw8 hs8 hn8
              go_wp2_with (
                at_builtin
                refine wpList_append_ex2 rfl (.tmp 32) (.tmp 33) 31 rfl u3 (.slice (some ⟨w8.heap.size, 0, none⟩) 1 1) rfl rfl _ (HN8.out.step2 (Stay.refl _ _) false _ (by simp; exact HL.out)) ?_
                rintro v3 w9 ⟨hq, hnew⟩
                obtain ⟨fa2, fm2, fc2, rfl⟩ := hq.fm
                have p1 := hq.c
                have p2 := hq.fr
                have p3 := hq.one
                have HNF := Lib.hid hnew
                have HSF := Lib.hid (show Stay (fun j => w.heap.size + 1 ≤ j) w2 (w9.setCell ⟨w.heap.size + 1, 2, none⟩ (.slice fa2 fm2 fc2)) from (HS8.out.trans (hq.st.mono (fun j y => by omega))).trans (Stay.setCell _ _ _ (Nat.le_refl _)))
                clear hq hnew c2)
              have hj2 := HJ.out
              first
                | exact ⟨⟨j + 1, _, _, _, by omega, by go_num, by rw [rep_snoc, rep_snoc]; exact HNF.out, HSF.out⟩, by simp [intOf]; omega⟩
                | (go_round
                   case rel => exact ⟨j + 1, _, _, _, by omega, by go_num, by rw [rep_snoc, rep_snoc]; exact HNF.out, HSF.out⟩
                   case measure => simp [intOf]; omega)
            · skip
              go_simp
              refine hK _ _ ?_
              conv =>
                arg 7
                simp [Act.put]
              clear hK K
              refine wpAny_listed #[true, false, true, true, false, false, false] (by kernel_rfl) ?_
              refine wpAny_ready (rs := [1]) (by kernel_rfl) (by simp) (AllReady.cons rfl (fun K hK => ?_) (AllReady.nil))
              have q := (HN6.out.stay0 (HS4.out.trans (Stay.alloc w4 (.cells #[.string ⟨zsec.toArray⟩] 9)))).box.c 1
              go_simp
              refine hK _ _ ?_
              conv =>
                arg 7
                simp [Act.put]
              clear hK K q
              refine wpAny_listed #[true, true, true, true, false, false, false] (by kernel_rfl) ?_
              refine wpAny_ready (rs := [4]) (by kernel_rfl) (by simp) (AllReady.cons rfl (fun K hK => ?_) (AllReady.nil))
              refine step_append_ex rfl (.tmp 26) (.tmp 28) 30 rfl u2 (.slice (some ⟨w4.heap.size, 0, none⟩) 1 1) rfl rfl _ (HN6.out.step1 HS4.out zsec _ (by simp; exact HL.out)) ?_
              rintro v2 w7 ⟨hq, hnew⟩
              obtain ⟨fa1, fm1, fc1, rfl⟩ := hq.fm
              have HQ := Lib.hid hq
              have HNEW := Lib.hid hnew
              clear hq hnew
              refine hK _ _ ?_
              conv =>
                arg 7
                simp [Act.put]
              clear hK K
              refine wpAny_listed #[true, true, true, true, true, false, false] (by kernel_rfl) ?_
              refine wpAny_ready (rs := [5]) (by kernel_rfl) (by simp) (AllReady.cons rfl (fun K hK => ?_) (AllReady.nil))
              go_simp
              refine hK _ _ ?_
              conv =>
                arg 7
                simp [Act.put]
              clear hK K
              refine wpAny_listed #[true, true, true, true, true, true, false] (by kernel_rfl) ?_
              refine wpAny_ready (rs := [6]) (by kernel_rfl) (by simp) (AllReady.cons rfl (fun K hK => ?_) (AllReady.nil))
              have p1 := HQ.out.c
              have p2 := HQ.out.fr
              have p3 := HQ.out.one
              go_simp
              refine hK _ _ ?_
              conv =>
                arg 7
                simp [Act.put]
              clear hK K p1 p2 p3
              refine wpAny_done (by kernel_rfl) ?_ _
              obtain ⟨w8, hw8⟩ : ∃ W, w7.setCell ⟨w.heap.size + 1, 1, none⟩ (.slice fa1 fm1 fc1) = W := ⟨_, rfl⟩
              have hs8 : Stay (fun j => w.heap.size + 1 ≤ j) w2 w8 := HS6.out.trans (hw8 ▸ ((HQ.out.st.mono (fun j y => by omega)).trans (Stay.setCell _ _ _ (Nat.le_refl _))))
              have hn8 := HNEW.out
              rw [hw8] at hn8 ⊢
              have HN8 := Lib.hid hn8
              have HS8 := Lib.hid hs8
              have c2 := hn8.box.c 2
              clear hw8 hs8 hn8
              go_wp2_with (
                at_builtin
                refine wpList_append_ex2 rfl (.tmp 32) (.tmp 33) 31 rfl u3 (.slice (some ⟨w8.heap.size, 0, none⟩) 1 1) rfl rfl _ (HN8.out.step2 (Stay.refl _ _) false _ (by simp; exact HL.out)) ?_
                rintro v3 w9 ⟨hq, hnew⟩
                obtain ⟨fa2, fm2, fc2, rfl⟩ := hq.fm
                have p1 := hq.c
                have p2 := hq.fr
                have p3 := hq.one
                have HNF := Lib.hid hnew
                have HSF := Lib.hid (show Stay (fun j => w.heap.size + 1 ≤ j) w2 (w9.setCell ⟨w.heap.size + 1, 2, none⟩ (.slice fa2 fm2 fc2)) from (HS8.out.trans (hq.st.mono (fun j y => by omega))).trans (Stay.setCell _ _ _ (Nat.le_refl _)))
                clear hq hnew c2)
              have hj2 := HJ.out
              first
                | exact ⟨⟨j + 1, _, _, _, by omega, by go_num, by rw [rep_snoc, rep_snoc]; exact HNF.out, HSF.out⟩, by simp [intOf]; omega⟩
                | (go_round
                   case rel => exact ⟨j + 1, _, _, _, by omega, by go_num, by rw [rep_snoc, rep_snoc]; exact HNF.out, HSF.out⟩
                   case measure => simp [intOf]; omega)
        · skip
          go_simp
          refine hK _ _ ?_
          conv =>
            arg 7
            simp [Act.put]
          clear hK K
          refine wpAny_listed #[true, false, true, true, false, false, false] (by kernel_rfl) ?_
          refine wpAny_ready (rs := [1]) (by kernel_rfl) (by simp) (AllReady.cons rfl (fun K hK => ?_) (AllReady.nil))
          have q := (HN.out.stay0 (HS4.out.trans (Stay.alloc w4 (.cells #[.string ⟨zsec.toArray⟩] 9)))).box.c 0
          go_simp
          refine hK _ _ ?_
          conv =>
            arg 7
            simp [Act.put]
          clear hK K q
          refine wpAny_listed #[true, true, true, true, false, false, false] (by kernel_rfl) ?_
          refine wpAny_ready (rs := [4]) (by kernel_rfl) (by simp) (AllReady.cons rfl (fun K hK => ?_) (AllReady.nil))
          refine step_append_ex rfl (.tmp 20) (.tmp 22) 30 rfl u1 (.slice (some ⟨w4.heap.size, 0, none⟩) 1 1) rfl rfl _ (HN.out.step0 HS4.out zsec _ (by simp; exact HL.out)) ?_
          rintro v1 w5 ⟨hq, hnew⟩
          obtain ⟨fa0, fm0, fc0, rfl⟩ := hq.fm
          have HQ := Lib.hid hq
          have HNEW := Lib.hid hnew
          clear hq hnew
          refine hK _ _ ?_
          conv =>
            arg 7
            simp [Act.put]
          clear hK K
          refine wpAny_listed #[true, true, true, true, true, false, false] (by kernel_rfl) ?_
          refine wpAny_ready (rs := [5]) (by kernel_rfl) (by simp) (AllReady.cons rfl (fun K hK => ?_) (AllReady.nil))
          go_simp
          refine hK _ _ ?_
          conv =>
            arg 7
            simp [Act.put]
          clear hK K
          refine wpAny_listed #[true, true, true, true, true, true, false] (by kernel_rfl) ?_
          refine wpAny_ready (rs := [6]) (by kernel_rfl) (by simp) (AllReady.cons rfl (fun K hK => ?_) (AllReady.nil))
          have p1 := HQ.out.c
          have p2 := HQ.out.fr
          have p3 := HQ.out.one
          go_simp
          refine hK _ _ ?_
          conv =>
            arg 7
            simp [Act.put]
          clear hK K p1 p2 p3
          refine wpAny_done (by kernel_rfl) ?_ _
          obtain ⟨w6, hw6⟩ : ∃ W, w5.setCell ⟨w.heap.size + 1, 0, none⟩ (.slice fa0 fm0 fc0) = W := ⟨_, rfl⟩
          have hs6 : Stay (fun j => w.heap.size + 1 ≤ j) w2 w6 := HS.out.trans (hw6 ▸ ((HQ.out.st.mono (fun j y => by omega)).trans (Stay.setCell _ _ _ (Nat.le_refl _))))
          have hn6 := HNEW.out
          rw [hw6] at hn6 ⊢
          have HN6 := Lib.hid hn6
          have HS6 := Lib.hid hs6
          clear hw6 hs6 hn6 HQ HNEW HS4
          go_wp2_with fail
          refine wp_region_any (by kernel_rfl) ?_
          change wpAny _ _ _ _ _ _ _ (World.drew _)
          refine wpAny_takeL (i := 0) (v := .pointer (some ⟨w.heap.size + 1, 1, none⟩)) #[true, false, false, false, false, false, false] rfl (by kernel_rfl) (by kernel_rfl) (by kernel_rfl) (fun _ _ _ h => h) (by kernel_rfl) (Or.inl ⟨by rfl, fun W => ?_⟩) ?_
          · go_simp
          conv =>
            arg 7
            simp [Act.put]
          refine wpAny_ready (rs := [1, 2]) (by kernel_rfl) (by simp) (AllReady.cons rfl (fun K hK => ?_) (AllReady.cons rfl (fun K hK => ?_) (AllReady.nil)))
          · skip
            have q := (HN6.out.stay0 (Stay.drew)).box.c 1
            go_simp
            refine hK _ _ ?_
            conv =>
              arg 7
              simp [Act.put]
            clear hK K q
            refine wpAny_listed #[true, true, false, false, false, false, false] (by kernel_rfl) ?_
            refine wpAny_ready (rs := [2]) (by kernel_rfl) (by simp) (AllReady.cons rfl (fun K hK => ?_) (AllReady.nil))
            go_simp
            go_wp2_with (
              go_at_call 26
              refine (blank_nil _).mono ?_
              rintro e w4 ⟨rfl, hs4⟩
              have HS4 := Lib.hid ((Stay.drew (X := fun _ => False) (w := w6)).trans hs4)
              clear hs4)
            refine wpAny_listed #[true, true, true, false, false, false, false] (by kernel_rfl) ?_
            refine wpAny_ready (rs := [3]) (by kernel_rfl) (by simp) (AllReady.cons rfl (fun K hK => ?_) (AllReady.nil))
            go_simp
            refine hK _ _ ?_
            conv =>
              arg 7
              simp [Act.put]
            clear hK K
            refine wpAny_listed #[true, true, true, true, false, false, false] (by kernel_rfl) ?_
            refine wpAny_ready (rs := [4]) (by kernel_rfl) (by simp) (AllReady.cons rfl (fun K hK => ?_) (AllReady.nil))
            refine step_append_ex rfl (.tmp 26) (.tmp 28) 30 rfl u2 (.slice (some ⟨w4.heap.size, 0, none⟩) 1 1) rfl rfl _ (HN6.out.step1 HS4.out zsec _ (by simp; exact HL.out)) ?_
            rintro v2 w7 ⟨hq, hnew⟩
            obtain ⟨fa1, fm1, fc1, rfl⟩ := hq.fm
            have HQ := Lib.hid hq
            have HNEW := Lib.hid hnew
            clear hq hnew
            refine hK _ _ ?_
            conv =>
              arg 7
              simp [Act.put]
            clear hK K
            refine wpAny_listed #[true, true, true, true, true, false, false] (by kernel_rfl) ?_
            refine wpAny_ready (rs := [5]) (by kernel_rfl) (by simp) (AllReady.cons rfl (fun K hK => ?_) (AllReady.nil))
            go_simp
            refine hK _ _ ?_
            conv =>
              arg 7
              simp [Act.put]
            clear hK K
            refine wpAny_listed #[true, true, true, true, true, true, false] (by kernel_rfl) ?_
            refine wpAny_ready (rs := [6]) (by kernel_rfl) (by simp) (AllReady.cons rfl (fun K hK => ?_) (AllReady.nil))
            have p1 := HQ.out.c
            have p2 := HQ.out.fr
            have p3 := HQ.out.one
            go_simp
            refine hK _ _ ?_
            conv =>
              arg 7
              simp [Act.put]
            clear hK K p1 p2 p3
            refine wpAny_done (by kernel_rfl) ?_ _
            obtain ⟨w8, hw8⟩ : ∃ W, w7.setCell ⟨w.heap.size + 1, 1, none⟩ (.slice fa1 fm1 fc1) = W := ⟨_, rfl⟩
            have hs8 : Stay (fun j => w.heap.size + 1 ≤ j) w2 w8 := HS6.out.trans (hw8 ▸ ((HQ.out.st.mono (fun j y => by omega)).trans (Stay.setCell _ _ _ (Nat.le_refl _))))
            have hn8 := HNEW.out
            rw [hw8] at hn8 ⊢
            have HN8 := Lib.hid hn8
            have HS8 := Lib.hid hs8
            have c2 := hn8.box.c 2
            clear hw8 hs8 hn8
            go_wp2_with (
              at_builtin
              refine wpList_append_ex2 rfl (.tmp 32) (.tmp 33) 31 rfl u3 (.slice (some ⟨w8.heap.size, 0, none⟩) 1 1) rfl rfl _ (HN8.out.step2 (Stay.refl _ _) false _ (by simp; exact HL.out)) ?_
              rintro v3 w9 ⟨hq, hnew⟩
              obtain ⟨fa2, fm2, fc2, rfl⟩ := hq.fm
              have p1 := hq.c
              have p2 := hq.fr
              have p3 := hq.one
              have HNF := Lib.hid hnew
              have HSF := Lib.hid (show Stay (fun j => w.heap.size + 1 ≤ j) w2 (w9.setCell ⟨w.heap.size + 1, 2, none⟩ (.slice fa2 fm2 fc2)) from (HS8.out.trans (hq.st.mono (fun j y => by omega))).trans (Stay.setCell _ _ _ (Nat.le_refl _)))
              clear hq hnew c2)
            have hj2 := HJ.out
            first
              | exact ⟨⟨j + 1, _, _, _, by omega, by go_num, by rw [rep_snoc, rep_snoc]; exact HNF.out, HSF.out⟩, by simp [intOf]; omega⟩
              | (go_round
                 case rel => exact ⟨j + 1, _, _, _, by omega, by go_num, by rw [rep_snoc, rep_snoc]; exact HNF.out, HSF.out⟩
                 case measure => simp [intOf]; omega)
          · skip
            go_simp
            go_wp2_with (
              go_at_call 26
              refine (blank_nil _).mono ?_
              rintro e w4 ⟨rfl, hs4⟩
              have HS4 := Lib.hid ((Stay.drew (X := fun _ => False) (w := w6)).trans hs4)
              clear hs4)
            refine wpAny_listed #[true, false, true, false, false, false, false] (by kernel_rfl) ?_
            refine wpAny_ready (rs := [1, 3]) (by kernel_rfl) (by simp) (AllReady.cons rfl (fun K hK => ?_) (AllReady.cons rfl (fun K hK => ?_) (AllReady.nil)))
            · skip
              have q := (HN6.out.stay0 HS4.out).box.c 1
              go_simp
              refine hK _ _ ?_
              conv =>
                arg 7
                simp [Act.put]
              clear hK K q
              refine wpAny_listed #[true, true, true, false, false, false, false] (by kernel_rfl) ?_
              refine wpAny_ready (rs := [3]) (by kernel_rfl) (by simp) (AllReady.cons rfl (fun K hK => ?_) (AllReady.nil))
              go_simp
              refine hK _ _ ?_
              conv =>
                arg 7
                simp [Act.put]
              clear hK K
              refine wpAny_listed #[true, true, true, true, false, false, false] (by kernel_rfl) ?_
              refine wpAny_ready (rs := [4]) (by kernel_rfl) (by simp) (AllReady.cons rfl (fun K hK => ?_) (AllReady.nil))
              refine step_append_ex rfl (.tmp 26) (.tmp 28) 30 rfl u2 (.slice (some ⟨w4.heap.size, 0, none⟩) 1 1) rfl rfl _ (HN6.out.step1 HS4.out zsec _ (by simp; exact HL.out)) ?_
              rintro v2 w7 ⟨hq, hnew⟩
              obtain ⟨fa1, fm1, fc1, rfl⟩ := hq.fm
              have HQ := Lib.hid hq
              have HNEW := Lib.hid hnew
              clear hq hnew
              refine hK _ _ ?_
              conv =>
                arg 7
                simp [Act.put]
              clear hK K
              refine wpAny_listed #[true, true, true, true, true, false, false] (by kernel_rfl) ?_
              refine wpAny_ready (rs := [5]) (by kernel_rfl) (by simp) (AllReady.cons rfl (fun K hK => ?_) (AllReady.nil))
              go_simp
              refine hK _ _ ?_
              conv =>
                arg 7
                simp [Act.put]
              clear hK K
              refine wpAny_listed #[true, true, true, true, true, true, false] (by kernel_rfl) ?_
              refine wpAny_ready (rs := [6]) (by kernel_rfl) (by simp) (AllReady.cons rfl (fun K hK => ?_) (AllReady.nil))
              have p1 := HQ.out.c
              have p2 := HQ.out.fr
              have p3 := HQ.out.one
              go_simp
              refine hK _ _ ?_
              conv =>
                arg 7
                simp [Act.put]
              clear hK K p1 p2 p3
              refine wpAny_done (by kernel_rfl) ?_ _
              obtain ⟨w8, hw8⟩ : ∃ W, w7.setCell ⟨w.heap.size + 1, 1, none⟩ (.slice fa1 fm1 fc1) = W := ⟨_, rfl⟩
              have hs8 : Stay (fun j => w.heap.size + 1 ≤ j) w2 w8 := HS6.out.trans (hw8 ▸ ((HQ.out.st.mono (fun j y => by omega)).trans (Stay.setCell _ _ _ (Nat.le_refl _))))
              have hn8 := HNEW.out
              rw [hw8] at hn8 ⊢
              have HN8 := Lib.hid hn8
              have HS8 := Lib.hid hs8
              have c2 := hn8.box.c 2
              clear hw8 hs8 hn8
              go_wp2_with (
                at_builtin
                refine wpList_append_ex2 rfl (.tmp 32) (.tmp 33) 31 rfl u3 (.slice (some ⟨w8.heap.size, 0, none⟩) 1 1) rfl rfl _ (HN8.out.step2 (Stay.refl _ _) false _ (by simp; exact HL.out)) ?_
                rintro v3 w9 ⟨hq, hnew⟩
                obtain ⟨fa2, fm2, fc2, rfl⟩ := hq.fm
                have p1 := hq.c
                have p2 := hq.fr
                have p3 := hq.one
                have HNF := Lib.hid hnew
                have HSF := Lib.hid (show Stay (fun j => w.heap.size + 1 ≤ j) w2 (w9.setCell ⟨w.heap.size + 1, 2, none⟩ (.slice fa2 fm2 fc2)) from (HS8.out.trans (hq.st.mono (fun j y => by omega))).trans (Stay.setCell _ _ _ (Nat.le_refl _)))
                clear hq hnew c2)
              have hj2 := HJ.out
              first
                | exact ⟨⟨j + 1, _, _, _, by omega, by go_num, by rw [rep_snoc, rep_snoc]; exact HNF.out, HSF.out⟩, by simp [intOf]; omega⟩
                | (go_round
                   case rel => exact ⟨j + 1, _, _, _, by omega, by go_num, by rw [rep_snoc, rep_snoc]; exact HNF.out, HSF.out⟩
                   case measure => simp [intOf]; omega)
            · skip
              go_simp
              refine hK _ _ ?_
              conv =>
                arg 7
                simp [Act.put]
              clear hK K
              refine wpAny_listed #[true, false, true, true, false, false, false] (by kernel_rfl) ?_
              refine wpAny_ready (rs := [1]) (by kernel_rfl) (by simp) (AllReady.cons rfl (fun K hK => ?_) (AllReady.nil))
              have q := (HN6.out.stay0 (HS4.out.trans (Stay.alloc w4 (.cells #[.string ⟨zsec.toArray⟩] 9)))).box.c 1
              go_simp
              refine hK _ _ ?_
              conv =>
                arg 7
                simp [Act.put]
              clear hK K q
              refine wpAny_listed #[true, true, true, true, false, false, false] (by kernel_rfl) ?_
              refine wpAny_ready (rs := [4]) (by kernel_rfl) (by simp) (AllReady.cons rfl (fun K hK => ?_) (AllReady.nil))
              refine step_append_ex rfl (.tmp 26) (.tmp 28) 30 rfl u2 (.slice (some ⟨w4.heap.size, 0, none⟩) 1 1) rfl rfl _ (HN6.out.step1 HS4.out zsec _ (by simp; exact HL.out)) ?_
              rintro v2 w7 ⟨hq, hnew⟩
              obtain ⟨fa1, fm1, fc1, rfl⟩ := hq.fm
              have HQ := Lib.hid hq
              have HNEW := Lib.hid hnew
              clear hq hnew
              refine hK _ _ ?_
              conv =>
                arg 7
                simp [Act.put]
              clear hK K
              refine wpAny_listed #[true, true, true, true, true, false, false] (by kernel_rfl) ?_
              refine wpAny_ready (rs := [5]) (by kernel_rfl) (by simp) (AllReady.cons rfl (fun K hK => ?_) (AllReady.nil))
              go_simp
              refine hK _ _ ?_
              conv =>
                arg 7
                simp [Act.put]
              clear hK K
              refine wpAny_listed #[true, true, true, true, true, true, false] (by kernel_rfl) ?_
              refine wpAny_ready (rs := [6]) (by kernel_rfl) (by simp) (AllReady.cons rfl (fun K hK => ?_) (AllReady.nil))
              have p1 := HQ.out.c
              have p2 := HQ.out.fr
              have p3 := HQ.out.one
              go_simp
              refine hK _ _ ?_
              conv =>
                arg 7
                simp [Act.put]
              clear hK K p1 p2 p3
              refine wpAny_done (by kernel_rfl) ?_ _
              obtain ⟨w8, hw8⟩ : ∃ W, w7.setCell ⟨w.heap.size + 1, 1, none⟩ (.slice fa1 fm1 fc1) = W := ⟨_, rfl⟩
              have hs8 : Stay (fun j => w.heap.size + 1 ≤ j) w2 w8 := HS6.out.trans (hw8 ▸ ((HQ.out.st.mono (fun j y => by omega)).trans (Stay.setCell _ _ _ (Nat.le_refl _))))
              have hn8 := HNEW.out
              rw [hw8] at hn8 ⊢
              have HN8 := Lib.hid hn8
              have HS8 := Lib.hid hs8
              have c2 := hn8.box.c 2
              clear hw8 hs8 hn8
              go_wp2_with (
                at_builtin
                refine wpList_append_ex2 rfl (.tmp 32) (.tmp 33) 31 rfl u3 (.slice (some ⟨w8.heap.size, 0, none⟩) 1 1) rfl rfl _ (HN8.out.step2 (Stay.refl _ _) false _ (by simp; exact HL.out)) ?_
                rintro v3 w9 ⟨hq, hnew⟩
                obtain ⟨fa2, fm2, fc2, rfl⟩ := hq.fm
                have p1 := hq.c
                have p2 := hq.fr
                have p3 := hq.one
                have HNF := Lib.hid hnew
                have HSF := Lib.hid (show Stay (fun j => w.heap.size + 1 ≤ j) w2 (w9.setCell ⟨w.heap.size + 1, 2, none⟩ (.slice fa2 fm2 fc2)) from (HS8.out.trans (hq.st.mono (fun j y => by omega))).trans (Stay.setCell _ _ _ (Nat.le_refl _)))
                clear hq hnew c2)
              have hj2 := HJ.out
              first
                | exact ⟨⟨j + 1, _, _, _, by omega, by go_num, by rw [rep_snoc, rep_snoc]; exact HNF.out, HSF.out⟩, by simp [intOf]; omega⟩
                | (go_round
                   case rel => exact ⟨j + 1, _, _, _, by omega, by go_num, by rw [rep_snoc, rep_snoc]; exact HNF.out, HSF.out⟩
                   case measure => simp [intOf]; omega)
    · obtain rfl : j = n := by omega
      have HN := Lib.hid hst
      have HB3 := Lib.hid (HB2.out.stay hs (by omega))
      have HS := Lib.hid (HS2.out.trans hs)
      clear hst hs
      go_wp2_with (first
        | (refine load_box rfl (.tmp 4) rfl (w.heap.size + 1) rfl _ _ _ _ HN.out.box ?_)
        | (refine store_box rfl (.tmp 2) (.tmp 36) rfl w.heap.size rfl _ _ _ _ _ _ _ _ rfl ⟨HN.out.o1.one, HN.out.o2.one, HN.out.o3.one⟩ HB3.out ?_
           intro wE hE sE
           have HE := Lib.hid hE
           have SE := Lib.hid sE
           clear hE sE))
      have hld := run_load_box HE.out
      refine bodyPost_ret (v := .tuple #[devV u1 u2 u3 zeroR, .int .i64 0]) (by simp [results, Tryz.results6, asAddr, hld]) rfl ?_
      have hfin : Stay (fun _ => False) w wE := stay_seal (X := fun k => w.heap.size ≤ k) ((HS.out.mono (fun k y => by omega)).trans (SE.out.mono (fun k (e : k = w.heap.size) => by omega))) (fun _ hk => hk)
      have h1 := HN.out.o1.stay SE.out (fun k e (y : k = w.heap.size) => by have := (HN.out.o1.base k e).1; omega)
      have h2 := HN.out.o2.stay SE.out (fun k e (y : k = w.heap.size) => by have := (HN.out.o2.base k e).1; omega)
      have h3 := HN.out.o3.stay SE.out (fun k e (y : k = w.heap.size) => by have := (HN.out.o3.base k e).1; omega)
      refine ⟨u1, u2, u3, rfl, ⟨h1.strs (by simp; exact hn), h2.strs (by simp; exact hn), h3.marks (by simp; exact hn)⟩, ?_, hfin⟩
      rintro k (e | e | e)
      · have := (h1.base k e).1; omega
      · have := (h2.base k e).1; omega
      · have := (h3.base k e).1; omega

end Go.Proofs.YtlmaooeeklhelaaGreatDoor.Tg

/-
  The document's device (drydockref01): Replace; Write in all its ways.
-/
namespace Go.Proofs.YtlmaooeeklhelaaGreatDoor.Tg
open Go.RowKit Pk
set_option maxRecDepth 100000

theorem zero_build (w : World) (B : Nat) (h : BoxAt w B (.slice none 0 0) (.slice none 0 0) (.slice none 0 0) zeroR) : BoxAt w B (.slice none 0 0) (.slice none 0 0) (.slice none 0 0) zeroR := h

set_option maxHeartbeats 2000000 in
theorem rreplace_any (w : World) (v1 v2 v3 : Value) (r : RDev) (n : Nat) (b : Int) (h : Dv w v1 v2 v3 r) (hr : ROk n b r) (h0 : 0 < n) (hn : n ≤ 16384) :
    Calls Tryz.prog 16 #[devV v1 v2 v3 r] w fun e w' => ∃ u1 u2 u3, e = .returned (devV u1 u2 u3 (replaceR r)) ∧ Dv w' u1 u2 u3 (replaceR r) ∧ (∀ k, blk3 u1 u2 u3 k → w.heap.size ≤ k ∨ blk3 v1 v2 v3 k) ∧ Stay (fun _ => False) w w' := by
  obtain ⟨w1, hw1, HST, HSZ, HB0, HZ0⟩ := two_boxes w v1 v2 v3 r
  have H0 := Lib.hid h
  have HO := Lib.hid h.one
  have HRO := Lib.hid hr
  have HN0 := Lib.hid h0
  have k7 := HB0.out.c 7
  have k3 := HB0.out.c 3
  have k0 := HB0.out.c 0
  obtain ⟨a1, c1, rfl, _⟩ := id h.s1
  rw [hr.n1] at hw1 HB0 HO H0 k7 k3 k0 ⊢
  clear h hr h0
  by_cases hlo : r.lo = true
  · have HF := Lib.hid (show replaceR r = { newR n with wr := r.wr } by rw [← HRO.out.n1]; exact if_pos hlo)
    rw [HF.out]
    rw [hlo] at k7
    clear hlo
    unfold devV
    go_enter Tryz.func16, Tryz.ntmps16
    go_wp2_with fail
    refine (rnew_any w1 n HN0.out hn).mono ?_
    rintro e w2 ⟨u1, u2, u3, rfl, hd, hfr, s2⟩
    have HFR := Lib.hid hfr
    have HD2 := Lib.hid hd
    have HO2 := Lib.hid hd.one
    have k3' := s2.cell k3 (fun y => y)
    have HZ2 := Lib.hid (HZ0.out.stay s2 (fun y => y))
    have HS2 := Lib.hid (HST.out.trans s2)
    obtain ⟨wa, hwa⟩ : ∃ W, w2.alloc (.cells #[.slice none 0 0, .slice none 0 0, .slice none 0 0, .int .i64 0, .bool false, .int .i64 0, .bool false, .bool false] 33) = W := ⟨_, rfl⟩
    have hsa : Stay (fun _ => False) w2 wa := hwa ▸ Stay.alloc _ _
    have HBA := Lib.hid (show BoxAt wa w2.heap.size (.slice none 0 0) (.slice none 0 0) (.slice none 0 0) zeroR from hwa ▸ heap_alloc_new w2 _)
    have k3a := hsa.cell k3' (fun y => y)
    have HSA := Lib.hid hsa
    have HZB := Lib.hid (show w.heap.size + 1 < w2.heap.size ∧ w.heap.size < w2.heap.size by have := lt_of_block HZ2.out; omega)
    clear hd hfr s2 k0 k3 k7 hw1 hsa k3'
    go_wp2_with (first
      | (refine store_box rfl (.tmp 3) (.tmp 14) rfl w2.heap.size rfl u1 u2 u3 _ _ _ (newR n) zeroR rfl HO2.out HBA.out ?_
         intro w3 hb3 s3
         have k3b := s3.cell k3a (fun (y : w.heap.size = w2.heap.size) => by have := HZB.out; omega)
         have c3 := hb3.c 3
         have f3 := hb3.f 3
         have HB3 := Lib.hid (hb3.set3 r.wr)
         have HS3 := Lib.hid s3
         have HZ3 := Lib.hid (((HZ2.out.stay HSA.out (fun y => y)).stay s3 (fun (e : w.heap.size + 1 = w2.heap.size) => by have := HZB.out; omega)).stay (Stay.setCell (X := fun k => k = w2.heap.size) w3 ⟨w2.heap.size, 3, none⟩ (.int .i64 r.wr) rfl) (fun (e : w.heap.size + 1 = w2.heap.size) => by have := HZB.out; omega))
         clear hb3 s3 k3a)
      | (refine load_box rfl (.tmp 3) rfl w2.heap.size rfl u1 u2 u3 { newR n with wr := r.wr } HB3.out ?_)
      | (refine store_box rfl (.tmp 2) (.tmp 19) rfl (w.heap.size + 1) rfl _ _ _ _ _ _ _ _ rfl HO2.out HZ3.out ?_
         intro wE hE sE
         have HE := Lib.hid hE
         have SE := Lib.hid sE
         clear hE sE))
    have hld := run_load_box HE.out
    have hz := HSZ.out
    have hzb := HZB.out
    have hx := Lib.hid (show Stay (fun k => k = w2.heap.size ∨ k = w.heap.size + 1) w2 wE from (((HSA.out.mono (fun _ y => y.elim)).trans (HS3.out.mono (fun k e => .inl e))).trans (Stay.setCell _ _ _ (.inl rfl))).trans (SE.out.mono (fun k e => .inr e)))
    refine bodyPost_ret (v := devV u1 u2 u3 { newR n with wr := r.wr }) (by simp [results, Tryz.results16, asAddr, hld]) rfl ?_
    have hlt : ∀ k, blk3 u1 u2 u3 k → k < w2.heap.size := HD2.out.lt (n := n) (b := 0) ⟨by simp [newR], by simp [newR], by simp [newR], Int.le_refl _, Int.le_refl _, by simp [newR], by simp [newR]⟩ HN0.out
    have hdd := HD2.out.stayB hx.out (fun k hk e => by have := HFR.out k hk; have := hlt k hk; omega)
    refine ⟨u1, u2, u3, rfl, ⟨hdd.s1, hdd.s2, hdd.s3⟩, fun k hk => .inl (by have := HFR.out k hk; omega), ?_⟩
    exact stay_seal (X := fun k => w.heap.size ≤ k) ((HS2.out.mono (fun _ y => y.elim)).trans (hx.out.mono (fun k y => by omega))) (fun _ hk => hk)
  · have HF := Lib.hid (show replaceR r = r from if_neg hlo)
    have hl : r.lo = false := by cases hl : r.lo; rfl; exact absurd hl hlo
    rw [HF.out]
    rw [hl] at k7
    clear hl hlo
    unfold devV
    go_enter Tryz.func16, Tryz.ntmps16
    go_wp2_with (first
      | (refine load_box rfl (.tmp 1) rfl w.heap.size rfl _ _ _ _ HB0.out ?_)
      | (refine store_box rfl (.tmp 2) (.tmp 8) rfl (w.heap.size + 1) rfl _ _ _ _ _ _ _ _ rfl HO.out HZ0.out ?_
         intro wE hE sE
         have HE := Lib.hid hE
         have SE := Lib.hid sE
         clear hE sE))
    have hld := run_load_box HE.out
    refine bodyPost_ret (v := devV _ v2 v3 r) (by simp [results, Tryz.results16, asAddr, Act.put, hld]; rfl) rfl ?_
    have hfin := seal2 HST.out (SE.out.mono (fun j e => .inr e))
    exact ⟨_, _, _, rfl, H0.out.stay0 hfin, fun k hk => .inr hk, hfin⟩

theorem rwrite_any (w : World) (v1 v2 v3 : Value) (r : RDev) (n : Nat) (b : Int) (i : Int) (l : List UInt8) (h : Dv w v1 v2 v3 r) (hr : ROk n b r) (hb : b ≤ 1099511627776) (h0 : 0 < n) (hn : n ≤ 16384) (hi : I64 i) (hl : l.length ≤ 140737488355328) :
    Calls Tryz.prog 8 #[devV v1 v2 v3 r, .int .i64 i, strV l] w fun e w' => ∃ u1 u2 u3, e = .returned (.tuple #[devV u1 u2 u3 (writeR r i l).1, .int .i64 ((writeR r i l).2 : Nat)]) ∧ Dv w' u1 u2 u3 (writeR r i l).1 ∧ (∀ k, blk3 u1 u2 u3 k → w.heap.size ≤ k ∨ blk3 v1 v2 v3 k) ∧ Stay (fun _ => False) w w' := by
  by_cases he : (readR r i).2 = 0
  · by_cases hlong : 64 < l.length
    · refine (rwrite_none w v1 v2 v3 r i l h.s1 h.s2 h.s3 hi hl (.inr hlong)).mono ?_
      rintro e w' ⟨rfl, hv, hs⟩
      rw [hv]
      exact ⟨v1, v2, v3, rfl, h.stay0 hs, fun k hk => .inr hk, hs⟩
    · by_cases ha : r.ar = true ∧ r.left = 0
      · have e1 : writeR r i l = ({ r with cr := true }, 13) := by unfold writeR; rw [if_neg (by simpa using he), if_neg hlong, if_pos ha]
        rw [e1]
        refine (rwrite_crash w v1 v2 v3 r n b i l h hr h0 hn hi (by omega) he ha.1 ha.2).mono ?_
        rintro e w' ⟨u1, u2, u3, rfl, hd, hf, hs⟩
        exact ⟨u1, u2, u3, rfl, hd, fun k hk => .inl (hf k hk), hs⟩
      · have hin : ∃ k : Nat, i = (k : Int) ∧ k < n := by
          unfold readR at he
          split at he
          · cases he
          · split at he
            · cases he
            · rename_i h1 h2
              refine ⟨i.toNat, by omega, ?_⟩
              have := hr.n1
              omega
        obtain ⟨k, rfl, hk⟩ := hin
        have e1 : writeR r (k : Int) l = (wroteR r k l, 0) := by unfold writeR; rw [if_neg (by simpa using he), if_neg hlong, if_neg ha]; rfl
        rw [e1]
        refine (rwrite_some w v1 v2 v3 r n b k l h hr hb hn hk (by omega) he (by by_cases q : r.ar = true; exact .inr (fun e => ha ⟨q, e⟩); exact .inl (by simpa using q))).mono ?_
        rintro e w' ⟨u1, u2, u3, rfl, hd, hf, hs⟩
        exact ⟨u1, u2, u3, rfl, hd, fun k hk => .inl (hf k hk), hs⟩
  · refine (rwrite_none w v1 v2 v3 r i l h.s1 h.s2 h.s3 hi hl (.inl he)).mono ?_
    rintro e w' ⟨rfl, hv, hs⟩
    rw [hv]
    exact ⟨v1, v2, v3, rfl, h.stay0 hs, fun k hk => .inr hk, hs⟩

end Go.Proofs.YtlmaooeeklhelaaGreatDoor.Tg

