/-
  keccak: bytes in arrays; what comes out.
-/
import Derived.Test.YtljhfccaoncjeaaDoorKeC
import Derived.Test.YtljhfccaoncjeaaDoorOwn
namespace Go.Proofs.YtljhfccaoncjeaaDoor.Ke
open Go.RowKit
set_option maxRecDepth 100000

/-- The first k of n bytes told by p, noughts behind. -/
def fill (p : Nat → UInt8) (k n : Nat) : List UInt8 := (List.range n).map fun i => if i < k then p i else 0
theorem length_fill (p : Nat → UInt8) (k n : Nat) : (fill p k n).length = n := by simp [fill]
theorem fill_set (p : Nat → UInt8) {k n : Nat} (h : k < n) : (cellsB (fill p k n)).set k (byteV (p k)) = cellsB (fill p (k + 1) n) := by
  apply List.ext_getElem?
  intro j
  rw [List.getElem?_set]
  by_cases e : k = j
  · subst e
    simp [cellsB, fill, h]
  · rw [if_neg e]
    by_cases hj : j < n
    · simp only [cellsB, fill, List.getElem?_map, List.getElem?_range hj, Option.map_some]
      by_cases h1 : j < k
      · rw [if_pos h1, if_pos (by omega)]
      · rw [if_neg h1, if_neg (by omega)]
    · rw [List.getElem?_eq_none (by rw [length_cellsB, length_fill]; omega), List.getElem?_eq_none (by rw [length_cellsB, length_fill]; omega)]
theorem fill_none (p : Nat → UInt8) (n : Nat) : fill p 0 n = List.replicate n 0 := by
  unfold fill
  apply List.ext_getElem?
  intro j
  by_cases hj : j < n
  · simp [hj]
  · rw [List.getElem?_eq_none (by simp; omega), List.getElem?_eq_none (by simp; omega)]
theorem fill_all (p : Nat → UInt8) (n : Nat) : fill p n n = (List.range n).map p := by
  unfold fill
  exact List.map_congr_left (fun i hi => by rw [if_pos (List.mem_range.1 hi)])

/-- A block of bytes. -/
def BAt (w : World) (g : Nat) (ty : TypeId) (l : List UInt8) : Prop := w.heap[g]? = some (.cells (cellsB l).toArray ty (0, 0))
section
variable {w : World} {g : Nat} {ty : TypeId} {l : List UInt8}
theorem BAt.lt (h : BAt w g ty l) : g < w.heap.size := (Array.getElem?_eq_some_iff.1 h).1
theorem BAt.fr (h : BAt w g ty l) (i : Nat) : w.frozen? ⟨g, i, none⟩ = false := frozen_of_row w g i _ _ h
theorem BAt.c (h : BAt w g ty l) (i : Nat) : w.cell? ⟨g, i, none⟩ = (cellsB l)[i]? := by
  rw [cell_of_row w g i _ _ _ h]
  simp only [List.getElem?_toArray]
theorem BAt.stay {X : Nat → Prop} {w' : World} (h : BAt w g ty l) (hs : Stay X w w') (hx : ¬ X g) : BAt w' g ty l := (hs.block g h.lt hx).trans h
theorem BAt.fill {p : Nat → UInt8} {k n : Nat} (h : BAt w g ty (fill p k n)) (hk : k < n) (x : Int) (hx : x = ((p k).toNat : Int)) : BAt (w.setCell ⟨g, k, none⟩ (.int .u8 x)) g ty (Ke.fill p (k + 1) n) := by
  subst hx
  unfold BAt
  rw [heap_setCell_same w g k _ _ _ h]
  congr 2
  rw [← fill_set p hk]
  simp only [List.setIfInBounds_toArray]
  rfl
theorem BAt.new (w : World) (ty : TypeId) (l : List UInt8) : BAt (w.alloc (.cells (cellsB l).toArray ty)) w.heap.size ty l := heap_alloc_new w _
end

/-- An array of bytes by value. -/
def arrV (l : List UInt8) : Value := .agg (cellsB l).toArray
def z136 : List UInt8 := List.replicate 136 0
def z32 : List UInt8 := List.replicate 32 0
theorem zero_136 (w : World) : (zeroValue 78).run Tryd.prog w = .ok (arrV z136) w := by kernel_rfl
theorem zero_32 (w : World) : (zeroValue 25).run Tryd.prog w = .ok (arrV z32) w := by kernel_rfl
theorem info_136 : (Tryd.prog.info? 78).map (·.size) = some 136 := by kernel_rfl
theorem info_32 : (Tryd.prog.info? 25).map (·.size) = some 32 := by kernel_rfl

/-- A type of arrays of n bytes. -/
structure IsArr (ty : TypeId) (n : Nat) : Prop where
  zero : ∀ w, (zeroValue ty).run Tryd.prog w = .ok (arrV (List.replicate n 0)) w
  info : (Tryd.prog.info? ty).map (·.size) = some n
  under : ∃ d, Tryd.prog.underlying ty = some d ∧ (match d with | .struct _ | .array _ _ => true | _ => false) = true
theorem arr_136 : IsArr 78 136 := ⟨zero_136, info_136, _, Tryd.underlying78, rfl⟩
theorem arr_32 : IsArr 25 32 := ⟨zero_32, info_32, _, Tryd.underlying25, rfl⟩

section
variable {ty : TypeId} {n : Nat}
theorem IsArr.info_of (A : IsArr ty n) {l : List UInt8} (hl : l.length = n) : (Tryd.prog.info? ty).map (·.size) = some (cellsB l).toArray.size := by rw [List.size_toArray, length_cellsB, hl]; exact A.info
theorem IsArr.run_load (A : IsArr ty n) {w : World} {g : Nat} {l : List UInt8} (hl : l.length = n) (hg : BAt w g ty l) : (loadVar ty ⟨g, 0, none⟩).run Tryd.prog w = .ok (arrV l) w := by
  obtain ⟨d, hu, hd⟩ := A.under
  exact run_loadVar_mid (P := Tryd.prog) w g 0 ty ty (cellsB l).toArray (cellsB l).toArray (0, 0) d hg hu (by cases d <;> first | rfl | cases hd) (A.info_of hl) (fun j _ => by rw [Nat.zero_add])
theorem IsArr.load (A : IsArr ty n) {ops : Array Oper} {rest : List Oper} {o : Oper} {a : Act} {w : World} {Q : Exit → Act → World → Prop} (hgd : o.guard = none) (x : Operand) (ho : o.op = .load ty x)
    (g : Nat) (hx : a.eval x = .pointer (some ⟨g, 0, none⟩)) (l : List UInt8) (hl : l.length = n) (hg : BAt w g ty l)
    (hn : wpList Tryd.prog ops Q rest (a.put o.dst (arrV l)) w) : wpList Tryd.prog ops Q (o :: rest) a w := by
  obtain ⟨d, hu, hd⟩ := A.under
  exact wpList_load_mid hgd ty x ho g 0 hx ty (cellsB l).toArray (cellsB l).toArray (0, 0) d hg hu (by cases d <;> first | rfl | cases hd) (A.info_of hl) (fun j _ => by rw [Nat.zero_add]) hn
theorem splice_full (h0 h : List UInt8) (hl : h.length = h0.length) : splice (cellsB h0) 0 (cellsB h) = cellsB h := by
  unfold splice
  rw [List.take_zero, List.nil_append, Nat.zero_add, length_cellsB, hl, List.drop_eq_nil_of_le (by rw [length_cellsB]; exact Nat.le_refl _), List.append_nil]
theorem IsArr.store (A : IsArr ty n) {ops : Array Oper} {rest : List Oper} {o : Oper} {a : Act} {w : World} {Q : Exit → Act → World → Prop} (hgd : o.guard = none) (x y : Operand) (ho : o.op = .store ty x y)
    (g : Nat) (hx : a.eval x = .pointer (some ⟨g, 0, none⟩)) (h0 h : List UInt8) (hy : a.eval y = arrV h) (hl0 : h0.length = n) (hl : h.length = n) (hg : BAt w g ty h0)
    (hn : ∀ w', BAt w' g ty h → Stay (· = g) w w' → wpList Tryd.prog ops Q rest (a.put o.dst undef) w') : wpList Tryd.prog ops Q (o :: rest) a w :=
  wpList_store_mid hgd ty x y ho g 0 hx ty (cellsB h0) (cellsB h) hy hg (by rw [length_cellsB, hl]; exact A.info) (by rw [length_cellsB, length_cellsB, hl, hl0]; omega) (oneCell_cellsB _)
    (fun w' h1 h2 => hn w' (by rw [splice_full h0 h (by omega)] at h1; exact h1) h2)
theorem IsArr.alloc (A : IsArr ty n) {ops : Array Oper} {rest : List Oper} {o : Oper} {a : Act} {w : World} {Q : Exit → Act → World → Prop} (hgd : o.guard = none) (ho : o.op = .alloc ty)
    (hn : wpList Tryd.prog ops Q rest (a.put o.dst (.pointer (some ⟨w.heap.size, 0, none⟩))) (w.alloc (.cells (cellsB (List.replicate n 0)).toArray ty))) : wpList Tryd.prog ops Q (o :: rest) a w :=
  wpList_alloc_at hgd ty ho _ (A.zero _) hn
end

/-- What comes out at once. -/
def blockK (f : St) : List UInt8 := (List.range 136).map (byteK f)
theorem length_blockK (f : St) : (blockK f).length = 136 := by simp [blockK]

theorem byte_nv (f : St) (p : Nat) : IntKind.u8.wrap ((nv (f (p / 8)) : Int) / 2 ^ (8 * (p % 8))) = ((byteK f p).toNat : Int) := by
  rw [IntKind.wrap_u8]
  unfold byteK
  rw [UInt8.toNat_ofNat']
  have e : (nv (f (p / 8)) : Int) / 2 ^ (8 * (p % 8)) = ((nv (f (p / 8)) / 2 ^ (8 * (p % 8)) : Nat) : Int) := by rw [Int.natCast_ediv, Int.natCast_pow]; rfl
  rw [e]
  omega

set_option maxHeartbeats 1000000 in
theorem out_any (w : World) (g : Nat) (f : St) (t : Nat) (h : StAt w g f t) :
    Calls Tryd.prog 39 #[.pointer (some ⟨g, 0, none⟩)] w fun e w' => e = .returned (arrV (blockK f)) ∧ Stay (fun _ => False) w w' := by
  have H := Lib.hid h
  have p0 := BAt.new w 78 (List.replicate 136 0)
  have p1 := BAt.new (w.alloc (.cells (cellsB (List.replicate 136 0)).toArray 78)) 78 (List.replicate 136 0)
  rw [show (w.alloc (.cells (cellsB (List.replicate 136 0)).toArray 78)).heap.size = w.heap.size + 1 by simp] at p1
  have P0 := Lib.hid (p0.stay (Stay.alloc (X := fun _ => False) _ (.cells (cellsB (List.replicate 136 0)).toArray 78)) (fun x => x))
  have P1 := Lib.hid p1
  clear h p0 p1
  go_enter Tryd.func39, Tryd.ntmps39
  go_wp2_with (with_reducible refine arr_136.alloc rfl rfl ?_)
  go_loopw [5] (fun i wr => ∃ k : Nat, k ≤ 136 ∧ i = .int .i64 (k : Int) ∧ BAt wr (w.heap.size + 1) 78 (fill (byteK f) k 136) ∧ BAt wr w.heap.size 78 (List.replicate 136 0) ∧ Stay (fun _ => False) w wr) (fun i _ => 136 - (intOf i).toNat)
  case atStart => exact ⟨0, by omega, rfl, by rw [fill_none]; exact P1.out, P0.out, (Stay.alloc _ _).trans (Stay.alloc _ _)⟩
  case round =>
    obtain ⟨p, hp, rfl, hb, h0, hst⟩ := hrel
    by_cases hlt : p < 136
    · obtain ⟨q, hq⟩ : ∃ q, q = p / 8 := ⟨_, rfl⟩
      obtain ⟨r, hr⟩ : ∃ r, r = p % 8 := ⟨_, rfl⟩
      obtain ⟨s, hs⟩ : ∃ s, s = 8 * r := ⟨_, rfl⟩
      have hc := (H.out.stay hst (fun x => x)).c (i := q) (by omega)
      have e1 : (p : Int) / 8 = (q : Int) := by omega
      have e3 : (p : Int) % 8 = (r : Int) := by omega
      have e4 : 8 * (r : Int) = (s : Int) := by omega
      have s1 : (s : Int) < 64 := by omega
      have q1 : (q : Int) < 25 := by omega
      have HQ := Lib.hid hq
      have HRR := Lib.hid hr
      have HS := Lib.hid hs
      have HB := Lib.hid hb
      have H0 := Lib.hid h0
      have hcb := hb.c p
      have hfb := hb.fr p
      rw [show (cellsB (fill (byteK f) p 136))[p]? = some (.int .u8 0) by simp [cellsB, fill, hlt, byteV]] at hcb
      clear hq hr hs hb h0
      go_wp2
      have hbl := HB.out.lt
      refine ⟨⟨p + 1, by omega, by go_num, HB.out.fill hlt _ ?_, H0.out.stay (Stay.setCell (X := fun k => k = w.heap.size + 1) _ _ _ rfl) (fun e => by omega), stay_seal (X := fun k => w.heap.size ≤ k) ((hst.mono (fun _ x => x.elim)).trans (Stay.setCell _ _ _ (by simp))) (fun _ hk => hk)⟩, by simp [intOf]; omega⟩
      rw [← byte_nv, IntKind.wrap_u8, HS.out, HRR.out, HQ.out]
    · obtain rfl : p = 136 := by omega
      rw [fill_all] at hb
      have HB := Lib.hid (show BAt wr (w.heap.size + 1) 78 (blockK f) from hb)
      have H0 := Lib.hid h0
      have HST := Lib.hid hst
      clear hb h0 hst
      go_wp2_with (first
        | (refine arr_136.load rfl (.tmp 3) rfl (w.heap.size + 1) rfl (blockK f) (length_blockK f) HB.out ?_)
        | (refine arr_136.store rfl (.tmp 2) (.tmp 22) rfl w.heap.size rfl (List.replicate 136 0) (blockK f) rfl (by simp) (length_blockK f) H0.out ?_; intro w3 hp3 hs3; have H3 := Lib.hid hp3; clear hp3))
      have hld := arr_136.run_load (length_blockK f) H3.out
      have hsz := HST.out.size
      have hb := H0.out.lt
      refine bodyPost_ret (v := arrV (blockK f)) (by simp [results, Tryd.results39, asAddr, Act.put, hld]) rfl ⟨rfl, ?_⟩
      exact stay_seal (X := fun k => w.heap.size ≤ k) ((HST.out.mono (fun _ x => x.elim)).trans (hs3.mono (fun k hk => by omega))) (fun _ hk => hk)
end Go.Proofs.YtljhfccaoncjeaaDoor.Ke
