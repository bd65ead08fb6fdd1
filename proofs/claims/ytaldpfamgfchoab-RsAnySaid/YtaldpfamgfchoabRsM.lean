/-
  rs: bytes and rows of bytes in memory, told by functions; what is read, whatever of X turns.
-/
import Derived.Test.YtaldpfamgfchoabOwn
import Derived.Test.YtaldpfamgfchoabRsE
import Derived.Test.YtaldpfamgfchoabRsQ
namespace Go.Proofs.Ytaldpfamgfchoab.Rs
open Go.ChangeShapes Go.WideShapes Go.ChangeAt Go.RowKit Go.Deep Gf
set_option maxRecDepth 100000

/-- n bytes told by f. -/
def lf (n : Nat) (f : Nat → UInt8) : List UInt8 := (List.range n).map f
def putB (f : Nat → UInt8) (k : Nat) (v : UInt8) : Nat → UInt8 := fun i => if i = k then v else f i
theorem length_lf (n : Nat) (f : Nat → UInt8) : (lf n f).length = n := by simp [lf]
theorem lf_get {n i : Nat} (f : Nat → UInt8) (h : i < n) : (lf n f)[i]? = some (f i) := by simp [lf, h]
theorem lf_congr {n : Nat} {f g : Nat → UInt8} (h : ∀ i, i < n → f i = g i) : lf n f = lf n g := List.map_congr_left (fun i hi => h i (List.mem_range.1 hi))
theorem lf_of (l : List UInt8) : lf l.length (fun i => l.getD i 0) = l := by
  apply List.ext_getElem?
  intro i
  by_cases h : i < l.length
  · rw [lf_get _ h, List.getD_eq_getElem?_getD, List.getElem?_eq_getElem h]; rfl
  · rw [List.getElem?_eq_none (by rw [length_lf]; omega), List.getElem?_eq_none (by omega)]
theorem lf_inj {n m : Nat} {f g : Nat → UInt8} (h : lf n f = lf m g) : n = m ∧ ∀ i, i < n → f i = g i := by
  have h1 := congrArg List.length h
  rw [length_lf, length_lf] at h1
  subst h1
  refine ⟨rfl, fun i hi => ?_⟩
  have h2 := congrArg (fun l => l[i]?) h
  simpa only [lf_get _ hi, Option.some.injEq] using h2
theorem cells_lf {n i : Nat} (f : Nat → UInt8) (h : i < n) : (cellsB (lf n f))[i]? = some (byteV (f i)) := by
  unfold cellsB
  rw [List.getElem?_map, lf_get f h]
  rfl
theorem lf_put {n k : Nat} (f : Nat → UInt8) (h : k < n) (v : UInt8) : (cellsB (lf n f)).set k (byteV v) = cellsB (lf n (putB f k v)) := by
  apply List.ext_getElem?
  intro j
  rw [List.getElem?_set]
  by_cases e : k = j
  · subst e
    rw [if_pos rfl, if_pos (by rw [length_cellsB, length_lf]; exact h), cells_lf _ h]
    simp [putB]
  · rw [if_neg e]
    by_cases hj : j < n
    · rw [cells_lf _ hj, cells_lf _ hj]
      unfold putB
      rw [if_neg (fun x => e x.symm)]
    · rw [List.getElem?_eq_none (by rw [length_cellsB, length_lf]; omega), List.getElem?_eq_none (by rw [length_cellsB, length_lf]; omega)]

/-- A block of n bytes. -/
def FB (w : World) (g n : Nat) (f : Nat → UInt8) : Prop := w.heap[g]? = some (.cells (cellsB (lf n f)).toArray 5 (0, 0))
section
variable {w w' : World} {g n : Nat} {f : Nat → UInt8} {X : Nat → Prop}
theorem FB.lt (h : FB w g n f) : g < w.heap.size := (Array.getElem?_eq_some_iff.1 h).1
theorem FB.fr (h : FB w g n f) (i : Nat) : w.frozen? ⟨g, i, none⟩ = false := frozen_of_row w g i _ _ h
theorem FB.c (h : FB w g n f) {i : Nat} (hi : i < n) : w.cell? ⟨g, i, none⟩ = some (.int .u8 ((f i).toNat : Int)) := by
  rw [cell_of_row w g i _ _ _ h]
  simp only [List.getElem?_toArray]
  exact cells_lf f hi
theorem FB.stay (h : FB w g n f) (hs : Stay X w w') (hx : ¬ X g) : FB w' g n f := (hs.block g h.lt hx).trans h
theorem FB.congr {f' : Nat → UInt8} (h : FB w g n f) (e : ∀ i, i < n → f i = f' i) : FB w g n f' := by
  unfold FB at *
  rw [← lf_congr e]
  exact h
theorem FB.set (h : FB w g n f) {k : Nat} (hk : k < n) (v : UInt8) : FB (w.setCell ⟨g, k, none⟩ (.int .u8 (v.toNat : Int))) g n (putB f k v) := by
  unfold FB
  rw [heap_setCell_same w g k _ _ _ h]
  congr 2
  rw [← lf_put f hk v]
  simp only [List.setIfInBounds_toArray]
  rfl
theorem FB.slc (h : FB w g n f) {o c : Nat} (m : Nat) (hom : o + m ≤ n) (hmc : m ≤ c) (hc : c ≤ 9223372036854775807) : Slc w (.slice (some ⟨g, o, none⟩) m c) (lf m (fun i => f (o + i))) := by
  refine ⟨_, c, by rw [length_lf], fun _ => ⟨_, rfl, fun j v hv => ?_⟩, (fun h => by cases h), by rw [length_lf]; exact hmc, hc⟩
  have hj : j < m := by
    have := (List.getElem?_eq_some_iff.1 hv).1
    rwa [length_cellsB, length_lf] at this
  rw [cells_lf _ hj] at hv
  rw [add_at, h.c (by omega)]
  exact hv
theorem FB.new (w : World) (n : Nat) : FB (w.alloc (.cells (cellsB (lf n (fun _ => 0))).toArray 5)) w.heap.size n (fun _ => 0) := heap_alloc_new w _
end

/-- A block of n slices. -/
def cellsV (n : Nat) (v : Nat → Value) : List Value := (List.range n).map v
def putV (v : Nat → Value) (k : Nat) (x : Value) : Nat → Value := fun i => if i = k then x else v i
theorem length_cellsV (n : Nat) (v : Nat → Value) : (cellsV n v).length = n := by simp [cellsV]
theorem cellsV_get {n i : Nat} (v : Nat → Value) (h : i < n) : (cellsV n v)[i]? = some (v i) := by simp [cellsV, h]
theorem cellsV_congr {n : Nat} {v u : Nat → Value} (h : ∀ i, i < n → v i = u i) : cellsV n v = cellsV n u := List.map_congr_left (fun i hi => h i (List.mem_range.1 hi))
theorem cellsV_put {n k : Nat} (v : Nat → Value) (h : k < n) (x : Value) : (cellsV n v).set k x = cellsV n (putV v k x) := by
  apply List.ext_getElem?
  intro j
  rw [List.getElem?_set]
  by_cases e : k = j
  · subst e
    rw [if_pos rfl, if_pos (by rw [length_cellsV]; exact h), cellsV_get _ h]
    simp [putV]
  · rw [if_neg e]
    by_cases hj : j < n
    · rw [cellsV_get _ hj, cellsV_get _ hj]
      unfold putV
      rw [if_neg (fun x => e x.symm)]
    · rw [List.getElem?_eq_none (by rw [length_cellsV]; omega), List.getElem?_eq_none (by rw [length_cellsV]; omega)]
def LB (w : World) (g n : Nat) (v : Nat → Value) : Prop := w.heap[g]? = some (.cells (cellsV n v).toArray 24 (0, 0))
section
variable {w w' : World} {g n : Nat} {v : Nat → Value} {X : Nat → Prop}
theorem LB.lt (h : LB w g n v) : g < w.heap.size := (Array.getElem?_eq_some_iff.1 h).1
theorem LB.fr (h : LB w g n v) (i : Nat) : w.frozen? ⟨g, i, none⟩ = false := frozen_of_row w g i _ _ h
theorem LB.c (h : LB w g n v) {i : Nat} (hi : i < n) : w.cell? ⟨g, i, none⟩ = some (v i) := by
  rw [cell_of_row w g i _ _ _ h]
  simp only [List.getElem?_toArray]
  exact cellsV_get v hi
theorem LB.stay (h : LB w g n v) (hs : Stay X w w') (hx : ¬ X g) : LB w' g n v := (hs.block g h.lt hx).trans h
theorem LB.congr {v' : Nat → Value} (h : LB w g n v) (e : ∀ i, i < n → v i = v' i) : LB w g n v' := by
  unfold LB at *
  rw [← cellsV_congr e]
  exact h
theorem LB.set (h : LB w g n v) {k : Nat} (hk : k < n) (x : Value) : LB (w.setCell ⟨g, k, none⟩ x) g n (putV v k x) := by
  unfold LB
  rw [heap_setCell_same w g k _ _ _ h]
  congr 2
  rw [← cellsV_put v hk x]
  simp only [List.setIfInBounds_toArray]
theorem LB.new (w : World) (n : Nat) (v : Nat → Value) : LB (w.alloc (.cells (cellsV n v).toArray 24)) w.heap.size n v := heap_alloc_new w _
end

/-- A cell that stays, whatever of X turns. -/
def SCell (X : Nat → Prop) (w : World) (a : Addr) (v : Value) : Prop := ∀ w', Stay X w w' → w'.cell? a = some v
/-- Bytes that stay so. -/
def SSlc (X : Nat → Prop) (w : World) (v : Value) (l : List UInt8) : Prop := ∀ w', Stay X w w' → Slc w' v l
section
variable {X Y : Nat → Prop} {w w' : World} {a : Addr} {v : Value} {l : List UInt8}
theorem SCell.stay (h : SCell X w a v) (hs : Stay X w w') : SCell X w' a v := fun u hu => h u (hs.trans hu)
theorem SSlc.stay (h : SSlc X w v l) (hs : Stay X w w') : SSlc X w' v l := fun u hu => h u (hs.trans hu)
theorem SCell.mono (h : SCell X w a v) (hx : ∀ k, Y k → X k) : SCell Y w a v := fun u hu => h u (hu.mono hx)
theorem SSlc.mono (h : SSlc X w v l) (hx : ∀ k, Y k → X k) : SSlc Y w v l := fun u hu => h u (hu.mono hx)
theorem SCell.now (h : SCell X w a v) : w.cell? a = some v := h w (Stay.refl _ _)
theorem SSlc.now (h : SSlc X w v l) : Slc w v l := h w (Stay.refl _ _)
theorem SCell.of (h : w.cell? a = some v) (hx : ¬ X a.block) : SCell X w a v := fun _ hs => hs.cell h hx
theorem SSlc.of (h : Slc w v l) (hx : 0 < l.length → ∀ k, v.ownBlock = some k → ¬ X k) : SSlc X w v l := fun w' hs => by
  obtain ⟨a0, c, rfl, hr, hn⟩ := h
  exact ⟨a0, c, rfl, hr.stay hs (fun h0 ad e => hx h0 ad.block (by subst e; rfl)), hn⟩
/-- What was there at first stays, whatever turns behind it. -/
theorem SSlc.above (h : Slc w v l) : SSlc (fun k => w.heap.size ≤ k) w v l := fun _ hs => h.stay0 (stay_seal hs (fun _ h => h))
theorem SCell.above (h : w.cell? a = some v) : SCell (fun k => w.heap.size ≤ k) w a v := fun _ hs => (stay_seal hs (fun _ h => h)).cell h (fun x => x)
theorem SSlc.form (h : SSlc X w v l) : ∃ a0 c, v = .slice a0 l.length c ∧ l.length ≤ c ∧ c ≤ 9223372036854775807 := by
  obtain ⟨a0, c, e, _, _, h1, h2⟩ := h.now
  exact ⟨a0, c, e, h1, h2⟩
end
/-- A byte that is read. -/
theorem Slc.at {w : World} {a0 : Option Addr} {n c i : Nat} {f : Nat → UInt8} (h : Slc w (.slice a0 n c) (lf n f)) (hi : i < n) : ∃ ad, a0 = some ad ∧ w.cell? (ad.add i) = some (.int .u8 ((f i).toNat : Int)) := by
  obtain ⟨a1, c1, e, hr, _⟩ := h
  rw [length_lf] at e
  cases e
  obtain ⟨ad, rfl, hc⟩ := hr (by rw [length_lf]; omega)
  exact ⟨ad, rfl, hc i _ (cells_lf f hi)⟩

/-- Rows of bytes: n of them, row k has L k bytes, told by M k. -/
def SM (X : Nat → Prop) (w : World) (x : Value) (n : Nat) (L : Nat → Nat) (M : Nat → Nat → UInt8) : Prop :=
  ∃ a0 c, x = .slice a0 n c ∧ n ≤ c ∧ c ≤ 9223372036854775807 ∧ (0 < n → ∃ b o, a0 = some ⟨b, o, none⟩ ∧ ∀ k, k < n → ∃ v, SCell X w ⟨b, o + k, none⟩ v ∧ SSlc X w v (lf (L k) (M k)))
section
variable {X Y : Nat → Prop} {w w' : World} {x : Value} {n : Nat} {L : Nat → Nat} {M : Nat → Nat → UInt8}
theorem SM.stay (h : SM X w x n L M) (hs : Stay X w w') : SM X w' x n L M := by
  obtain ⟨a0, c, e, h1, h2, h3⟩ := h
  refine ⟨a0, c, e, h1, h2, fun h0 => ?_⟩
  obtain ⟨b, o, e2, h4⟩ := h3 h0
  refine ⟨b, o, e2, fun k hk => ?_⟩
  obtain ⟨v, h5, h6⟩ := h4 k hk
  exact ⟨v, h5.stay hs, h6.stay hs⟩
theorem SM.mono (h : SM X w x n L M) (hx : ∀ k, Y k → X k) : SM Y w x n L M := by
  obtain ⟨a0, c, e, h1, h2, h3⟩ := h
  refine ⟨a0, c, e, h1, h2, fun h0 => ?_⟩
  obtain ⟨b, o, e2, h4⟩ := h3 h0
  refine ⟨b, o, e2, fun k hk => ?_⟩
  obtain ⟨v, h5, h6⟩ := h4 k hk
  exact ⟨v, h5.mono hx, h6.mono hx⟩
theorem SM.congr {L' : Nat → Nat} {M' : Nat → Nat → UInt8} (h : SM X w x n L M) (hL : ∀ k, k < n → L k = L' k) (hM : ∀ k, k < n → ∀ i, i < L k → M k i = M' k i) : SM X w x n L' M' := by
  obtain ⟨a0, c, e, h1, h2, h3⟩ := h
  refine ⟨a0, c, e, h1, h2, fun h0 => ?_⟩
  obtain ⟨b, o, e2, h4⟩ := h3 h0
  refine ⟨b, o, e2, fun k hk => ?_⟩
  obtain ⟨v, h5, h6⟩ := h4 k hk
  exact ⟨v, h5, by rw [← hL k hk, ← lf_congr (hM k hk)]; exact h6⟩
theorem SM.form (h : SM X w x n L M) : ∃ a0 c, x = .slice a0 n c ∧ n ≤ c ∧ c ≤ 9223372036854775807 := by
  obtain ⟨a0, c, e, h1, h2, _⟩ := h
  exact ⟨a0, c, e, h1, h2⟩
/-- One row. -/
theorem SM.row {a0 : Option Addr} {m c : Nat} (h : SM X w (.slice a0 m c) n L M) {k : Nat} (hk : k < n) :
    ∃ b o ak ck, a0 = some ⟨b, o, none⟩ ∧ SCell X w ⟨b, o + k, none⟩ (.slice ak (L k) ck) ∧ SSlc X w (.slice ak (L k) ck) (lf (L k) (M k)) ∧ L k ≤ ck ∧ ck ≤ 9223372036854775807 := by
  obtain ⟨a1, c1, e, h1, h2, h3⟩ := h
  cases e
  obtain ⟨b, o, rfl, h4⟩ := h3 (by omega)
  obtain ⟨v, h5, h6⟩ := h4 k hk
  obtain ⟨ak, ck, rfl, h7, h8⟩ := h6.form
  rw [length_lf] at h5 h6 h7
  exact ⟨b, o, ak, ck, rfl, h5, h6, h7, h8⟩
/-- The first m rows. -/
theorem SM.first {a0 : Option Addr} {c m : Nat} (h : SM X w (.slice a0 n c) n L M) (hm : m ≤ n) : SM X w (.slice a0 m c) m L M := by
  obtain ⟨a1, c1, e, h1, h2, h3⟩ := h
  cases e
  refine ⟨a0, c, rfl, by omega, h2, fun h0 => ?_⟩
  obtain ⟨b, o, e2, h4⟩ := h3 (by omega)
  exact ⟨b, o, e2, fun k hk => h4 k (by omega)⟩
theorem SM.none (X : Nat → Prop) (w : World) (L : Nat → Nat) (M : Nat → Nat → UInt8) : SM X w (.slice none 0 0) 0 L M := ⟨_, _, rfl, Nat.le_refl _, by decide, fun h => by omega⟩
end

/-- The code: its two numbers and its field. -/
structure Cd (w : World) (c g k m : Nat) : Prop where
  blk : w.heap[c]? = some (.cells #[.int .i64 (k : Int), .int .i64 (m : Int), .pointer (some ⟨g, 0, none⟩)] 46 (0, 0))
  f : Fld w g
  ne : c ≠ g
  k1 : 1 ≤ k
  km : k + m ≤ 32
section
variable {w w' : World} {c g k m : Nat}
theorem Cd.lt (h : Cd w c g k m) : c < w.heap.size := (Array.getElem?_eq_some_iff.1 h.blk).1
theorem Cd.c0 (h : Cd w c g k m) : w.cell? ⟨c, 0, none⟩ = some (.int .i64 (k : Int)) := by rw [cell_of_row w c 0 _ _ _ h.blk]; rfl
theorem Cd.c1 (h : Cd w c g k m) : w.cell? ⟨c, 1, none⟩ = some (.int .i64 (m : Int)) := by rw [cell_of_row w c 1 _ _ _ h.blk]; rfl
theorem Cd.c2 (h : Cd w c g k m) : w.cell? ⟨c, 2, none⟩ = some (.pointer (some ⟨g, 0, none⟩)) := by rw [cell_of_row w c 2 _ _ _ h.blk]; rfl
theorem Cd.stay (h : Cd w c g k m) (hs : Stay (· = g) w w') (hf : Fld w' g) : Cd w' c g k m := ⟨(hs.block c h.lt (fun e => h.ne e)).trans h.blk, hf, h.ne, h.k1, h.km⟩
theorem Cd.stay0 (h : Cd w c g k m) (hs : Stay (fun _ => False) w w') : Cd w' c g k m := ⟨(hs.block c h.lt (fun x => x)).trans h.blk, h.f.stay hs (fun x => x), h.ne, h.k1, h.km⟩
end
end Go.Proofs.Ytaldpfamgfchoab.Rs
