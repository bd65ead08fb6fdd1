/-
  gf: a field in memory; New; the tables filled.
-/
import Derived.Test.YtaldpfamgfchoabRow
import Derived.Test.YtaldpfamgfchoabGfP
import Derived.Test.YtaldpfamgfchoabChecked
import Derived.Lib.Hide
namespace Go.Proofs.Ytaldpfamgfchoab.Gf
open Go.RowKit
set_option maxRecDepth 100000

/-- The cells of a field: done, the lock's two words, the powers, the logarithms. -/
def fieldC (d s : Nat) (P L : Nat → Nat) : List Value :=
  [.int .u32 (d : Int), .int .i32 (s : Int), .int .u32 0] ++ ((List.range 255).map (fun i => Value.int .u8 (P i : Int)) ++ (List.range 256).map (fun a => Value.int .u8 (L a : Int)))
/-- A field in memory. -/
def FAt (w : World) (g d s : Nat) (P L : Nat → Nat) : Prop := w.heap[g]? = some (.cells (fieldC d s P L).toArray 72 (0, 0))
def putN (f : Nat → Nat) (k v : Nat) : Nat → Nat := fun i => if i = k then v else f i

theorem map_get {n i : Nat} (f : Nat → Value) (h : i < n) : ((List.range n).map f)[i]? = some (f i) := by simp [h]
theorem map_set {n k : Nat} (f : Nat → Nat) (v : Nat) (h : k < n) : ((List.range n).map (fun i => Value.int .u8 (f i : Int))).set k (.int .u8 (v : Int)) = (List.range n).map (fun i => Value.int .u8 (putN f k v i : Int)) := by
  apply List.ext_getElem?
  intro j
  rw [List.getElem?_set]
  by_cases e : k = j
  · subst e
    simp [putN, h]
  · rw [if_neg e]
    by_cases hj : j < n
    · rw [map_get _ hj, map_get _ hj]
      unfold putN
      rw [if_neg (fun x => e x.symm)]
    · rw [List.getElem?_eq_none (by simp; omega), List.getElem?_eq_none (by simp; omega)]
theorem len_map (n : Nat) (f : Nat → Value) : ((List.range n).map f).length = n := by simp

section
variable {w : World} {g d s : Nat} {P L : Nat → Nat}
theorem FAt.lt (h : FAt w g d s P L) : g < w.heap.size := (Array.getElem?_eq_some_iff.1 h).1
theorem FAt.fr (h : FAt w g d s P L) (i : Nat) : w.frozen? ⟨g, i, none⟩ = false := frozen_of_row w g i _ _ h
theorem FAt.c (h : FAt w g d s P L) (i : Nat) : w.cell? ⟨g, i, none⟩ = (fieldC d s P L)[i]? := by
  rw [cell_of_row w g i _ _ _ h]
  simp only [List.getElem?_toArray]
theorem FAt.cd (h : FAt w g d s P L) : w.cell? ⟨g, 0, none⟩ = some (.int .u32 (d : Int)) := by rw [h.c]; rfl
theorem FAt.cs (h : FAt w g d s P L) : w.cell? ⟨g, 1, none⟩ = some (.int .i32 (s : Int)) := by rw [h.c]; rfl
theorem FAt.cP (h : FAt w g d s P L) {i : Nat} (hi : i < 255) : w.cell? ⟨g, 3 + i, none⟩ = some (.int .u8 (P i : Int)) := by
  rw [h.c]
  unfold fieldC
  rw [List.getElem?_append_right (by simp), List.getElem?_append_left (by rw [len_map]; simp; omega)]
  rw [show 3 + i - [Value.int .u32 (d : Int), .int .i32 (s : Int), .int .u32 0].length = i by simp, map_get _ hi]
theorem FAt.cL (h : FAt w g d s P L) {a : Nat} (ha : a < 256) : w.cell? ⟨g, 258 + a, none⟩ = some (.int .u8 (L a : Int)) := by
  rw [h.c]
  unfold fieldC
  rw [List.getElem?_append_right (by simp; omega), List.getElem?_append_right (by rw [len_map]; simp; omega), len_map]
  rw [show 258 + a - [Value.int .u32 (d : Int), .int .i32 (s : Int), .int .u32 0].length - 255 = a by simp; omega, map_get _ ha]
theorem FAt.stay {X : Nat → Prop} {w' : World} (h : FAt w g d s P L) (hs : Stay X w w') (hx : ¬ X g) : FAt w' g d s P L := (hs.block g h.lt hx).trans h
theorem FAt.drew (h : FAt w g d s P L) : FAt w.drew g d s P L := h
theorem FAt.setd (h : FAt w g d s P L) (n : Nat) : FAt (w.setCell ⟨g, 0, none⟩ (.int .u32 (n : Int))) g n s P L := by
  unfold FAt
  rw [heap_setCell_same w g 0 _ _ _ h]
  simp only [List.setIfInBounds_toArray]
  rfl
theorem FAt.sets (h : FAt w g d s P L) (n : Nat) : FAt (w.setCell ⟨g, 1, none⟩ (.int .i32 (n : Int))) g d n P L := by
  unfold FAt
  rw [heap_setCell_same w g 1 _ _ _ h]
  simp only [List.setIfInBounds_toArray]
  rfl
theorem FAt.setP (h : FAt w g d s P L) {i : Nat} (hi : i < 255) (v : Nat) : FAt (w.setCell ⟨g, 3 + i, none⟩ (.int .u8 (v : Int))) g d s (putN P i v) L := by
  unfold FAt
  rw [heap_setCell_same w g (3 + i) _ _ _ h]
  simp only [List.setIfInBounds_toArray]
  congr 3
  unfold fieldC
  rw [List.set_append, if_neg (by simp), List.set_append, if_pos (by rw [len_map]; simp; omega)]
  rw [show 3 + i - [Value.int .u32 (d : Int), .int .i32 (s : Int), .int .u32 0].length = i by simp, map_set _ _ hi]
theorem FAt.setL (h : FAt w g d s P L) {a : Nat} (ha : a < 256) (v : Nat) : FAt (w.setCell ⟨g, 258 + a, none⟩ (.int .u8 (v : Int))) g d s P (putN L a v) := by
  unfold FAt
  rw [heap_setCell_same w g (258 + a) _ _ _ h]
  simp only [List.setIfInBounds_toArray]
  congr 3
  unfold fieldC
  rw [List.set_append, if_neg (by simp; omega), List.set_append, if_neg (by rw [len_map]; simp; omega), len_map]
  rw [show 258 + a - [Value.int .u32 (d : Int), .int .i32 (s : Int), .int .u32 0].length - 255 = a by simp; omega, map_set _ _ ha]
theorem FAt.congr {P' L' : Nat → Nat} (h : FAt w g d s P L) (e1 : ∀ i, i < 255 → P i = P' i) (e2 : ∀ a, a < 256 → L a = L' a) : FAt w g d s P' L' := by
  unfold FAt at *
  rw [h]
  congr 3
  unfold fieldC
  congr 2
  · exact List.map_congr_left (fun i hi => by rw [e1 i (List.mem_range.1 hi)])
  · exact List.map_congr_left (fun i hi => by rw [e2 i (List.mem_range.1 hi)])
end

/-- The tables behind k rounds. -/
def pwK (k : Nat) : Nat → Nat := fun i => if i < k then pw i else 0
def lgK (k : Nat) : Nat → Nat := fun a => if a ≠ 0 ∧ lg a < k then lg a else 0
theorem pwK_up {k : Nat} : ∀ i, putN (pwK k) k (pw k) i = pwK (k + 1) i := by
  intro i
  unfold putN pwK
  by_cases e : i = k
  · subst e; rw [if_pos rfl, if_pos (by omega)]
  · rw [if_neg e]
    by_cases h : i < k
    · rw [if_pos h, if_pos (by omega)]
    · rw [if_neg h, if_neg (by omega)]
theorem lgK_up {k : Nat} (hk : k < 255) : ∀ a, a < 256 → putN (lgK k) (pw k) k a = lgK (k + 1) a := by
  intro a ha
  unfold putN lgK
  by_cases e : a = pw k
  · subst e
    rw [if_pos rfl, lg_pw hk, if_pos ⟨pw_pos hk, by omega⟩]
  · rw [if_neg e]
    by_cases h0 : a = 0
    · subst h0; simp
    · by_cases h : lg a < k
      · rw [if_pos ⟨h0, h⟩, if_pos ⟨h0, by omega⟩]
      · rw [if_neg (fun x => h x.2), if_neg]
        intro x
        apply e
        rw [show k = lg a by omega, pw_lg h0 ha]
/-- A new field, and one whose tables are made. -/
def Fresh (w : World) (g : Nat) : Prop := FAt w g 0 0 (pwK 0) (lgK 0)
def Made (w : World) (g : Nat) : Prop := FAt w g 1 0 (pwK 255) (lgK 255)
/-- A field. -/
def Fld (w : World) (g : Nat) : Prop := Fresh w g ∨ Made w g
theorem Fld.lt {w : World} {g : Nat} (h : Fld w g) : g < w.heap.size := by
  rcases h with h | h
  · exact FAt.lt h
  · exact FAt.lt h
theorem Fld.stay {X : Nat → Prop} {w w' : World} {g : Nat} (h : Fld w g) (hs : Stay X w w') (hx : ¬ X g) : Fld w' g := by
  rcases h with h | h
  · exact .inl (FAt.stay h hs hx)
  · exact .inr (FAt.stay h hs hx)
theorem lgK_at {a : Nat} (ha : a < 256) : lgK 255 a = lg a := by
  unfold lgK
  by_cases h : a = 0
  · subst h; simp [lg_zero]
  · rw [if_pos ⟨h, lg_lt ha⟩]
theorem pwK_at {i : Nat} (h : i < 255) : pwK 255 i = pw i := if_pos h

def zeroF : Value := .agg (fieldC 0 0 (fun _ => 0) (fun _ => 0)).toArray
theorem zero_fld (w : World) : (zeroValue 72).run Try.prog w = .ok zeroF w := by kernel_rfl
theorem Fresh.new (w : World) : Fresh (w.alloc (.cells (fieldC 0 0 (fun _ => 0) (fun _ => 0)).toArray 72)) w.heap.size := by
  have h : FAt (w.alloc (.cells (fieldC 0 0 (fun _ => 0) (fun _ => 0)).toArray 72)) w.heap.size 0 0 (fun _ => 0) (fun _ => 0) := heap_alloc_new w _
  exact h.congr (fun i _ => by simp [pwK]) (fun a _ => by simp [lgK])

theorem alloc_fld {ops : Array Oper} {rest : List Oper} {o : Oper} {a : Act} {w : World} {Q : Exit → Act → World → Prop} (hgd : o.guard = none) (ho : o.op = .alloc 72)
    (hn : ∀ w', Fresh w' w.heap.size → Stay (fun _ => False) w w' → wpList Try.prog ops Q rest (a.put o.dst (.pointer (some ⟨w.heap.size, 0, none⟩))) w') : wpList Try.prog ops Q (o :: rest) a w :=
  wpList_alloc_at hgd 72 ho zeroF (zero_fld _) (hn _ (Fresh.new w) (Stay.alloc _ _))
/-- New. -/
theorem new_any (w : World) : Calls Try.prog 10 #[] w fun e w' => e = .returned (.pointer (some ⟨w.heap.size, 0, none⟩)) ∧ Fld w' w.heap.size ∧ Stay (fun _ => False) w w' := by
  go_enter Try.func10, Try.ntmps10
  go_wp2_with (with_reducible refine alloc_fld rfl rfl ?_; intro w1 hf1 hs1)
  go_ret
  exact ⟨rfl, .inl hf1, hs1⟩

theorem xor_285 : ∀ x : Fin 512, bits BinOp.xor IntKind.i64 ((x.val : Nat) : Int) 285 = ((x.val ^^^ 285 : Nat) : Int) := by decide +kernel

set_option maxHeartbeats 2000000 in
theorem fill_any (w : World) (g d s : Nat) (h : FAt w g d s (pwK 0) (lgK 0)) :
    Calls Try.prog 35 #[.pointer (some ⟨g, 3, none⟩)] w fun e w' => e = .returned (.tuple #[]) ∧ FAt w' g d s (pwK 255) (lgK 255) ∧ Stay (· = g) w w' := by
  have H := Lib.hid h
  clear h
  go_enter Try.func35, Try.ntmps35
  go_wp2
  go_loopw [2, 4] (fun n i wr => ∃ k : Nat, k ≤ 255 ∧ i = .int .i64 (k : Int) ∧ n = .int .i64 (pw (k % 255) : Int) ∧ FAt wr g d s (pwK k) (lgK k) ∧ Stay (fun k => k = g) w wr) (fun _ i _ => 255 - (intOf i).toNat)
  case atStart => exact ⟨0, by omega, rfl, rfl, H.out, Stay.refl _ _⟩
  case round =>
    obtain ⟨k, hk, rfl, rfl, hs, hst⟩ := hrel
    by_cases hlt : k < 255
    · obtain ⟨x, hx⟩ : ∃ x, x = pw k := ⟨_, rfl⟩
      rw [Nat.mod_eq_of_lt hlt, ← hx]
      have hx1 : x < 256 := hx ▸ pw_lt hlt
      have q0 : (x : Int) < 256 := by omega
      have q1 : (k : Int) < 255 := by omega
      have cP := hs.cP hlt
      have cL := hs.cL hx1
      have f0 := hs.fr
      have HS := Lib.hid hs
      have HX := Lib.hid hx
      have HX1 := Lib.hid hx1
      have HST := Lib.hid hst
      have HK := Lib.hid hlt
      clear hs hx hx1 hst hlt
      go_wp2
      go_region
      obtain ⟨w1, hw1⟩ : ∃ w1, ((wr.setCell ⟨g, 3 + k, none⟩ (.int .u8 (x : Int))).setCell ⟨g, 258 + x, none⟩ (.int .u8 (k : Int))).drew = w1 := ⟨_, rfl⟩
      rw [hw1]
      have h1 : FAt w1 g d s (pwK (k + 1)) (lgK (k + 1)) := by
        rw [← hw1]
        have h2 := ((HS.out.setP HK.out x).setL HX1.out k).drew
        refine h2.congr (fun i _ => ?_) (fun a ha => ?_)
        · rw [HX.out]; exact pwK_up i
        · rw [HX.out]; exact lgK_up HK.out a ha
      have s1 : Stay (fun k => k = g) wr w1 := by
        rw [← hw1]
        exact ((Stay.setCell (X := fun k => k = g) _ ⟨g, 3 + k, none⟩ _ rfl).trans (Stay.setCell _ ⟨g, 258 + x, none⟩ _ rfl)).trans Stay.drew
      have H1 := Lib.hid h1
      have S1 := Lib.hid (HST.out.trans s1)
      have hd : dbl x = pw ((k + 1) % 255) := by rw [HX.out]; exact (pw_facts HK.out).2.2.2
      have HD := Lib.hid hd
      clear hd h1 s1 hw1 cP cL f0
      by_cases hc : 256 ≤ (x : Int) * 2
      · have hxx : bits BinOp.xor IntKind.i64 ((x : Int) * 2) 285 = ((dbl x : Nat) : Int) := by
          rw [dbl_hi HX1.out (by omega), Nat.mul_comm 2 x]
          have := xor_285 ⟨x * 2, by have := HX1.out; omega⟩
          simpa using this
        go_wp2
        have hl := HK.out
        exact ⟨⟨k + 1, by omega, by go_num, by rw [HD.out], H1.out, S1.out⟩, by simp [intOf]; omega⟩
      · go_wp2
        have hl := HK.out
        exact ⟨⟨k + 1, by omega, by go_num, by rw [← HD.out, dbl_lo (by omega)]; go_num, H1.out, S1.out⟩, by simp [intOf]; omega⟩
    · obtain rfl : k = 255 := by omega
      have HS := Lib.hid hs
      clear hs
      go_wp2
      exact bodyPost_end (results_none rfl _ _ _) rfl ⟨rfl, HS.out, hst⟩
end Go.Proofs.Ytaldpfamgfchoab.Gf
