/-
  horner over pack's slices: the contracts of Seal and the document's Seal.
-/
import Derived.Test.YthbcgimmbcdnmaaDoorHnBp
namespace Go.Proofs.YthbcgimmbcdnmaaDoor.Hn
open Go.RowKit Pk
set_option maxRecDepth 100000

/-- Bytes and their sum. -/
def sealB (b : List UInt8) : List UInt8 := b ++ tailB (moreN 1 b)
theorem length_sealB (b : List UInt8) : (sealB b).length = b.length + 4 := by simp [sealB, length_tailB]

/-- A block that holds a tail. -/
def TailAt (w : World) (g : Nat) (l : List UInt8) : Prop := w.heap[g]? = some (.cells (cellsB l).toArray 87 (0, 0))
theorem TailAt.slc {w : World} {g : Nat} {l : List UInt8} (h : TailAt w g l) (hl : l.length ≤ 9223372036854775807) : Slc w (.slice (some ⟨g, 0, none⟩) l.length l.length) l := by
  refine ⟨_, _, rfl, fun _ => ⟨_, rfl, fun j v hv => ?_⟩, (fun h => by cases h), Nat.le_refl _, hl⟩
  rw [add_at, Nat.zero_add, cell_of_row _ _ _ _ _ _ h]
  simpa using hv
theorem store_tail {ops : Array Oper} {rest : List Oper} {o : Oper} {a : Act} {w : World} {Q : Exit → Act → World → Prop} (hgd : o.guard = none) (x y : Operand) (ho : o.op = .store 87 x y)
    (g : Nat) (hx : a.eval x = .pointer (some ⟨g, 0, none⟩)) (l0 l : List UInt8) (hy : a.eval y = .agg (cellsB l).toArray) (hl0 : l0.length = 4) (hl : l.length = 4) (hg : TailAt w g l0)
    (hn : ∀ w', TailAt w' g l → Stay (· = g) w w' → wpList Tryd.prog ops Q rest (a.put o.dst undef) w') : wpList Tryd.prog ops Q (o :: rest) a w :=
  wpList_store_mid hgd 87 x y ho g 0 hx 87 (cellsB l0) (cellsB l) hy hg (by have := info_tail hl; simpa using this) (by rw [length_cellsB, length_cellsB, hl, hl0]; exact Nat.le_refl _) (oneCell_cellsB _)
    (fun w' h1 h2 => hn w' (by
      have e : splice (cellsB l0) 0 (cellsB l) = cellsB l := by
        unfold splice
        rw [List.take_zero, List.nil_append, Nat.zero_add, length_cellsB, hl, List.drop_eq_nil_of_le (by rw [length_cellsB, hl0]; exact Nat.le_refl _), List.append_nil]
      rw [e] at h1
      exact h1) h2)

theorem seal_any (x : Value) (b : List UInt8) (w : World) (hx : Slc w x b) (hlen : b.length + 4 ≤ 140737488355328) :
    Calls Tryd.prog 20 #[x] w fun e w' => ∃ v, e = .returned v ∧ Owns w.heap.size w' v (sealB b) ∧ Stay (fun _ => False) w w' := by
  have HX := Lib.hid hx
  have hm := moreN_lt 1 b
  obtain ⟨a0, c0, rfl, _⟩ := hx
  go_enter Tryd.func20, Tryd.ntmps20
  go_wp2_with fail
  refine (sum_any b _ _ HX.out).mono ?_
  rintro e w' ⟨rfl, rfl⟩
  unfold u32V
  go_wp2_with fail
  refine (spell_any (moreN 1 b) _ (by omega)).mono ?_
  rintro e w1 ⟨rfl, hst⟩
  have h0 : TailAt (w1.alloc (.cells #[.int .u8 0, .int .u8 0, .int .u8 0, .int .u8 0] 87)) w1.heap.size [0, 0, 0, 0] := heap_alloc_new w1 _
  have H0 := Lib.hid h0
  have hszz := hst.size
  clear h0
  go_wp2_with (refine store_tail rfl (.tmp 3) (.tmp 6) rfl w1.heap.size rfl [0, 0, 0, 0] (tailB (moreN 1 b)) rfl rfl rfl H0.out ?_; intro w2 hT2 hs2; have HT2 := Lib.hid hT2; have hst2 := hst.trans (stay_seal (X := fun k => k = w1.heap.size) ((Stay.alloc _ _).trans hs2) (fun k e => by omega)); clear hT2 hs2)
  have hb := heap_alloc_new w2 (.cells #[.slice a0 b.length c0, .slice (some ⟨w1.heap.size, 0, none⟩) 4 4] 36)
  refine (concat_any _ _ _ b (tailB (moreN 1 b)) _ _ hb ((HX.out.stay0 hst2).alloc _) ((HT2.out.slc (by rw [length_tailB]; decide)).alloc _) hlen).mono ?_
  rintro e w3 ⟨v, rfl, how, hs3⟩
  have hst3 := (hst2.trans (Stay.alloc _ _)).trans hs3
  have how3 := how.base (base' := w.heap.size) (fun k hk => by have := (how.lt k hk).1; have := hst2.size; simp at *; omega)
  clear hb how hs3 hst2
  go_wp2
  go_ret
  exact ⟨_, rfl, how3, hst3⟩

end Go.Proofs.YthbcgimmbcdnmaaDoor.Hn
