/-
  bloom's laws: sizes made small; a size in its box.
-/
import Derived.Test.YtgchdgdhjafdbaaBoO
import Derived.Test.YtgchdgdhjafdbaaBoW
import Derived.Test.YtgchdgdhjafdbaaBoOpen
import Derived.Test.YtgchdgdhjafdbaaHeldS
import Derived.Test.YtgchdgdhjafdbaaDeNar
namespace Go.Proofs.Ytgchdgdhjafdbaa.Bo
open Go.RowKit Pk
set_option maxRecDepth 100000

theorem i64_wrap (x : Int) : IntKind.i64.wrap x = wrap64 x := by
  rw [IntKind.wrap_i64]
  unfold wrap64
  omega
theorem u64_in (x : Int) : 0 ≤ IntKind.u64.wrap x ∧ IntKind.u64.wrap x ≤ 18446744073709551615 := by
  rw [IntKind.wrap_u64]
  omega
theorem small_300 (x : Int) : ∃ s : Nat, wrap64 (1 + wrap64 ((IntKind.u64.wrap x).tmod 300)) = (s : Int) ∧ 1 ≤ s ∧ s ≤ 300 := by
  obtain ⟨h0, h1⟩ := u64_in x
  rw [Int.tmod_eq_emod_of_nonneg h0]
  generalize IntKind.u64.wrap x = u at *
  refine ⟨(1 + u % 300).toNat, ?_, by omega, by omega⟩
  rw [wrap_small (u % 300) (by omega) (by omega), wrap_small _ (by omega) (by omega)]
  omega
theorem small_16 (x : Int) : ∃ s : Nat, wrap64 (1 + wrap64 ((IntKind.u64.wrap x).tmod 16)) = (s : Int) ∧ 1 ≤ s ∧ s ≤ 16 := by
  obtain ⟨h0, h1⟩ := u64_in x
  rw [Int.tmod_eq_emod_of_nonneg h0]
  generalize IntKind.u64.wrap x = u at *
  refine ⟨(1 + u % 16).toNat, ?_, by omega, by omega⟩
  rw [wrap_small (u % 16) (by omega) (by omega), wrap_small _ (by omega) (by omega)]
  omega
/-- A size in its box. -/
def SzAt (w : World) (g : Nat) (x0 x1 : Int) : Prop := w.heap[g]? = some (.cells #[.int .i64 x0, .int .i64 x1] 23 (0, 0))
theorem SzAt.lt {w : World} {g : Nat} {x0 x1 : Int} (h : SzAt w g x0 x1) : g < w.heap.size := lt_of_block h
theorem SzAt.stay {X : Nat → Prop} {w w' : World} {g : Nat} {x0 x1 : Int} (h : SzAt w g x0 x1) (hs : Stay X w w') (hx : ¬ X g) : SzAt w' g x0 x1 := (hs.block g h.lt hx).trans h
theorem SzAt.stay0 {w w' : World} {g : Nat} {x0 x1 : Int} (h : SzAt w g x0 x1) (hs : Stay (fun _ => False) w w') : SzAt w' g x0 x1 := h.stay hs (fun x => x)
theorem SzAt.c0 {w : World} {g : Nat} {x0 x1 : Int} (h : SzAt w g x0 x1) : w.cell? ⟨g, 0, none⟩ = some (.int .i64 x0) := by rw [cell_of_row w g 0 _ _ _ h]; rfl
theorem SzAt.c1 {w : World} {g : Nat} {x0 x1 : Int} (h : SzAt w g x0 x1) : w.cell? ⟨g, 1, none⟩ = some (.int .i64 x1) := by rw [cell_of_row w g 1 _ _ _ h]; rfl
theorem Keys.at {w : World} {a0 : Option Addr} {ks : List (List UInt8)} (h : Keys w a0 ks) (h0 : 0 < ks.length) : ∃ lb lo, a0 = some ⟨lb, lo, none⟩ ∧ lb < w.heap.size ∧ ∀ W X, Stay X w W → ¬ X lb → ∀ i k, ks[i]? = some k → W.cell? ⟨lb, lo + i, none⟩ = some (strV k) := by
  obtain ⟨lb, lo, e, hlt, hc⟩ := h.2 h0
  exact ⟨lb, lo, e, hlt, fun W X hs hX i k hk => hs.cell (hc i k hk) hX⟩
theorem FAt.mem_ne {w : World} {p g q : Nat} {B : List Bool} (h : FAt w p g q B) : p ≠ g := h.ne
theorem full_st' (w : World) (p g q : Nat) (B : List Bool) (h : FAt w p g q B) :
    Calls Try.prog 6 #[.pointer (some ⟨p, 0, none⟩)] w fun e w' => e = .returned (.int .i64 (fullB B : Nat)) ∧ Stay (fun _ => False) w w' :=
  (full_any w p g q B h).mono fun _ _ ⟨h1, h2⟩ => ⟨h1, h2 ▸ Stay.refl _ _⟩

end Go.Proofs.Ytgchdgdhjafdbaa.Bo
