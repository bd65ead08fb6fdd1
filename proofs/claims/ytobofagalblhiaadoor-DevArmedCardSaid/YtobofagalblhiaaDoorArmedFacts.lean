/-
  DevArmed: plain facts for its walk (the walk itself is not done: NOTES.md).
-/
import Derived.Test.YtobofagalblhiaaDoorDevK
import Derived.Test.YtobofagalblhiaaDoorWriteFacts
namespace Go.Proofs.YtobofagalblhiaaDoor
open Go.RowKit Go.Maps
set_option maxRecDepth 100000

/-- The device behind i writes, of which k were allowed. -/
structure ArmInv (k i : Nat) (d : DS) : Prop where
  n : d.n = 3
  lo : d.lo = false
  ar : d.ar = true
  wr : d.wr = ((min i k : Nat) : Int)
  left : d.left = (k : Int) - ((min i k : Nat) : Int)
  cr : d.cr = decide (k < i)

theorem mod12 (x : Int) : ∃ k : Nat, k < 12 ∧ wrap64 ((IntKind.u64.wrap x).tmod 12) = (k : Int) := by
  have h0 : 0 ≤ IntKind.u64.wrap x := wrap_u64_nonneg x
  rw [Int.tmod_eq_emod_of_nonneg h0]
  have h1 : 0 ≤ IntKind.u64.wrap x % 12 := Int.emod_nonneg _ (by decide)
  have h2 : IntKind.u64.wrap x % 12 < 12 := Int.emod_lt_of_pos _ (by decide)
  refine ⟨(IntKind.u64.wrap x % 12).toNat, by omega, ?_⟩
  generalize IntKind.u64.wrap x % 12 = y at *
  unfold wrap64
  omega

theorem down_is (w : World) (pd ps pm : Nat) (d : DS) (b : Bool) (h : DevAt w pd ps pm d) (hb : (d.cr || d.lo) = b) :
    Calls Tryd.prog 8 #[.pointer (some ⟨pd, 0, none⟩)] w fun e w' => e = .returned (.bool b) ∧ w = w' := by rw [← hb]; exact down_any w pd ps pm d h
theorem writes_is (w : World) (pd ps pm : Nat) (d : DS) (x : Int) (h : DevAt w pd ps pm d) (hx : d.wr = x) :
    Calls Tryd.prog 9 #[.pointer (some ⟨pd, 0, none⟩)] w fun e w' => e = .returned (.int .i64 x) ∧ w = w' := by rw [← hx]; exact writes_any w pd ps pm d h

theorem ArmInv.some {k i : Nat} {d : DS} (h : ArmInv k i d) (hi : i < k) (j : Nat) (l : List UInt8) : ArmInv k (i + 1) ({ d with left := d.left - 1 }.wrote j l) := by
  have e1 : min i k = i := Nat.min_eq_left (by omega)
  have e2 : min (i + 1) k = i + 1 := Nat.min_eq_left (by omega)
  refine ⟨h.n, h.lo, h.ar, ?_, ?_, ?_⟩
  · have := h.wr; rw [e1] at this; simp [DS.wrote, this, e2]
  · have := h.left; rw [e1] at this; simp [DS.wrote, this, e2]; omega
  · have := h.cr; simp only [DS.wrote, this]; rw [decide_eq_false (by omega), decide_eq_false (by omega)]
theorem ArmInv.last {k : Nat} {d : DS} (h : ArmInv k k d) : ArmInv k (k + 1) { d with cr := true } := by
  refine ⟨h.n, h.lo, h.ar, ?_, ?_, ?_⟩
  · have := h.wr; rw [Nat.min_eq_left (Nat.le_refl k)] at this; rw [Nat.min_eq_right (by omega)]; exact this
  · have := h.left; rw [Nat.min_eq_left (Nat.le_refl k)] at this; rw [Nat.min_eq_right (by omega)]; exact this
  · exact (decide_eq_true (by omega)).symm
theorem ArmInv.down {k i : Nat} {d : DS} (h : ArmInv k i d) (hi : k < i) : ArmInv k (i + 1) d := by
  refine ⟨h.n, h.lo, h.ar, ?_, ?_, ?_⟩
  · have := h.wr; rw [Nat.min_eq_right (by omega)] at this ⊢; exact this
  · have := h.left; rw [Nat.min_eq_right (by omega)] at this ⊢; exact this
  · have := h.cr; rw [this, decide_eq_true hi, decide_eq_true (by omega)]

end Go.Proofs.YtobofagalblhiaaDoor
