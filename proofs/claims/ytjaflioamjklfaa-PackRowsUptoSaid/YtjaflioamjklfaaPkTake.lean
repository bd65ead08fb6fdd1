/-
  What is laid is taken off: each reader's call on bytes that begin with what the writer's call lays.
-/
import Derived.Test.YtjaflioamjklfaaPkThing
namespace Go.Proofs.Ytjaflioamjklfaa.Pk
open Go.RowKit
set_option maxRecDepth 100000

theorem tru_bool (b : Bool) (r : List UInt8) : truB (boolB b ++ r) = .ok (b, r) := by cases b <;> rfl
theorem sig_int (n : Int) (h1 : -9223372036854775808 ≤ n) (h2 : n ≤ 9223372036854775807) (r : List UInt8) : sigB (intB n ++ r) = .ok (n, r) := by
  unfold sigB
  by_cases h : n < 0
  · rw [show intB n = boolB true ++ spellB (-1 - n).toNat from if_pos h, List.append_assoc, tru_bool]
    simp only []
    rw [num_spell (most := M63) (by omega) (by unfold M63; omega)]
    simp only [if_true]
    congr 2
    omega
  · rw [show intB n = boolB false ++ spellB n.toNat from if_neg h, List.append_assoc, tru_bool]
    simp only []
    rw [num_spell (most := M63) (by omega) (by unfold M63; omega)]
    simp only [Bool.false_eq_true, if_false]
    congr 2
    omega
theorem text_bytes (b r : List UInt8) (hb : b.length ≤ 140737488355328) : textB (b.length : Int) (bytesB b ++ r) = .ok (b, r) := by
  unfold bytesB
  rw [List.append_assoc]
  have hn : numB M64 (spellB b.length ++ (b ++ r)) = .ok (b.length, b ++ r) := num_spell (by omega) (by unfold M64; omega) _
  rw [textB_ok (by omega) hn (by omega) (by rw [List.length_append]; omega)]
  rw [List.take_left', List.drop_left'] <;> rfl
theorem sum_prt (pr r : List UInt8) (h : pr.length = 32) : sumB (pr ++ r) = .ok (pr, r) := by
  unfold sumB
  rw [if_neg (by rw [List.length_append]; omega), List.take_left' h, List.drop_left' h]

theorem uint_back (X : Nat → Prop) (w : World) (p n : Nat) (m : Int) (hm : m = 18446744073709551615) (r : List UInt8) (hn : (n : Int) ≤ 18446744073709551615) (h : RdAt X w p ⟨spellB n ++ r, 0⟩) :
    Calls Try.prog 12 #[.pointer (some ⟨p, 0, none⟩), .int .u64 m] w fun e w' => e = .returned (.int .u64 (n : Int)) ∧ RdAt X w' p ⟨r, 0⟩ ∧ Stay (fun k => k = p) w w' := by
  have e : takeB (numB M64) 0 (⟨spellB n ++ r, 0⟩ : RS) = (n, ⟨r, 0⟩) := takeB_ok rfl (num_spell (by omega) (by unfold M64; omega) r)
  have := ruint_at X w p _ M64 m (by rw [hm]; rfl) h
  rw [e] at this
  exact this
theorem int_back (X : Nat → Prop) (w : World) (p : Nat) (n : Int) (r : List UInt8) (h1 : -9223372036854775808 ≤ n) (h2 : n ≤ 9223372036854775807) (h : RdAt X w p ⟨intB n ++ r, 0⟩) :
    Calls Try.prog 13 #[.pointer (some ⟨p, 0, none⟩)] w fun e w' => e = .returned (.int .i64 n) ∧ RdAt X w' p ⟨r, 0⟩ ∧ Stay (fun k => k = p) w w' := by
  have e : takeB sigB 0 (⟨intB n ++ r, 0⟩ : RS) = (n, ⟨r, 0⟩) := takeB_ok rfl (sig_int n h1 h2 r)
  have := rint_any X w p _ h
  rw [e] at this
  exact this
theorem bool_back (X : Nat → Prop) (w : World) (p : Nat) (b : Bool) (r : List UInt8) (h : RdAt X w p ⟨boolB b ++ r, 0⟩) :
    Calls Try.prog 14 #[.pointer (some ⟨p, 0, none⟩)] w fun e w' => e = .returned (.bool b) ∧ RdAt X w' p ⟨r, 0⟩ ∧ Stay (fun k => k = p) w w' := by
  have e : takeB truB false (⟨boolB b ++ r, 0⟩ : RS) = (b, ⟨r, 0⟩) := takeB_ok rfl (tru_bool b r)
  have := rbool_any X w p _ h
  rw [e] at this
  exact this
theorem bytes_back (X : Nat → Prop) (w : World) (p : Nat) (b r : List UInt8) (hl : (bytesB b ++ r).length ≤ 140737488355328) (h : RdAt X w p ⟨bytesB b ++ r, 0⟩) :
    Calls Try.prog 16 #[.pointer (some ⟨p, 0, none⟩), .int .i64 b.length] w fun e w' => (∃ v, e = .returned v ∧ Owns w.heap.size w' v b) ∧ RdAt X w' p ⟨r, 0⟩ ∧ Stay (fun k => k = p) w w' := by
  have hb : b.length ≤ 140737488355328 := by unfold bytesB at hl; rw [List.length_append, List.length_append] at hl; omega
  have e : takeB (textB b.length) [] (⟨bytesB b ++ r, 0⟩ : RS) = (b, ⟨r, 0⟩) := takeB_ok rfl (text_bytes b r hb)
  have := rbytes_any X w p _ (b.length : Int) h hl (by omega)
  rw [e] at this
  exact this
theorem text_back (X : Nat → Prop) (w : World) (p : Nat) (b r : List UInt8) (hl : (bytesB b ++ r).length ≤ 140737488355328) (h : RdAt X w p ⟨bytesB b ++ r, 0⟩) :
    Calls Try.prog 15 #[.pointer (some ⟨p, 0, none⟩), .int .i64 b.length] w fun e w' => e = .returned (.string ⟨b.toArray⟩) ∧ RdAt X w' p ⟨r, 0⟩ ∧ Stay (fun k => k = p) w w' := by
  have hb : b.length ≤ 140737488355328 := by unfold bytesB at hl; rw [List.length_append, List.length_append] at hl; omega
  have e : takeB (textB b.length) [] (⟨bytesB b ++ r, 0⟩ : RS) = (b, ⟨r, 0⟩) := takeB_ok rfl (text_bytes b r hb)
  have := rtext_any X w p _ (b.length : Int) h hl (by omega)
  rw [e] at this
  exact this
theorem print_back (X : Nat → Prop) (w : World) (p : Nat) (pr r : List UInt8) (hp : pr.length = 32) (h : RdAt X w p ⟨pr ++ r, 0⟩) :
    Calls Try.prog 17 #[.pointer (some ⟨p, 0, none⟩)] w fun e w' => e = .returned (.agg (cellsB pr).toArray) ∧ RdAt X w' p ⟨r, 0⟩ ∧ Stay (fun k => k = p) w w' := by
  have e : takeB sumB z32 (⟨pr ++ r, 0⟩ : RS) = (pr, ⟨r, 0⟩) := takeB_ok rfl (sum_prt pr r hp)
  have := rprint_any X w p _ h
  rw [e] at this
  exact this

end Go.Proofs.Ytjaflioamjklfaa.Pk
