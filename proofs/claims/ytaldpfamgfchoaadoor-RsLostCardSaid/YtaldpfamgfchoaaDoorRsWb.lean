/-
  rs's laws: what they share.
-/
import Derived.Test.YtaldpfamgfchoaaDoorRsAb
import Derived.Test.YtaldpfamgfchoaaDoorRsY
import Derived.Test.YtaldpfamgfchoaaDoorRsZ
import Derived.Test.YtaldpfamgfchoaaDoorErrG
namespace Go.Proofs.YtaldpfamgfchoaaDoor.Rs
open Go.RowKit Gf
set_option maxRecDepth 100000

/-- How many parts of data and of parity, by value; laid out. -/
def sizeV (K M : Int) : Value := .agg #[.int .i64 K, .int .i64 M]
def Sz (w : World) (a : Nat) (K M : Int) : Prop := w.cell? ⟨a, 0, none⟩ = some (.int .i64 K) ∧ w.cell? ⟨a, 1, none⟩ = some (.int .i64 M)
theorem Sz.stay0 {w w' : World} {a : Nat} {K M : Int} (h : Sz w a K M) (hs : Stay (fun _ => False) w w') : Sz w' a K M := ⟨hs.cell h.1 (fun x => x), hs.cell h.2 (fun x => x)⟩
theorem Sz.new (w : World) (K M : Int) : Sz (w.alloc (.cells #[.int .i64 K, .int .i64 M] 23)) w.heap.size K M := by
  constructor <;> rw [cell_of_row _ _ _ _ _ _ (heap_alloc_new w _)] <;> rfl
theorem size_any {K M : Int} (h : ¬ (K < 1 ∨ M < 0 ∨ 32 - M < K)) : ∃ k m : Nat, K = k ∧ M = m ∧ 1 ≤ k ∧ k + m ≤ 32 := ⟨K.toNat, M.toNat, by omega, by omega, by omega, by omega⟩
def CodeAt (w : World) (a : Nat) (k m : Nat) : Prop := w.heap[a]? = some (.cells #[.int .i64 (k : Int), .int .i64 (m : Int)] 31 (0, 0))
theorem CodeAt.lt {w : World} {a k m : Nat} (h : CodeAt w a k m) : a < w.heap.size := (Array.getElem?_eq_some_iff.1 h).1
theorem CodeAt.stay {X : Nat → Prop} {w w' : World} {a k m : Nat} (h : CodeAt w a k m) (hs : Stay X w w') (hx : ¬ X a) : CodeAt w' a k m := (hs.block a h.lt hx).trans h
theorem CodeAt.stay0 {w w' : World} {a k m : Nat} (h : CodeAt w a k m) (hs : Stay (fun _ => False) w w') : CodeAt w' a k m := h.stay hs (fun x => x)
theorem CodeAt.c0 {w : World} {a k m : Nat} (h : CodeAt w a k m) : w.cell? ⟨a, 0, none⟩ = some (.int .i64 (k : Int)) := by rw [cell_of_row _ _ _ _ _ _ h]; rfl
theorem CodeAt.c1 {w : World} {a k m : Nat} (h : CodeAt w a k m) : w.cell? ⟨a, 1, none⟩ = some (.int .i64 (m : Int)) := by rw [cell_of_row _ _ _ _ _ _ h]; rfl
theorem CodeAt.load {w : World} {a k m : Nat} (h : CodeAt w a k m) : (loadVar 31 ⟨a, 0, none⟩).run Tryd.prog w = .ok (.agg #[.int .i64 (k : Int), .int .i64 (m : Int)]) w := load_code h
theorem Sz.stay {X : Nat → Prop} {w w' : World} {a : Nat} {K M : Int} (h : Sz w a K M) (hs : Stay X w w') (hx : ¬ X a) : Sz w' a K M := ⟨hs.cell h.1 hx, hs.cell h.2 hx⟩
theorem lf_self (l : List UInt8) : lf l.length (fun b => l.getD b 0) = l := by
  unfold lf
  apply List.ext_getElem?
  intro j
  by_cases hj : j < l.length
  · simp [hj]
  · rw [List.getElem?_eq_none (by simp; omega), List.getElem?_eq_none (by omega)]
theorem Slc.own {w : World} {v : Value} {l : List UInt8} (h : Slc w v l) : SSlc (fun _ => False) w v (lf l.length (fun b => l.getD b 0)) := by rw [lf_self]; exact Slc.ss0 h
/-- An error's number as the program holds it. -/
def errV (c : Nat) : Value := if c = 0 then .nilIface else .iface 64 (.int .i64 (c : Int))
theorem num_err (n : Nat) (w : World) (hg : ErrCell w) : Calls Tryd.prog 11 #[errV n] w fun e w' => e = .returned (.int .i64 (n : Int)) ∧ Stay (fun _ => False) w w' := num_any n w hg _ rfl
end Go.Proofs.YtaldpfamgfchoaaDoor.Rs
