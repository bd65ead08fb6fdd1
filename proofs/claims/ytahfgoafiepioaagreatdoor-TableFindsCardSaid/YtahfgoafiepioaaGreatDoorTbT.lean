/-
  table, the document's Build.
-/
import Derived.Test.YtahfgoafiepioaaGreatDoorTbS
import Derived.Test.YtahfgoafiepioaaGreatDoorGaT
import Derived.Test.YtahfgoafiepioaaGreatDoorGaS
namespace Go.Proofs.YtahfgoafiepioaaGreatDoor.Tb
open Go.RowKit
open Pk (stay_seal)
open Me (En EnS EnO Box enC enV norm ltB Sorted getL posN hasB sizeL)
open Pk (spellB bytesB boolB Slc Owns)
open Bo (TO RV)
set_option maxRecDepth 100000
set_option linter.unusedVariables false

theorem step_load_run {P : Program} {ops : Array Oper} {Q : Exit → Act → World → Prop} {o : Oper} {a : Act} {w : World} {K : Act → World → Prop} {E : Prop} (hw : Region.wanted o (yielded ops a.tmps) = true) (ty : TypeId) (x : Operand) (ho : o.op = .load ty x) (ad : Addr) (hx : a.eval x = .pointer (some ad)) (v : Value)
    (hl : (loadVar ty ad).run P w = .ok v w) (h : K (a.put o.dst v) w) : if Region.wanted o (yielded ops a.tmps) = true then Oper.wp P o a w K Q else E := by
  rw [if_pos hw]
  unfold Oper.wp execOp
  simp only [ho, hx, Instr.loadAt, Instr.sureAddr, Sem.run_bind, Sem.run_pure, Result.andThen_ok, hl]
  exact h
def RfAt (w : World) (g q : Nat) (v : Value) : Prop := w.heap[g]? = some (.cells #[.int .i64 (q : Int), v] 44 (0, 0))
theorem RfAt.lt {w : World} {g q : Nat} {v : Value} (h : RfAt w g q v) : g < w.heap.size := lt_of_block h
theorem RfAt.stay {X : Nat → Prop} {w w' : World} {g q : Nat} {v : Value} (h : RfAt w g q v) (hs : Stay X w w') (hx : ¬ X g) : RfAt w' g q v := (hs.block g h.lt hx).trans h
theorem RfAt.stay0 {w w' : World} {g q : Nat} {v : Value} (h : RfAt w g q v) (hs : Stay (fun _ => False) w w') : RfAt w' g q v := h.stay hs (fun x => x)
theorem info_rf : (Tryz.prog.info? 44).map (·.size) = some 2 := by kernel_rfl
theorem RfAt.run {w : World} {g q : Nat} {v : Value} (h : RfAt w g q v) : (loadVar 44 ⟨g, 0, none⟩).run Tryz.prog w = .ok (.agg #[.int .i64 (q : Int), v]) w :=
  run_loadVar_mid (P := Tryz.prog) w g 0 44 44 #[.int .i64 (q : Int), v] #[.int .i64 (q : Int), v] (0, 0) _ h Tryz.underlying44 rfl info_rf (fun j hj => by rw [Nat.zero_add])
theorem rf_store {w : World} {g q : Nat} {v : Value} (h : RfAt w g q v) (q' : Nat) (a : Option Addr) (n c : Nat) :
    ∃ w', (storeVar 44 ⟨g, 0, none⟩ (.agg #[.int .i64 (q' : Int), .slice a n c])).run Tryz.prog w = .ok () w' ∧ RfAt w' g q' (.slice a n c) ∧ Stay (fun i => i = g) w w' := by
  have hr := run_storeVar_mid (P := Tryz.prog) w g 0 44 44 [.int .i64 (q : Int), v] [.int .i64 (q' : Int), .slice a n c] h info_rf (Nat.le_refl _) (by intro u hu; simp at hu; rcases hu with rfl | rfl <;> rfl)
  refine ⟨_, hr, ?_, Stay.setRow w g _ rfl⟩
  unfold RfAt
  have e : splice [.int .i64 (q : Int), v] 0 [.int .i64 (q' : Int), .slice a n c] = [.int .i64 (q' : Int), .slice a n c] := rfl
  rw [e]
  simp [World.setRow, Array.getElem?_modify, RfAt] at h ⊢
  exact ⟨_, h, rfl⟩


theorem i64_w (x : Int) (h1 : -9223372036854775808 ≤ x) (h2 : x ≤ 9223372036854775807) : IntKind.i64.wrap x = x := by
  rw [IntKind.wrap_i64]
  omega
theorem u64_w (x : Int) (h1 : 0 ≤ x) (h2 : x ≤ 9223372036854775807) : IntKind.u64.wrap x = x := by
  rw [IntKind.wrap_u64]
  omega
theorem chunk_cut (L : List En) (p k n mm q9 : Nat) (hn : n = L.length) (hm : mm = k * p) (hq : q9 = min n (mm + p)) : (L.drop mm).take (q9 - mm) = chunk L p k := by
  unfold chunk
  rw [← hm]
  by_cases h : mm + p ≤ n
  · rw [show q9 - mm = p by omega]
  · rw [List.take_of_length_le (by rw [List.length_drop]; omega), List.take_of_length_le (by rw [List.length_drop]; omega)]

end Go.Proofs.YtahfgoafiepioaaGreatDoor.Tb
