/-
  errors.Is of an api.Errno and an api.Errno: whether they are one number; and of nil.
-/
import Derived.Test.YtaolbbkkpdghaaaRows
import Derived.Test.YtaolbbkkpdghaaaRow
import Derived.LaidEql
import Derived.Stop.Asserts
import Derived.RowKitTokens
import Derived.Lib.Hide
namespace Go.Proofs.Ytaolbbkkpdghaaa
open Go.RowKit Go.Extern.Stop Go.Stop Go.Extern
set_option maxRecDepth 100000

theorem ei_typeOf (v : Value) (w : World) : (ReflectliteType.typeOf #[.iface 41 v]).run Try.prog w = .ok (.iface 81 (.agg #[.pointer (some ⟨0, 41, none⟩)])) w := by kernel_rfl
theorem ei_comparable (w : World) : ((ReflectliteType.method fun t => do Rtype.noPackHeld "Comparable" t; (fun a => Value.bool a.comparable) <$> typeInfo t) #[.agg #[.pointer (some ⟨0, 41, none⟩)]]).run Try.prog w = .ok (.bool true) w := by kernel_rfl
theorem ei_method (v : Value) (w : World) : (Go.method 240 81 v "Comparable").run Try.prog w = .ok (71, v) w := by kernel_rfl
theorem ei_noIs (v : Value) (xT : TypeId) (w : World) : (Instr.typeAssert (.iface 41 v) xT 83 true).run Try.prog w = .ok (.tuple #[.nilIface, .bool false]) w := run_typeAssert_lacksB Try.underlying83 (by kernel_rfl) (by kernel_rfl) v xT w
theorem ei_noUnwrap (v : Value) (xT : TypeId) (w : World) : (Instr.typeAssert (.iface 41 v) xT 86 true).run Try.prog w = .ok (.tuple #[.nilIface, .bool false]) w := run_typeAssert_lacksB Try.underlying86 (by kernel_rfl) (by kernel_rfl) v xT w
theorem ei_noUnwraps (v : Value) (xT : TypeId) (w : World) : (Instr.typeAssert (.iface 41 v) xT 87 true).run Try.prog w = .ok (.tuple #[.nilIface, .bool false]) w := run_typeAssert_lacksB Try.underlying87 (by kernel_rfl) (by kernel_rfl) v xT w

theorem ei_info : (Try.prog.info? 41).map (·.comparable) = some true := by kernel_rfl
theorem ei_eql (n m : Int) (w : World) : (binOp .eql 33 (.iface 41 (.int .i64 n)) (.iface 41 (.int .i64 m))).run Try.prog w = .ok (.bool (n == m)) w := by
  obtain ⟨i, hi, hcmp⟩ := Option.map_eq_some_iff.1 ei_info
  have h : ∀ d : Nat, (Op.equalIn (d + 2) 33 (.iface 41 (.int .i64 n)) (.iface 41 (.int .i64 m))).run Try.prog w = .ok (n == m) w := fun d => by
    simp [Op.equalIn, run_underlying Try.underlying33, run_underlying Try.underlying41, typeInfo, hi, hcmp]
  simp only [binOp]
  simp [Op.equal, Op.maxDepth, h 9998]

set_option maxHeartbeats 2000000 in
theorem is_errno (n m : Int) (w : World) :
    Calls Try.prog 13 #[.iface 41 (.int .i64 n), .iface 41 (.int .i64 m)] w fun e w' => e = .returned (.bool (n == m)) ∧ w' = w := by
  have x1 := @run_callFunc_extern Try.prog 21 _ ReflectliteType.typeOf Try.func21 (by kernel_rfl) (by kernel_rfl) (by kernel_rfl) (by kernel_rfl)
  have x2 := @run_callFunc_extern Try.prog 71 _ (ReflectliteType.method fun t => do Rtype.noPackHeld "Comparable" t; pure (.bool (← typeInfo t).comparable)) Try.func71 (by kernel_rfl) (by kernel_rfl) (by kernel_rfl) (by kernel_rfl)
  have y1 := ei_typeOf
  have y2 := ei_comparable
  have y3 := ei_method
  have y4 := ei_noIs
  have y5 := ei_noUnwrap
  have y6 := ei_noUnwraps
  have heq := ei_eql n m w
  by_cases h : n = m
  · have hb : (n == m) = true := by simpa using h
    rw [hb] at heq ⊢
    clear hb h
    go_enter Try.func13, Try.ntmps13
    go_wp2
    refine wp_loop_rounds 1 ?_
    rw [rounds_succ]
    go_wp2
    go_ret
    exact ⟨rfl, rfl⟩
  · have hb : (n == m) = false := by simpa using h
    rw [hb] at heq ⊢
    clear hb h
    go_enter Try.func13, Try.ntmps13
    go_wp2
    refine wp_loop_rounds 1 ?_
    rw [rounds_succ]
    go_wp2
    go_ret
    exact ⟨rfl, rfl⟩

theorem is_nil (m : Int) (w : World) :
    Calls Try.prog 13 #[.nilIface, .iface 41 (.int .i64 m)] w fun e w' => e = .returned (.bool false) ∧ w' = w := by
  have hn := run_eql_iface_nil_left (P := Try.prog) w 41 (.int .i64 m) Try.underlying33
  go_enter Try.func13, Try.ntmps13
  go_wp2
  go_ret
  exact ⟨rfl, rfl⟩

end Go.Proofs.Ytaolbbkkpdghaaa
