/-
  errors.Is of an api.Errno and an api.Errno: whether they are one number; and of nil.
-/
import Derived.Test.YtaolbbkkpdghaaaDoorRows
import Derived.Test.YtaolbbkkpdghaaaDoorRow
import Derived.LaidEql
import Derived.Stop.Asserts
import Derived.RowKitTokens
import Derived.Lib.Hide
namespace Go.Proofs.YtaolbbkkpdghaaaDoor
open Go.RowKit Go.Extern.Stop Go.Stop Go.Extern
set_option maxRecDepth 100000

theorem ei_typeOf (v : Value) (w : World) : (ReflectliteType.typeOf #[.iface 42 v]).run Tryd.prog w = .ok (.iface 93 (.agg #[.pointer (some ⟨1, 42, none⟩)])) w := by kernel_rfl
theorem ei_comparable (w : World) : ((ReflectliteType.method fun t => do Rtype.noPackHeld "Comparable" t; (fun a => Value.bool a.comparable) <$> typeInfo t) #[.agg #[.pointer (some ⟨1, 42, none⟩)]]).run Tryd.prog w = .ok (.bool true) w := by kernel_rfl
theorem ei_method (v : Value) (w : World) : (Go.method 253 93 v "Comparable").run Tryd.prog w = .ok (81, v) w := by kernel_rfl
theorem ei_noIs (v : Value) (xT : TypeId) (w : World) : (Instr.typeAssert (.iface 42 v) xT 95 true).run Tryd.prog w = .ok (.tuple #[.nilIface, .bool false]) w := run_typeAssert_lacksB Tryd.underlying95 (by kernel_rfl) (by kernel_rfl) v xT w
theorem ei_noUnwrap (v : Value) (xT : TypeId) (w : World) : (Instr.typeAssert (.iface 42 v) xT 98 true).run Tryd.prog w = .ok (.tuple #[.nilIface, .bool false]) w := run_typeAssert_lacksB Tryd.underlying98 (by kernel_rfl) (by kernel_rfl) v xT w
theorem ei_noUnwraps (v : Value) (xT : TypeId) (w : World) : (Instr.typeAssert (.iface 42 v) xT 99 true).run Tryd.prog w = .ok (.tuple #[.nilIface, .bool false]) w := run_typeAssert_lacksB Tryd.underlying99 (by kernel_rfl) (by kernel_rfl) v xT w

theorem ei_info : (Tryd.prog.info? 42).map (·.comparable) = some true := by kernel_rfl
theorem ei_eql (n m : Int) (w : World) : (binOp .eql 26 (.iface 42 (.int .i64 n)) (.iface 42 (.int .i64 m))).run Tryd.prog w = .ok (.bool (n == m)) w := by
  obtain ⟨i, hi, hcmp⟩ := Option.map_eq_some_iff.1 ei_info
  have h : ∀ d : Nat, (Op.equalIn (d + 2) 26 (.iface 42 (.int .i64 n)) (.iface 42 (.int .i64 m))).run Tryd.prog w = .ok (n == m) w := fun d => by
    simp [Op.equalIn, run_underlying Tryd.underlying26, run_underlying Tryd.underlying42, typeInfo, hi, hcmp]
  simp only [binOp]
  simp [Op.equal, Op.maxDepth, h 9998]

set_option maxHeartbeats 2000000 in
theorem is_errno (n m : Int) (w : World) :
    Calls Tryd.prog 14 #[.iface 42 (.int .i64 n), .iface 42 (.int .i64 m)] w fun e w' => e = .returned (.bool (n == m)) ∧ w' = w := by
  have x1 := @run_callFunc_extern Tryd.prog 25 _ ReflectliteType.typeOf Tryd.func25 (by kernel_rfl) (by kernel_rfl) (by kernel_rfl) (by kernel_rfl)
  have x2 := @run_callFunc_extern Tryd.prog 81 _ (ReflectliteType.method fun t => do Rtype.noPackHeld "Comparable" t; pure (.bool (← typeInfo t).comparable)) Tryd.func81 (by kernel_rfl) (by kernel_rfl) (by kernel_rfl) (by kernel_rfl)
  have y1 := ei_typeOf
  have y2 := ei_comparable
  have y3 := ei_method
  have y4 := ei_noIs
  have y5 := ei_noUnwrap
  have y6 := ei_noUnwraps
  have heq := ei_eql n m w
  by_cases h : n = m
  · have hb : (n == m) = true := by simpa using h
    rw [hb] at heq ⊢
    clear hb h
    go_enter Tryd.func14, Tryd.ntmps14
    go_wp2
    refine wp_loop_rounds 1 ?_
    rw [rounds_succ]
    go_wp2
    go_ret
    exact ⟨rfl, rfl⟩
  · have hb : (n == m) = false := by simpa using h
    rw [hb] at heq ⊢
    clear hb h
    go_enter Tryd.func14, Tryd.ntmps14
    go_wp2
    refine wp_loop_rounds 1 ?_
    rw [rounds_succ]
    go_wp2
    go_ret
    exact ⟨rfl, rfl⟩

theorem is_nil (m : Int) (w : World) :
    Calls Tryd.prog 14 #[.nilIface, .iface 42 (.int .i64 m)] w fun e w' => e = .returned (.bool false) ∧ w' = w := by
  have hn := run_eql_iface_nil_left (P := Tryd.prog) w 42 (.int .i64 m) Tryd.underlying26
  go_enter Tryd.func14, Tryd.ntmps14
  go_wp2
  go_ret
  exact ⟨rfl, rfl⟩

end Go.Proofs.YtaolbbkkpdghaaaDoor
