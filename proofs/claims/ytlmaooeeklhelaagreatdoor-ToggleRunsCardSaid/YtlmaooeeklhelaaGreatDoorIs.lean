/-
  errors.Is of an api.Errno and an api.Errno: whether they are one number; and of nil.
-/
import Derived.Test.YtlmaooeeklhelaaGreatDoorRows
import Derived.Test.YtlmaooeeklhelaaGreatDoorRow
import Derived.LaidEql
import Derived.Stop.Asserts
import Derived.RowKitTokens
import Derived.Lib.Hide
namespace Go.Proofs.YtlmaooeeklhelaaGreatDoor
open Go.RowKit Go.Extern.Stop Go.Stop Go.Extern
set_option maxRecDepth 100000

theorem ei_typeOf (v : Value) (w : World) : (ReflectliteType.typeOf #[.iface 65 v]).run Tryz.prog w = .ok (.iface 134 (.agg #[.pointer (some ⟨1, 65, none⟩)])) w := by kernel_rfl
theorem ei_comparable (w : World) : ((ReflectliteType.method fun t => do Rtype.noPackHeld "Comparable" t; (fun a => Value.bool a.comparable) <$> typeInfo t) #[.agg #[.pointer (some ⟨1, 65, none⟩)]]).run Tryz.prog w = .ok (.bool true) w := by kernel_rfl
theorem ei_method (v : Value) (w : World) : (Go.method 326 134 v "Comparable").run Tryz.prog w = .ok (141, v) w := by kernel_rfl
theorem ei_noIs (v : Value) (xT : TypeId) (w : World) : (Instr.typeAssert (.iface 65 v) xT 136 true).run Tryz.prog w = .ok (.tuple #[.nilIface, .bool false]) w := run_typeAssert_lacksB Tryz.underlying136 (by kernel_rfl) (by kernel_rfl) v xT w
theorem ei_noUnwrap (v : Value) (xT : TypeId) (w : World) : (Instr.typeAssert (.iface 65 v) xT 139 true).run Tryz.prog w = .ok (.tuple #[.nilIface, .bool false]) w := run_typeAssert_lacksB Tryz.underlying139 (by kernel_rfl) (by kernel_rfl) v xT w
theorem ei_noUnwraps (v : Value) (xT : TypeId) (w : World) : (Instr.typeAssert (.iface 65 v) xT 140 true).run Tryz.prog w = .ok (.tuple #[.nilIface, .bool false]) w := run_typeAssert_lacksB Tryz.underlying140 (by kernel_rfl) (by kernel_rfl) v xT w

theorem ei_info : (Tryz.prog.info? 65).map (·.comparable) = some true := by kernel_rfl
theorem ei_eql (n m : Int) (w : World) : (binOp .eql 27 (.iface 65 (.int .i64 n)) (.iface 65 (.int .i64 m))).run Tryz.prog w = .ok (.bool (n == m)) w := by
  obtain ⟨i, hi, hcmp⟩ := Option.map_eq_some_iff.1 ei_info
  have h : ∀ d : Nat, (Op.equalIn (d + 2) 27 (.iface 65 (.int .i64 n)) (.iface 65 (.int .i64 m))).run Tryz.prog w = .ok (n == m) w := fun d => by
    simp [Op.equalIn, run_underlying Tryz.underlying27, run_underlying Tryz.underlying65, typeInfo, hi, hcmp]
  simp only [binOp]
  simp [Op.equal, Op.maxDepth, h 9998]

set_option maxHeartbeats 2000000 in
theorem is_errno (n m : Int) (w : World) :
    Calls Tryz.prog 34 #[.iface 65 (.int .i64 n), .iface 65 (.int .i64 m)] w fun e w' => e = .returned (.bool (n == m)) ∧ w' = w := by
  have x1 := @run_callFunc_extern Tryz.prog 51 _ ReflectliteType.typeOf Tryz.func51 (by kernel_rfl) (by kernel_rfl) (by kernel_rfl) (by kernel_rfl)
  have x2 := @run_callFunc_extern Tryz.prog 141 _ (ReflectliteType.method fun t => do Rtype.noPackHeld "Comparable" t; pure (.bool (← typeInfo t).comparable)) Tryz.func141 (by kernel_rfl) (by kernel_rfl) (by kernel_rfl) (by kernel_rfl)
  have y1 := ei_typeOf
  have y2 := ei_comparable
  have y3 := ei_method
  have y4 := ei_noIs
  have y5 := ei_noUnwrap
  have y6 := ei_noUnwraps
  have heq := ei_eql n m w
  by_cases h : n = m
  · have hb : (n == m) = true := by simpa using h
    rw [hb] at heq ⊢
    clear hb h
    go_enter Tryz.func34, Tryz.ntmps34
    go_wp2
    refine wp_loop_rounds 1 ?_
    rw [rounds_succ]
    go_wp2
    go_ret
    exact ⟨rfl, rfl⟩
  · have hb : (n == m) = false := by simpa using h
    rw [hb] at heq ⊢
    clear hb h
    go_enter Tryz.func34, Tryz.ntmps34
    go_wp2
    refine wp_loop_rounds 1 ?_
    rw [rounds_succ]
    go_wp2
    go_ret
    exact ⟨rfl, rfl⟩

theorem is_nil (m : Int) (w : World) :
    Calls Tryz.prog 34 #[.nilIface, .iface 65 (.int .i64 m)] w fun e w' => e = .returned (.bool false) ∧ w' = w := by
  have hn := run_eql_iface_nil_left (P := Tryz.prog) w 65 (.int .i64 m) Tryz.underlying27
  go_enter Tryz.func34, Tryz.ntmps34
  go_wp2
  go_ret
  exact ⟨rfl, rfl⟩

end Go.Proofs.YtlmaooeeklhelaaGreatDoor
