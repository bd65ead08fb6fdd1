import Derived.Test.YtlmaooeeklhelaaGreatDoorRows
import Derived.Test.YtlmaooeeklhelaaGreatDoorRow
import Derived.LaidEql
import Derived.Stop.Asserts
import Derived.RowKitTokens
import Derived.Lib.Hide
import Derived.ProofKit
import Derived.Deep.Slices
import Derived.ChangeVars
import Derived.JoinedOf
import Derived.LaidLaws
import Derived.LaidHandle
import Derived.Stop.Joined
import Derived.Test.YtlmaooeeklhelaaGreatDoorTgWholeF
import Derived.Test.YtlmaooeeklhelaaGreatDoorTgTxts
import Derived.Test.YtlmaooeeklhelaaGreatDoorPkOpen
import Derived.Lib.SmallJoins
import Derived.OpenShut
/-
  errors.As at a target *api.Errno, and the laws' own 'num': the number of an error that is nil or an api.Errno.
-/
namespace Go.Proofs.YtlmaooeeklhelaaGreatDoor
open Go.RowKit Go.Extern.Stop Go.Stop Go.Extern
set_option maxRecDepth 100000

/-- A type's handle. -/
def hnd (t : Nat) : Value := .pointer (some ⟨1, t, none⟩)
/-- The cell that errors.As reads. -/
def ErrCell (w : World) : Prop := w.cell? ⟨0, 0, none⟩ = some (.iface 134 (.agg #[hnd 27]))

theorem as_nil (t : Value) (w : World) : Calls Tryz.prog 45 #[.nilIface, t] w fun e w' => e = .returned (.bool false) ∧ w' = w := by
  go_enter Tryz.func45, Tryz.ntmps45
  go_wp2
  go_ret
  exact ⟨rfl, rfl⟩

theorem nm_valueP (t : Addr) (w : World) : (ReflectliteValue.unpack (.iface 93 (.pointer (some t)))).run Tryz.prog w
    = .ok (.agg #[.pointer (some ⟨1, 93, none⟩), .pointer (some ⟨w.heap.size, 0, none⟩), .int .u64 150]) (w.alloc (.cells #[.pointer (some t)] 93)) := by kernel_rfl
theorem nm_typeP (a : Addr) (w : World) : (ReflectliteValue.methodAny (ReflectliteValue.valueError "reflectlite.Value.Type" 0) (fun t _ _ _ => ReflectliteType.toType t) #[.agg #[.pointer (some ⟨1, 93, none⟩), .pointer (some a), .int .u64 150]]).run Tryz.prog w
    = .ok (.iface 134 (.agg #[.pointer (some ⟨1, 93, none⟩)])) w := by kernel_rfl
theorem nm_kindP (w : World) : ((ReflectliteType.abiMethod fun t => (fun a : Nat => Value.int IntKind.u8 (a : Int)) <$> Rtype.kind t) #[.pointer (some ⟨1, 93, none⟩)]).run Tryz.prog w = .ok (.int .u8 22) w := by kernel_rfl
theorem nm_kindE (w : World) : ((ReflectliteType.abiMethod fun t => (fun a : Nat => Value.int IntKind.u8 (a : Int)) <$> Rtype.kind t) #[.pointer (some ⟨1, 65, none⟩)]).run Tryz.prog w = .ok (.int .u8 2) w := by kernel_rfl

theorem nm_method1 (z : Sem Value) (f : TypeId → Addr → Nat → Nat → Sem Value) (v : Value) (t : TypeId) (a : Addr) (fl : Nat) (w : World) (h : (ReflectliteValue.parts v).run Tryz.prog w = .ok (some (t, a, fl)) w) :
    (ReflectliteValue.method z f #[v]).run Tryz.prog w = (f t a fl (fl % 32)).run Tryz.prog w := by
  change (ReflectliteValue.parts v >>= ?k).run _ _ = _
  rw [Sem.run_bind, h]
  rfl
theorem nm_partsP (a : Addr) (w : World) : (ReflectliteValue.parts (.agg #[.pointer (some ⟨1, 93, none⟩), .pointer (some a), .int .u64 150])).run Tryz.prog w = .ok (some (93, a, 150)) w := by kernel_rfl
theorem nm_isNil (a p : Addr) (W : World) (ha : W.cell? a = some (.pointer (some p))) :
    (ReflectliteValue.method (ReflectliteValue.valueError "reflectlite.Value.IsNil" 0) ReflectliteValue.isNil #[.agg #[.pointer (some ⟨1, 93, none⟩), .pointer (some a), .int .u64 150]]).run Tryz.prog W = .ok (.bool false) W := by
  rw [nm_method1 _ _ _ _ _ _ _ (nm_partsP a W)]
  simp [ReflectliteValue.isNil, loadVar, isAgg, underlying, Tryz.underlying93, ha, Result.andThen]

theorem nm_mKind (h : Value) (w : World) : (Go.method 326 134 (.agg #[h]) "Kind").run Tryz.prog w = .ok (132, h) w := by kernel_rfl
theorem nm_mElem (h : Value) (w : World) : (Go.method 326 134 (.agg #[h]) "Elem").run Tryz.prog w = .ok (142, .agg #[h]) w := by kernel_rfl
theorem nm_mImpl (h : Value) (w : World) : (Go.method 326 134 (.agg #[h]) "Implements").run Tryz.prog w = .ok (143, .agg #[h]) w := by kernel_rfl
theorem nm_mAssign (h : Value) (w : World) : (Go.method 326 134 (.agg #[h]) "AssignableTo").run Tryz.prog w = .ok (140, .agg #[h]) w := by kernel_rfl
theorem nm_elemP (w : World) : (ReflectliteType.method ReflectliteType.elem #[.agg #[.pointer (some ⟨1, 93, none⟩)]]).run Tryz.prog w = .ok (.iface 134 (.agg #[.pointer (some ⟨1, 65, none⟩)])) w := by kernel_rfl
theorem nm_implE (w : World) : (ReflectliteType.relation "Implements" ReflectliteType.implements_ #[.agg #[.pointer (some ⟨1, 65, none⟩)], .iface 134 (.agg #[.pointer (some ⟨1, 27, none⟩)])]).run Tryz.prog w = .ok (.bool true) w := by kernel_rfl
theorem nm_typeOfE (v : Value) (w : World) : (ReflectliteType.typeOf #[.iface 65 v]).run Tryz.prog w = .ok (.iface 134 (.agg #[.pointer (some ⟨1, 65, none⟩)])) w := by kernel_rfl
theorem nm_assignE (w : World) : (ReflectliteType.relation "AssignableTo" ReflectliteType.assignableTo #[.agg #[.pointer (some ⟨1, 65, none⟩)], .iface 134 (.agg #[.pointer (some ⟨1, 65, none⟩)])]).run Tryz.prog w = .ok (.bool true) w := by kernel_rfl
theorem nm_valueE (n : Int) (w : World) : (ReflectliteValue.unpack (.iface 65 (.int .i64 n))).run Tryz.prog w
    = .ok (.agg #[.pointer (some ⟨1, 65, none⟩), .pointer (some ⟨w.heap.size, 0, none⟩), .int .u64 130]) (w.alloc (.cells #[.int .i64 n] 65)) := by kernel_rfl
theorem nm_elemOf (w : World) : (Rtype.elem? 93).run Tryz.prog w = .ok (some 65) w := by kernel_rfl
theorem nm_mkE (p : Addr) (w : World) : (ReflectliteValue.mk 65 p ReflectliteValue.flagAddr).run Tryz.prog w = .ok (.agg #[.pointer (some ⟨1, 65, none⟩), .pointer (some p), .int .u64 386]) w := by kernel_rfl
theorem nm_elemV (a p : Addr) (W : World) (ha : W.cell? a = some (.pointer (some p))) :
    (ReflectliteValue.method (ReflectliteValue.valueError "reflectlite.Value.Elem" 0) ReflectliteValue.elem #[.agg #[.pointer (some ⟨1, 93, none⟩), .pointer (some a), .int .u64 150]]).run Tryz.prog W
      = .ok (.agg #[.pointer (some ⟨1, 65, none⟩), .pointer (some p), .int .u64 386]) W := by
  rw [nm_method1 _ _ _ _ _ _ _ (nm_partsP a W)]
  simp [ReflectliteValue.elem, loadVar, isAgg, underlying, Tryz.underlying93, ha, Result.andThen, nm_elemOf, nm_mkE]
theorem nm_partsA (a : Addr) (w : World) : (ReflectliteValue.parts (.agg #[.pointer (some ⟨1, 65, none⟩), .pointer (some a), .int .u64 386])).run Tryz.prog w = .ok (some (65, a, 386)) w := by kernel_rfl
theorem nm_partsE (a : Addr) (w : World) : (ReflectliteValue.parts (.agg #[.pointer (some ⟨1, 65, none⟩), .pointer (some a), .int .u64 130])).run Tryz.prog w = .ok (some (65, a, 130)) w := by kernel_rfl
theorem nm_direct (w : World) : (Rtype.directlyAssignable 65 65).run Tryz.prog w = .ok true w := by kernel_rfl
theorem nm_size (w : World) : (sizeOf 65).run Tryz.prog w = .ok 1 w := by kernel_rfl
theorem nm_set (ta b : Addr) (n : Int) (old : Value) (W : World) (hb : W.cell? b = some (.int .i64 n)) (ht : W.cell? ta = some old) (hf : W.frozen? ta = false) :
    (ReflectliteValue.set #[.agg #[.pointer (some ⟨1, 65, none⟩), .pointer (some ta), .int .u64 386], .agg #[.pointer (some ⟨1, 65, none⟩), .pointer (some b), .int .u64 130]]).run Tryz.prog W
      = .ok (.tuple #[]) (W.setCell ta (.int .i64 n)) := by
  change (ReflectliteValue.parts (.agg #[.pointer (some ⟨1, 65, none⟩), .pointer (some ta), .int .u64 386]) >>= ?k).run _ _ = _
  rw [Sem.run_bind, nm_partsA]
  change (ReflectliteValue.parts (.agg #[.pointer (some ⟨1, 65, none⟩), .pointer (some b), .int .u64 130]) >>= ?k2).run _ _ = _
  rw [Sem.run_bind, nm_partsE]
  simp only [Result.andThen]
  simp [ReflectliteValue.flagAddr, loadVar, isAgg, underlying, Tryz.underlying65, hb, Result.andThen, nm_direct, storeVar, Value.cells, storeCells, Addr.add]
  rw [run_store Tryz.prog W ta _ _ (by rfl)]
  simp [ht, hf]

set_option maxHeartbeats 4000000 in
theorem as_hit (n : Int) (t : Addr) (old : Value) (w : World) (hg : ErrCell w) (ht0 : w.cell? t = some old) (hf0 : w.frozen? t = false) :
    Calls Tryz.prog 45 #[.iface 65 (.int .i64 n), .iface 93 (.pointer (some t))] w fun ev w' => ev = .returned (.bool true) ∧ w' = ((((w.alloc (.cells #[.pointer (some t)] 93)).alloc (.cells #[.pointer (some ⟨1, 93, none⟩), .pointer (some ⟨w.heap.size, 0, none⟩), .int .u64 150] 121)).alloc (.cells #[.pointer (some ⟨1, 93, none⟩), .pointer (some ⟨w.heap.size, 0, none⟩), .int .u64 150] 121)).alloc (.cells #[.int .i64 n] 65)).setCell t (.int .i64 n) := by
  have x1 := @run_callFunc_extern Tryz.prog 64 _ (fun args => ReflectliteValue.unpack (args.getD 0 (.tuple #[]))) Tryz.func64 (by kernel_rfl) (by kernel_rfl) (by kernel_rfl) (by kernel_rfl)
  have x2 := @run_callFunc_extern Tryz.prog 65 _ (ReflectliteValue.methodAny (ReflectliteValue.valueError "reflectlite.Value.Type" 0) (fun t _ _ _ => ReflectliteType.toType t)) Tryz.func65 (by kernel_rfl) (by kernel_rfl) (by kernel_rfl) (by kernel_rfl)
  have x3 := @run_callFunc_extern Tryz.prog 66 _ (ReflectliteValue.method (ReflectliteValue.valueError "reflectlite.Value.IsNil" 0) ReflectliteValue.isNil) Tryz.func66 (by kernel_rfl) (by kernel_rfl) (by kernel_rfl) (by kernel_rfl)
  have x4 := @run_callFunc_extern Tryz.prog 132 _ (ReflectliteType.abiMethod fun t => do pure (.int .u8 (← Rtype.kind t))) Tryz.func132 (by kernel_rfl) (by kernel_rfl) (by kernel_rfl) (by kernel_rfl)
  have x5 := @run_callFunc_extern Tryz.prog 142 _ (ReflectliteType.method ReflectliteType.elem) Tryz.func142 (by kernel_rfl) (by kernel_rfl) (by kernel_rfl) (by kernel_rfl)
  have x6 := @run_callFunc_extern Tryz.prog 143 _ (ReflectliteType.relation "Implements" ReflectliteType.implements_) Tryz.func143 (by kernel_rfl) (by kernel_rfl) (by kernel_rfl) (by kernel_rfl)
  have x7 := @run_callFunc_extern Tryz.prog 51 _ ReflectliteType.typeOf Tryz.func51 (by kernel_rfl) (by kernel_rfl) (by kernel_rfl) (by kernel_rfl)
  have x8 := @run_callFunc_extern Tryz.prog 140 _ (ReflectliteType.relation "AssignableTo" ReflectliteType.assignableTo) Tryz.func140 (by kernel_rfl) (by kernel_rfl) (by kernel_rfl) (by kernel_rfl)
  have x9 := @run_callFunc_extern Tryz.prog 84 _ (ReflectliteValue.method (ReflectliteValue.valueError "reflectlite.Value.Elem" 0) ReflectliteValue.elem) Tryz.func84 (by kernel_rfl) (by kernel_rfl) (by kernel_rfl) (by kernel_rfl)
  have x10 := @run_callFunc_extern Tryz.prog 85 _ ReflectliteValue.set Tryz.func85 (by kernel_rfl) (by kernel_rfl) (by kernel_rfl) (by kernel_rfl)
  have y1 := nm_typeOfE
  have y2 := nm_mAssign
  have y3 := nm_assignE
  have y4 := nm_valueE
  have y5 := nm_valueP
  have y6 := nm_typeP
  have y7 := nm_mKind
  have y8 := nm_mElem
  have y9 := nm_mImpl
  have y10 := nm_kindP
  have y11 := nm_kindE
  have y12 := nm_elemP
  have y13 := nm_implE
  have z1 := nm_isNil ⟨w.heap.size, 0, none⟩ t ((w.alloc (.cells #[.pointer (some t)] 93)).alloc (.cells #[.pointer (some ⟨1, 93, none⟩), .pointer (some ⟨w.heap.size, 0, none⟩), .int .u64 150] 121)) (by simp)
  have hlt : 0 < w.heap.size := World.block_lt_of_cell? w ⟨0, 0, none⟩ hg
  have hg2 : ((w.alloc (.cells #[.pointer (some t)] 93)).alloc (.cells #[.pointer (some ⟨1, 93, none⟩), .pointer (some ⟨w.heap.size, 0, none⟩), .int .u64 150] 121)).cell? ⟨0, 0, none⟩ = some (.iface 134 (.agg #[.pointer (some ⟨1, 27, none⟩)])) := by
    rw [World.cell?_alloc_lt _ _ ⟨0, 0, none⟩ (by simp <;> omega), World.cell?_alloc_lt _ _ ⟨0, 0, none⟩ hlt]; exact hg
  have htl : t.block < w.heap.size := World.block_lt_of_cell? w t ht0
  have z2 := nm_elemV ⟨w.heap.size, 0, none⟩ t (((w.alloc (.cells #[.pointer (some t)] 93)).alloc (.cells #[.pointer (some ⟨1, 93, none⟩), .pointer (some ⟨w.heap.size, 0, none⟩), .int .u64 150] 121)).alloc (.cells #[.pointer (some ⟨1, 93, none⟩), .pointer (some ⟨w.heap.size, 0, none⟩), .int .u64 150] 121)) (by rw [World.cell?_alloc_lt _ _ ⟨w.heap.size, 0, none⟩ (by simp; omega)]; simp)
  have z3 := nm_set t ⟨w.heap.size + 1 + 1 + 1, 0, none⟩ n old ((((w.alloc (.cells #[.pointer (some t)] 93)).alloc (.cells #[.pointer (some ⟨1, 93, none⟩), .pointer (some ⟨w.heap.size, 0, none⟩), .int .u64 150] 121)).alloc (.cells #[.pointer (some ⟨1, 93, none⟩), .pointer (some ⟨w.heap.size, 0, none⟩), .int .u64 150] 121)).alloc (.cells #[.int .i64 n] 65))
    (by rw [World.cell?_alloc_at _ _ _ _ (by simp)]; rfl)
    (by rw [World.cell?_alloc_lt _ _ t (by simp; omega), World.cell?_alloc_lt _ _ t (by simp; omega), World.cell?_alloc_lt _ _ t (by simp; omega), World.cell?_alloc_lt _ _ t htl]; exact ht0)
    (by rw [World.frozen?_alloc_old _ _ t (by simp; omega), World.frozen?_alloc_old _ _ t (by simp; omega), World.frozen?_alloc_old _ _ t (by simp; omega), World.frozen?_alloc_old _ _ t (Nat.ne_of_lt htl)]; exact hf0)
  clear hg
  go_enter Tryz.func45, Tryz.ntmps45
  go_wp2
  refine wp_loop_rounds 1 ?_
  rw [rounds_succ]
  go_wp2
  go_ret
  exact ⟨rfl, rfl⟩

/-- errors.As sets the target, and nothing else that there was. -/
theorem as_sets (n : Int) (t : Addr) (old : Value) (w : World) (hg : ErrCell w) (ht0 : w.cell? t = some old) (hf0 : w.frozen? t = false) :
    Calls Tryz.prog 45 #[.iface 65 (.int .i64 n), .iface 93 (.pointer (some t))] w fun ev w' => ev = .returned (.bool true) ∧ w'.cell? t = some (.int .i64 n) ∧ Stay (· = t.block) w w' := by
  refine (as_hit n t old w hg ht0 hf0).mono ?_
  rintro e w' ⟨rfl, rfl⟩
  have htl : t.block < w.heap.size := World.block_lt_of_cell? w t ht0
  refine ⟨rfl, World.cell?_setCell_same _ _ _ (u := old) ?_, (((Stay.alloc _ _).trans (Stay.alloc _ _)).trans (Stay.alloc _ _)).trans (Stay.alloc _ _) |>.trans (Stay.setCell _ _ _ rfl)⟩
  rw [World.cell?_alloc_lt _ _ t (by simp; omega), World.cell?_alloc_lt _ _ t (by simp; omega), World.cell?_alloc_lt _ _ t (by simp; omega), World.cell?_alloc_lt _ _ t htl]; exact ht0

set_option maxHeartbeats 1000000 in
/-- num(nil) = 0. -/
theorem num_nil (w : World) : Calls Tryz.prog 21 #[.nilIface] w fun e w' => e = .returned (.int .i64 0) ∧ Stay (fun _ => False) w w' := by
  go_enter Tryz.func21, Tryz.ntmps21
  go_wp2_with fail
  go_ret
  exact ⟨rfl, Stay.alloc _ _⟩

set_option maxHeartbeats 1000000 in
/-- num of an api.Errno is its number. -/
theorem num_errno (n : Int) (w : World) (hg : ErrCell w) : Calls Tryz.prog 21 #[.iface 65 (.int .i64 n)] w fun e w' => e = .returned (.int .i64 n) ∧ Stay (fun _ => False) w w' := by
  have hlt : 0 < w.heap.size := World.block_lt_of_cell? w ⟨0, 0, none⟩ hg
  have hg2 : ErrCell (w.alloc (.cells #[.int .i64 0] 65)) := (World.cell?_alloc_lt w _ ⟨0, 0, none⟩ hlt).trans hg
  have HG2 := Lib.hid hg2
  clear hg hg2
  go_enter Tryz.func21, Tryz.ntmps21
  go_wp2_with fail
  refine (as_sets n ⟨w.heap.size, 0, none⟩ (.int .i64 0) _ HG2.out (by simp) (by simp)).mono ?_
  rintro e w' ⟨rfl, hc, hs⟩
  have hs' : Stay (fun _ => False) w w' := (Stay.alloc (X := fun _ => False) w _).andThen hs (fun k hk e => by
    have e' : k = w.heap.size := e
    omega)
  clear hs
  go_wp2
  go_ret
  exact ⟨rfl, hs'⟩

end Go.Proofs.YtlmaooeeklhelaaGreatDoor

/-
  How a law's row is closed: 'true', and below the old heap's end nothing has turned.
-/
namespace Go.Proofs.YtlmaooeeklhelaaGreatDoor
open Go.ChangeShapes Go.WideShapes Go.ChangeAt Go.RowKit

theorem Tryz.own : ownKnob Tryz.prog.godebug = none := by kernel_rfl
theorem Tryz.laidOut : laidOutB Tryz.prog = true := by kernel_rfl

section
variable {H : Type} {enc : TypeId × Value → H} {P : Program}

/-- Arguments of whatever types read behind the call as they did. -/
theorem args_stay (hl : laidOutB P = true) {W W' : World} (hb : Below W.heap.size W W') : ∀ (ts : List TypeId) (vs : List Value) (ds : List (DataW H)) (ps : List MemPlace),
    (∀ t ∈ ts, P.readableRec t = true ∧ t < P.types.size) → DataW.TrodAll enc P W 0 (fun _ => true) true ts vs ds ps → (∀ x ∈ ps, x.block < W.heap.size) →
    DataW.TrodAll enc P W' 0 (fun b => decide (b < W.heap.size)) true ts vs ds ps
  | [], vs, ds, ps, _, h, _ => by
    obtain ⟨rfl, rfl, rfl⟩ := trodAll_nil h
    exact trodAll_mk0
  | t :: ts, vs, ds, ps, ht, h, hlt => by
    obtain ⟨v, vs', d, ds', p, q, rfl, rfl, rfl, hd, hr⟩ := trodAll_cons h
    have h1 := Below.trod hl (ht t (by simp)).1 (ht t (by simp)).2 hd hb (fun x hx => hlt x (by simp [hx]))
    have h2 := args_stay hl hb ts vs' ds' q (fun t' ht' => ht t' (by simp [ht'])) hr (fun x hx => hlt x (by simp [hx]))
    exact ⟨p, q, h1, h2, rfl⟩

/-- What a law's row asks behind the call. -/
theorem law_post (hl : laidOutB P = true) {f : Func} {s : ChangeSpec} {W W' : World} {args : Array Value} {ds : List (DataW H)} {before : List MemPlace} {tb : TypeId}
    (hW : DataW.Whole enc P f.params.toList s.vars false W args.toList ds [] before) (hA : DataW.TrodAll enc P W 0 (fun _ => true) true f.params.toList args.toList ds before)
    (hts : ∀ t ∈ f.params.toList, P.readableRec t = true ∧ t < P.types.size) (hv : s.vars = []) (hr : (s.fn H (ds ++ [])).results = [.lit (.bool true)]) (ha : (s.fn H (ds ++ [])).args = ds) (hvs : (s.fn H (ds ++ [])).vars = [])
    (hres : f.resultTypes = #[tb]) (htb : P.underlying tb = some .bool) (hb : Below W.heap.size W W') : s.post enc P f false true false false W args (.bool true) W' := by
  have hlt : ∀ x ∈ before, x.block < W.heap.size := fun x hx => hW.lt x hx
  refine ⟨ds, [], before, [], before, [], hW, ?_, ?_, ?_, hb.frame _, fun h => by cases h⟩
  · rw [hr, hres]; exact trodAll_mk1 (shut_bool htb true)
  · rw [ha]; exact args_stay hl hb _ _ _ _ hts hA hlt
  · rw [hvs, hv]; rfl
end

end Go.Proofs.YtlmaooeeklhelaaGreatDoor

/-
  What a law over errors.As wants beside its walk: the variable errors.errorType by its handle; a world that meets the condition; bytes that come in as an argument.
-/
namespace Go.Proofs.YtlmaooeeklhelaaGreatDoor
open Go.ChangeShapes Go.WideShapes Go.ChangeAt Go.RowKit Go.Deep
set_option maxRecDepth 100000

theorem et_at : Tryz.prog.globalNamed "errors.errorType" = some 0 := by kernel_rfl
theorem rt_at : (Tryz.prog.cutTypes.find? (·.1 == "internal/reflectlite.rtype")).map (·.2) = some 134 := by kernel_rfl
theorem oneRow : ((List.range Tryz.prog.types.size).filter fun t => Tryz.prog.rowNamed t [101, 114, 114, 111, 114]) = [27] := by kernel_rfl

/-- What the rows list. -/
def laidErr : List (String × DataW Unit) := [("errors.errorType", Rows.laid_errors_errorType)]

/-- What the condition gives a walk: the variable's one cell. -/
theorem err_of_laid {W : World} (h : laidMetH Tryz.prog laidErr W) : ErrCell W := by
  have h' : laidMet Tryz.prog [] W ∧ handlesMet Tryz.prog laidErr W := h
  obtain ⟨name, u, ty, e1, e2, e3, e4, e5⟩ := h'.2 _ (List.mem_singleton.2 rfl)
  have en : name = [101, 114, 114, 111, 114] := (Option.some.inj e1).symm
  subst en
  obtain rfl := Option.some.inj (rt_at.symm.trans e2)
  have hm : ty ∈ (List.range Tryz.prog.types.size).filter fun t => Tryz.prog.rowNamed t [101, 114, 114, 111, 114] := List.mem_filter.2 ⟨List.mem_range.2 e3, e4⟩
  rw [oneRow] at hm
  obtain rfl := List.mem_singleton.1 hm
  have hh : typeHandle Tryz.prog 27 = .pointer (some ⟨1, 27, none⟩) := by kernel_rfl
  rw [hh] at e5
  unfold ErrCell hnd
  simpa using World.var?_cell et_at e5 0

/-- A world that meets the condition: the settled one, with the variable's cell laid. -/
noncomputable def laidWorld (os : Os) : World :=
  let w0 := World.holding Tryz.prog os ⟨#[], #[], []⟩
  { w0 with heap := w0.heap.modify 0 fun
      | .cells _ t frozen => .cells #[.iface 134 (.agg #[.pointer (some ⟨1, 27, none⟩)])] t frozen
      | o => o }
theorem laidWorld_met (os : Os) (args : Array Value) : laidMetH Tryz.prog laidErr ((laidWorld os).forCall (fun _ _ => 0) ⟨#[], args, []⟩).memory :=
  laidMetH_of_parts (laidMet_nil _ _) (by kernel_rfl)

theorem ErrCell.stay {X : Nat → Prop} {w w' : World} (h : ErrCell w) (hs : Stay X w w') (hx : ¬ X 0) : ErrCell w' := hs.cell h hx
theorem ErrCell.stay0 {w w' : World} (h : ErrCell w) (hs : Stay (fun _ => False) w w') : ErrCell w' := hs.cell h (fun x => x)

theorem num_any (c : Nat) (w : World) (hg : ErrCell w) (v : Value) (hv : v = if c = 0 then .nilIface else .iface 65 (.int .i64 (c : Int))) : Calls Tryz.prog 21 #[v] w fun e w' => e = .returned (.int .i64 (c : Int)) ∧ Stay (fun _ => False) w w' := by
  subst hv
  by_cases h : c = 0
  · subst h
    exact num_nil w
  · rw [if_neg h]
    exact num_errno (c : Int) w hg

end Go.Proofs.YtlmaooeeklhelaaGreatDoor

/-
  ToggleWhole, ahead of its walk: how a save ends; what holds between two rounds.
-/
namespace Go.Proofs.YtlmaooeeklhelaaGreatDoor.Tg
open Go.RowKit Pk
set_option maxRecDepth 100000

theorem mod9 (x : Int) : ∃ k : Nat, k < 9 ∧ wrap64 ((IntKind.u64.wrap x).tmod 9) = (k : Int) := by
  have h0 : 0 ≤ IntKind.u64.wrap x := wrap_u64_nonneg x
  rw [Int.tmod_eq_emod_of_nonneg h0]
  have h1 : 0 ≤ IntKind.u64.wrap x % 9 := Int.emod_nonneg _ (by decide)
  have h2 : IntKind.u64.wrap x % 9 < 9 := Int.emod_lt_of_pos _ (by decide)
  refine ⟨(IntKind.u64.wrap x % 9).toNat, by omega, ?_⟩
  generalize IntKind.u64.wrap x % 9 = y at *
  unfold wrap64
  omega

theorem downs_is (w : World) (pd ps pm : Nat) (d : DS) (b : Bool) (h : DevAt w pd ps pm d) (hb : (d.cr || d.lo) = b) :
    Calls Tryz.prog 25 #[.pointer (some ⟨pd, 0, none⟩)] w fun e w' => e = .returned (.bool b) ∧ w = w' := by rw [← hb]; exact down_any w pd ps pm d h

theorem started_ok {d : DS} {K : Int} (h : DOk d K) (ks : List Bool) : DOk (d.started ks) K := ⟨h.w0, h.wk, fun e => by cases e⟩
theorem armed_ok {d : DS} {K : Int} (h : DOk d K) (k : Nat) (hk : k < 9) : DOk { d with ar := true, left := (k : Int) } K := ⟨h.w0, h.wk, fun _ => ⟨by show (0 : Int) ≤ (k : Int); omega, by show (k : Int) ≤ _; omega⟩⟩
theorem wide_started {d : DS} {n : Nat} (h : Wide d.s) (hL : WideL d.L n) (hn : d.n = n) (ks : List Bool) : ∀ j, ((d.started ks).s j).length = 64 := by
  subst hn
  exact stepS_wide h hL _ ks _

/-- How a save into an area of ten sectors ends, armed or not. -/
theorem save_whole (w : World) (pd ps pm : Nat) (d : DS) (o : Option (List UInt8)) (n : Nat) (x : Value) (l : List UInt8) (K : Int) (h : DevAt w pd ps pm d) (hok : DOk d K) (hK : K ≤ 400000) (hx : Txt w pd ps pm x l) (hh : Holds d 1 10 o n) (hn : n ≤ 20) :
    Calls Tryz.prog 17 #[.pointer (some ⟨pd, 0, none⟩), .agg #[.int .i64 1, .int .i64 10], x] w fun e w' => ∃ sv, e = .returned sv ∧ Stay (own pd ps pm) w w' ∧ ∃ d', DevAt w' pd ps pm d' ∧ DOk d' (K + 20000) ∧
      ((l.length ≤ 256 ∧ sv = .nilIface ∧ Holds d' 1 10 (some l) (n + 1)) ∨ (256 < l.length ∧ sv = .iface 65 (.int .i64 2) ∧ Holds d' 1 10 o n) ∨
        (sv = .iface 65 (.int .i64 13) ∧ d'.cr = true ∧ d'.lo = false ∧ ∀ ks, Holds (d'.started ks) 1 10 o n)) := by
  refine (save_any w pd ps pm d 1 10 x l h (hok.mono (by omega)) hx ⟨by omega, by omega⟩ ⟨by omega, by omega⟩).mono ?_
  rintro e w' ⟨rfl, hd, hs⟩
  refine ⟨_, rfl, hs, _, hd, save_ok hok 1 10 l, ?_⟩
  by_cases hl : l.length ≤ 256
  · rcases save_shape hh (show n < topN by unfold topN; omega) l (by omega) with ⟨q0, qh, _⟩ | ⟨q0, _, qc, ql, qn, qw, qa⟩
    · refine .inl ⟨hl, ?_, qh⟩
      have q0' : (saveD d 1 10 l).2 = 0 := q0
      rw [q0']; rfl
    · refine .inr (.inr ⟨?_, qc, ql, fun ks => ?_⟩)
      · have q0' : (saveD d 1 10 l).2 = 13 := q0
        rw [q0']; rfl
      · exact started_holds (d := d) ks ql qn (wide_started (fun j => qw j) hd.map.1 rfl ks) qa
  · have hlong := save_long hh l (show 64 * ((10 - 1) / 2) < l.length by omega)
    have hlong' : saveD d 1 10 l = (d, 2) := hlong
    rw [hlong']
    exact .inr (.inl ⟨by omega, rfl, hh⟩)

/-- What is told, where the device holds none. -/
theorem load_none0 (w : World) (pd ps pm : Nat) (d : DS) (f s n : Nat) (h : DevAt w pd ps pm d) (hh : Holds d f s none n) :
    Calls Tryz.prog 19 #[.pointer (some ⟨pd, 0, none⟩), areaV (f : Int) (s : Int)] w fun e w' => ∃ v, e = .returned (.tuple #[v, .int .u64 0, .iface 65 (.int .i64 8)]) ∧ Owns w.heap.size w' v [] ∧ Stay (fun _ => False) w w' := by
  have h1 := hh.s3
  have h2 := hh.fn
  have h3 := hh.n2
  have hl := load_any w pd ps pm d f s h ⟨by omega, by omega⟩ ⟨by omega, by omega⟩
  rw [hh.load_none] at hl
  exact hl

/-- What holds between two rounds. -/
structure WholeInv (w2 : World) (pd ps pm : Nat) (i : Nat) (ov iv : Value) (wr : World) (d : DS) (o : Option (List UInt8)) (n : Nat) : Prop where
  ho : ov = strV (o.getD [])
  hi : iv = .bool o.isSome
  at_ : DevAt wr pd ps pm d
  ok : DOk d (20000 * (i : Int))
  h : Holds d 1 10 o n
  le : n ≤ i
  st : Stay (own pd ps pm) w2 wr

theorem bytesK : Tryz.prog.bytesOf 4 = 1 := by kernel_rfl

end Go.Proofs.YtlmaooeeklhelaaGreatDoor.Tg

/-
  Acts that come in as an argument.
-/
namespace Go.Proofs.YtlmaooeeklhelaaGreatDoor.Tg
open Go.ChangeShapes Go.WideShapes Go.ChangeAt Go.RowKit Go.Deep Pk
set_option maxRecDepth 100000

/-- An act: its kind, its place, its text, its marks. -/
structure Ac where
  k : Int
  n : Int
  x : Value
  b : List UInt8
  y : Value
  ks : List Bool
instance : Inhabited Ac := ⟨⟨0, 0, .slice none 0 0, [], .slice none 0 0, []⟩⟩
structure Ac.Ok (w : World) (t : Ac) : Prop where
  n1 : -9223372036854775808 ≤ t.n
  n2 : t.n ≤ 9223372036854775807
  slc : Slc w t.x t.b
  len : t.b.length ≤ 140737488355328
  marks : Marks w t.y t.ks
def Ac.cells (t : Ac) : List Value := [.int .i64 t.k, .int .i64 t.n, t.x, t.y]

theorem cells_i : Tryz.prog.cellsOf 3 = 1 := by kernel_rfl
theorem cells_sb : Tryz.prog.cellsOf 37 = 1 := by kernel_rfl
theorem cells_sk : Tryz.prog.cellsOf 31 = 1 := by kernel_rfl
theorem cells_ac : Tryz.prog.cellsOf 39 = 4 := by kernel_rfl
theorem bytes_u8 : Tryz.prog.bytesOf 5 = 1 := by kernel_rfl
theorem bytes_bool : Tryz.prog.bytesOf 4 = 1 := by kernel_rfl

section
variable {H : Type} {enc : TypeId × Value → H}

theorem i64_of {x : Int} (h : (Lit.int .i64 x).wf = true) : -9223372036854775808 ≤ x ∧ x ≤ 9223372036854775807 := by
  have e1 : IntKind.i64.min = -9223372036854775808 := by decide
  have e2 : IntKind.i64.max = 9223372036854775807 := by decide
  simp only [Lit.wf, e1, e2, Bool.and_eq_true, decide_eq_true_eq] at h
  exact h

theorem act_weights (d0 d1 d2 d3 : DataW H) : (DataW.agg [d0, d1, d2, d3]).weights Tryz.prog 39 = DataW.weightsEach Tryz.prog [3, 3, 37, 31] [d0, d1, d2, d3] := by
  simp only [DataW.weights, Tryz.underlying39]
  rfl

theorem open_act {w : World} {fuel : Nat} {cs : List Value} {x : DataW H × List MemPlace} (h : DataW.trod enc Tryz.prog w 0 (fun _ => true) true fuel 39 cs = some x) (hw : (x.1.weights Tryz.prog 39).all (· ≤ reachBytes) = true) :
    ∃ t : Ac, cs = t.cells ∧ t.Ok w := by
  obtain ⟨y0, y1, y2, y3, m, rfl, hl, g0, g1, g2, g3⟩ := Go.Joins.trod_struct4 Tryz.underlying39 h
  rw [cells_ac] at hl
  simp only [cells_i, cells_sb, cells_sk] at g0 g1 g2 g3
  obtain ⟨v0, v1, v2, v3, rfl⟩ : ∃ v0 v1 v2 v3, cs = [v0, v1, v2, v3] := by
    match cs, hl with
    | [v0, v1, v2, v3], _ => exact ⟨v0, v1, v2, v3, rfl⟩
  simp at g0 g1 g2 g3
  rw [act_weights] at hw
  obtain ⟨k, e0, _, _⟩ := DataW.trod_int Tryz.underlying3 g0
  obtain ⟨n, e1, _, hn⟩ := DataW.trod_int Tryz.underlying3 g1
  obtain ⟨a2, l2, c2, rfl⟩ : ∃ a0 l c, v2 = .slice a0 l c := by
    rcases open_slice1 Tryz.underlying37 cells5 g2 with ⟨h0, _⟩ | ⟨a, len, cap, _, _, _, _, _, h0, _⟩
    · exact ⟨none, 0, 0, by simpa using h0⟩
    · exact ⟨some a, len, cap, by simpa using h0⟩
  obtain ⟨a3, l3, c3, rfl⟩ : ∃ a0 l c, v3 = .slice a0 l c := by
    rcases open_slice1 Tryz.underlying31 (by kernel_rfl) g3 with ⟨h0, _⟩ | ⟨a, len, cap, _, _, _, _, _, h0, _⟩
    · exact ⟨none, 0, 0, by simpa using h0⟩
    · exact ⟨some a, len, cap, by simpa using h0⟩
  obtain ⟨b, rfl, hsl, hd⟩ := open_slc (d := y2.1) (p := y2.2) ⟨m, g2⟩
  obtain ⟨ks, rfl, hmk, hdk⟩ := open_bools (d := y3.1) (p := y3.2) ⟨m, g3⟩
  have hnr := i64_of hn
  simp at e0 e1
  subst e0
  subst e1
  have hlb : b.length ≤ 140737488355328 := len_slc hw (j := 2) rfl rfl hd
  have hlk : ks.length ≤ 140737488355328 := by
    rcases Nat.eq_zero_or_pos ks.length with h0 | h0
    · omega
    · obtain ⟨e, s, he1, he2⟩ := hdk h0
      have h1 := sized_slice hw (j := 3) (t := 31) (e := 4) rfl (by rw [he1]; rfl) Tryz.underlying31
      have h2 := reachBytes_lt
      rw [bytes_bool] at h1
      omega
  exact ⟨⟨k, n, _, b, _, ks⟩, rfl, ⟨hnr.1, hnr.2, hsl, hlb, hmk hlk⟩⟩

/-- Where acts lie behind one another. -/
def ActsAt (w : World) (a0 : Option Addr) (L : List Ac) : Prop := 0 < L.length → ∃ ad, a0 = some ad ∧ ∀ i t, L[i]? = some t → ∀ j v, t.cells[j]? = some v → w.cell? ((ad.add (i * 4)).add j) = some v

theorem weights_in {e : TypeId} {l : List (DataW H)} {d : DataW H} (hd : d ∈ l) {n : Nat} (h : (DataW.weightsAll Tryz.prog e l).all (· ≤ n) = true) : (d.weights Tryz.prog e).all (· ≤ n) = true := by
  induction l with
  | nil => cases hd
  | cons x r ih =>
    rw [DataW.weightsAll, List.all_append, Bool.and_eq_true] at h
    rcases List.mem_cons.1 hd with rfl | hd
    · exact h.1
    · exact ih hd h.2

theorem open_acts {w : World} {d : DataW H} {p : List MemPlace} {a0 : Option Addr} {n c : Nat} (h : DataW.Trod enc Tryz.prog w 0 (fun _ => true) true 24 (.slice a0 n c) d p) (hw : (d.weights Tryz.prog 24).all (· ≤ reachBytes) = true) :
    ∃ L : List Ac, n = L.length ∧ (∀ t ∈ L, t.Ok w) ∧ ActsAt w a0 L ∧ L.length ≤ 9223372036854775807 := by
  obtain ⟨fuel, hf⟩ := h
  have hf' : DataW.trod enc Tryz.prog w 0 (fun _ => true) true fuel 24 [.slice a0 n c] = some (d, p) := hf
  rcases open_slice Tryz.underlying24 hf' with ⟨h0, _⟩ | ⟨a, len, cap, m, q, D, Pl, h0, _, hl, hm, hmm, hd, hx⟩
  · simp at h0
    obtain ⟨rfl, rfl, rfl⟩ := h0
    exact ⟨[], rfl, fun t h => by simp at h, fun h => by simp at h, by simp⟩
  · simp at h0
    obtain ⟨rfl, rfl, rfl⟩ := h0
    simp only [if_true] at hmm
    subst hmm
    rw [cells_ac] at hx
    cases hd
    simp only [DataW.weights, Tryz.underlying24, List.all_cons, List.all_append, Bool.and_eq_true] at hw
    obtain ⟨T, hT⟩ := choose_lt (α := Ac) (n := n) (p := fun i t => t.Ok w ∧ ∀ j v, t.cells[j]? = some v → w.cell? ((a.add (i * 4)).add j) = some v) (fun i hi => by
      obtain ⟨cs', h1, h2⟩ := hx i (by omega)
      have hin : D i ∈ (List.range n).map D := List.mem_map_of_mem (List.mem_range.2 hi)
      obtain ⟨t, rfl, hok⟩ := open_act h2 (weights_in hin hw.2.1)
      obtain ⟨_, hlen, hc⟩ := World.cells?_some h1
      exact ⟨t, hok, fun j v hv => by
        have hj := (List.getElem?_eq_some_iff.1 hv).1
        rw [hc j (by omega), hv]⟩)
    have hln : ((List.range n).map T).length = n := by simp
    have hget : ∀ i t, ((List.range n).map T)[i]? = some t → i < n ∧ t = T i := by
      intro i t h
      have hi := (List.getElem?_eq_some_iff.1 h).1
      rw [hln] at hi
      simp [hi] at h
      exact ⟨hi, h.symm⟩
    unfold maxLen at hm
    refine ⟨(List.range n).map T, hln.symm, fun t ht => ?_, fun _ => ⟨a, rfl, fun i t h j v hv => ?_⟩, by rw [hln]; omega⟩
    · obtain ⟨i, hi, rfl⟩ := List.mem_map.1 ht
      exact (hT i (List.mem_range.1 hi)).1
    · obtain ⟨hi, rfl⟩ := hget i t h
      exact (hT i hi).2 j v hv
end
end Go.Proofs.YtlmaooeeklhelaaGreatDoor.Tg

