/-
  finger's laws: what must come whatever the input is; FingerStrong, walked.
-/
import Derived.Test.YtljhfccaoncjeaaDoorFgD
import Derived.Test.YtljhfccaoncjeaaDoorClass
import Derived.Stop.BytesEq
namespace Go.Proofs.YtljhfccaoncjeaaDoor.Fg
open Go.RowKit Ke
set_option maxRecDepth 100000

theorem numB (c : Nat) (w : World) (hg : ErrCell w) : Calls Tryd.prog 9 #[errB c] w fun e w' => e = .returned (.int .i64 (c : Int)) ∧ Stay (fun _ => False) w w' := by
  unfold errB
  by_cases h : c = 0
  · subst h
    exact num_nil w
  · rw [if_neg h]
    exact num_errno (c : Int) w hg
theorem err_stay {w w' : World} (h : ErrCell w) (hs : Stay (fun _ => False) w w') : ErrCell w' := hs.cell h (fun x => x)

/-- A whole array or struct loaded, as a step of a region in the class D, behind a guard that holds. -/
theorem quiet_loadG {P : Program} {D : World → Prop} {ops : Array Oper} {rest : List Oper} {o : Oper} {a : Act} {Q : Act → Prop} (hgd : Region.wanted o (yielded ops a.tmps) = true) (ty : TypeId) (x : Operand) (ho : o.op = .load ty x) (ad : Addr) (hx : a.eval x = .pointer (some ad)) (v : Value)
    (hl : ∀ i : InC D, (loadVar ty ad).run P i.w = .ok v i.w) (h : wpQuiet P ops (fun w' => ∃ i : InC D, w' = i.w) Q rest (a.put o.dst v)) : wpQuiet P ops (fun w' => ∃ i : InC D, w' = i.w) Q (o :: rest) a := by
  refine wpQuiet_step fun K hK => ?_
  rw [if_pos hgd]
  refine ⟨v, fun w' hw => ?_, hK _ h⟩
  obtain ⟨i, rfl⟩ := hw
  unfold Oper.quietAt execOp
  simp only [ho, hx, Instr.loadAt, Instr.sureAddr, Sem.run_bind, Sem.run_pure, Result.andThen_ok, hl i]
  exact ⟨rfl, rfl⟩

theorem wpList_wanted {P : Program} {ops : Array Oper} {rest : List Oper} {o : Oper} {a : Act} {w : World} {Q : Exit → Act → World → Prop} (hw : Region.wanted o (yielded ops a.tmps) = true) (h : o.wp P a w (wpList P ops Q rest) Q) : wpList P ops Q (o :: rest) a w := by
  unfold wpList
  rw [if_pos hw]
  exact .inl h
/-- A whole array loaded behind a guard that holds. -/
theorem loadW {ty : TypeId} {n : Nat} (A : IsArr ty n) {ops : Array Oper} {rest : List Oper} {o : Oper} {a : Act} {w : World} {Q : Exit → Act → World → Prop} (hw : Region.wanted o (yielded ops a.tmps) = true) (x : Operand) (ho : o.op = .load ty x)
    (g : Nat) (hx : a.eval x = .pointer (some ⟨g, 0, none⟩)) (l : List UInt8) (hl : l.length = n) (hg : BAt w g ty l)
    (hn : wpList Tryd.prog ops Q rest (a.put o.dst (arrV l)) w) : wpList Tryd.prog ops Q (o :: rest) a w := by
  refine wpList_wanted hw ?_
  unfold Oper.wp execOp
  simp only [ho, hx, Instr.loadAt, Instr.sureAddr, Sem.run_bind, Sem.run_pure, Result.andThen_ok, A.run_load hl hg]
  exact hn

def sevenB : List UInt8 := 7 :: List.replicate 63 0
set_option maxHeartbeats 1000000 in
theorem sure_any (w : World) (hp : PathAt w) (hg : 2 < w.heap.size) (he : ErrCell w) :
    Calls Tryd.prog 15 #[] w fun e w' => e = .returned (.bool true) ∧ Stay (fun _ => False) w w' := by
  have HP := Lib.hid hp
  have HG := Lib.hid hg
  have HE := Lib.hid he
  clear hp hg he
  go_enter Tryd.func15, Tryd.ntmps15
  go_wp2_with fail
  refine (of_any w 2 sevenB (by simp [sevenB]) HP.out HG.out).mono ?_
  rintro e w1 ⟨rfl, s1⟩
  rw [show printB 2 sevenB = firstB 7 from rfl, show errB (codeB 2) = .nilIface from rfl]
  have B1 := Lib.hid (BAt.new w1 25 (List.replicate 32 0))
  have HS1 := Lib.hid s1
  clear s1
  go_wp2_with (first
    | (with_reducible refine arr_32.alloc rfl rfl ?_)
    | (refine arr_32.store rfl (.tmp 1) (.tmp 8) rfl w1.heap.size rfl (List.replicate 32 0) (firstB 7) rfl (by simp) (by simp [firstB]) B1.out ?_; intro w2 h2 s2; have H2 := Lib.hid h2
       have HS2 := Lib.hid (HS1.out.trans (stay_seal (X := fun k => k = w1.heap.size) ((Stay.alloc _ _).trans s2) (fun k e => Nat.le_of_eq e.symm)))
       clear h2 s2))
  refine (of_any w2 9 (List.replicate 64 0) (by simp) (HP.out.stay HS2.out (fun x => x)) (Nat.lt_of_lt_of_le HG.out HS2.out.size)).mono ?_
  rintro e w3 ⟨rfl, s3⟩
  rw [show printB 9 (List.replicate 64 0) = List.replicate 32 0 from rfl, show errB (codeB 9) = .iface 44 (.int .i64 1) from rfl]
  have H3 := Lib.hid (H2.out.stay s3 (fun x => x))
  have B3 := Lib.hid (BAt.new w3 25 (List.replicate 32 0))
  have HS3 := Lib.hid (HS2.out.trans s3)
  clear s3
  have k2 := fun W : World => (show (Op.equalIn 10000 25 (.agg (cellsB (firstB 7)).toArray) (.agg #[.int .u8 7, .int .u8 0, .int .u8 0, .int .u8 0, .int .u8 0, .int .u8 0, .int .u8 0, .int .u8 0, .int .u8 0, .int .u8 0, .int .u8 0, .int .u8 0, .int .u8 0, .int .u8 0, .int .u8 0, .int .u8 0, .int .u8 0, .int .u8 0, .int .u8 0, .int .u8 0, .int .u8 0, .int .u8 0, .int .u8 0, .int .u8 0, .int .u8 0, .int .u8 0, .int .u8 0, .int .u8 0, .int .u8 0, .int .u8 0, .int .u8 0, .int .u8 0])).run Tryd.prog W = .ok true W from by
    have := eq_prt W (firstB 7) (firstB 7) (by simp [firstB]) (by simp [firstB])
    rw [show (firstB 7 == firstB 7) = true by simp] at this
    exact this)
  have K2 := Lib.hid k2
  clear k2
  go_wp2_with (first
    | (with_reducible refine arr_32.alloc rfl rfl ?_)
    | (refine arr_32.store rfl (.tmp 3) (.tmp 13) rfl w3.heap.size rfl (List.replicate 32 0) (List.replicate 32 0) rfl (by simp) (by simp) B3.out ?_; intro w4 h4 s4
       have H4 := Lib.hid (H3.out.stay (stay_seal (X := fun k => k = w3.heap.size) ((Stay.alloc _ _).trans s4) (fun k e => Nat.le_of_eq e.symm)) (fun x => x))
       have HS4 := Lib.hid (HS3.out.trans (stay_seal (X := fun k => k = w3.heap.size) ((Stay.alloc _ _).trans s4) (fun k e => Nat.le_of_eq e.symm)))
       have k2 := K2.out
       clear h4 s4)
    | (refine loadW arr_32 (by rfl) (.tmp 1) rfl w1.heap.size rfl (firstB 7) (by simp [firstB]) H4.out ?_; unfold arrV))
  refine (numB 1 w4 (err_stay HE.out HS4.out)).mono ?_
  rintro e w5 ⟨rfl, s5⟩
  have HS5 := Lib.hid (HS4.out.trans s5)
  clear s5
  go_wp2
  go_ret
  exact ⟨rfl, HS5.out⟩
end Go.Proofs.YtljhfccaoncjeaaDoor.Fg
