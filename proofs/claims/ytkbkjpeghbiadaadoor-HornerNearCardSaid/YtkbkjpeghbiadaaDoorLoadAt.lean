/-
  A whole array or struct loaded where its cells are known; slices.Clone of bytes.
-/
import Derived.Test.YtkbkjpeghbiadaaDoorOwn
namespace Go.Proofs.YtkbkjpeghbiadaaDoor
open Go.RowKit
set_option maxRecDepth 100000

section
variable {P : Program}
theorem run_loadVar_at (w : World) (ad : Addr) (ty : TypeId) (cs : List Value) (d : TypeDesc)
    (hu : P.underlying ty = some d) (hd : (match d with | .struct _ | .array _ _ => true | _ => false) = true) (hi : (P.info? ty).map (·.size) = some cs.length)
    (hcs : ∀ j v, cs[j]? = some v → w.cell? (ad.add j) = some v) :
    (loadVar ty ad).run P w = .ok (.agg cs.toArray) w := by
  have hl : (loadCells ad cs.length).run P w = .ok cs.toArray w := run_loadCells_list (P := P) w ad cs hcs
  cases hq : P.info? ty with
  | none => simp [hq] at hi
  | some i =>
    have hs : i.size = cs.length := by simpa [hq] using hi
    have hagg : (isAgg ty).run P w = .ok true w := by
      unfold isAgg
      rw [Sem.run_bind, run_underlying hu w]
      cases d <;> simp_all
    simp [loadVar, Sem.run_bind, hagg, sizeOf, typeInfo, hq, hs, hl]
theorem wpList_load_at {ops : Array Oper} {rest : List Oper} {o : Oper} {a : Act} {w : World} {Q : Exit → Act → World → Prop} (hgd : o.guard = none) (ty : TypeId) (x : Operand) (ho : o.op = .load ty x)
    (ad : Addr) (hx : a.eval x = .pointer (some ad)) (cs : List Value) (d : TypeDesc)
    (hu : P.underlying ty = some d) (hd : (match d with | .struct _ | .array _ _ => true | _ => false) = true) (hi : (P.info? ty).map (·.size) = some cs.length)
    (hcs : ∀ j v, cs[j]? = some v → w.cell? (ad.add j) = some v)
    (h : wpList P ops Q rest (a.put o.dst (.agg cs.toArray)) w) : wpList P ops Q (o :: rest) a w :=
  wpList_plain hgd fun _ hK => by
    unfold Oper.wp execOp
    simp only [ho, hx, Instr.loadAt, Instr.sureAddr, Sem.run_bind, Sem.run_pure, Result.andThen_ok, run_loadVar_at w ad ty cs d hu hd hi hcs]
    exact hK _ _ h
end

theorem size_u8 (w : World) : (sizeOf 5).run Tryd.prog w = .ok 1 w := by
  obtain ⟨i0, hi, hz0, hz1, hz2⟩ := info_parts info5
  simp [sizeOf, typeInfo, hi, hz1]

/-- slices.Clone of bytes. -/
theorem clone_slc (w : World) (x : Value) (b : List UInt8) (hx : Slc w x b) (hlen : b.length ≤ 140737488355328) :
    Calls Tryd.prog 18 #[x] w fun e w' => ∃ v, e = .returned v ∧ Owns w.heap.size w' v b ∧ Stay (fun _ => False) w w' := by
  obtain ⟨i0, hi, hz0, hz1, hz2⟩ := info_parts info5
  have hq := @Lib.run_eql_slice_nil
  have HI := Lib.hid hi
  have HZ0 := Lib.hid hz0
  have HZ1 := Lib.hid hz1
  have HZ2 := Lib.hid hz2
  have HX := Lib.hid (hx.alloc (.cells #[] 5))
  have how := Owns.empty w.heap.size w (Nat.le_refl _)
  obtain ⟨a0, c, rfl, hr, hn, _⟩ := hx
  have HR := Lib.hid hr
  clear hi hz0 hz1 hz2 hr
  cases a0 with
  | none =>
    obtain rfl := hn rfl
    have hb : b = [] := by
      rcases Nat.eq_zero_or_pos b.length with h0 | h0
      · exact List.eq_nil_of_length_eq_zero h0
      · obtain ⟨ad, e, _⟩ := HR.out h0
        cases e
    subst hb
    clear HR HX how hn
    go_enter Tryd.func18, Tryd.ntmps18
    go_wp2
    go_ret
    exact ⟨_, rfl, Owns.nil _ _, Stay.refl _ _⟩
  | some ad =>
    clear HR hn
    go_enter Tryd.func18, Tryd.ntmps18
    go_wp2_with (at_builtin; refine wpList_append_slc rfl (.tmp 5) (.tmp 6) 22 rfl w.heap.size i0 Tryd.underlying22 HI.out HZ0.out HZ1.out HZ2.out (.slice (some ⟨w.heap.size, 0, none⟩) 0 0) _ [] b rfl rfl how HX.out (by simp; omega) (by simp) ?_; intro v' w1 hown hgr hnn)
    go_ret
    exact ⟨v', rfl, by simpa using hown, (Stay.alloc (X := fun _ => False) w _).andThen (Stay.grown (X := fun k => k = w.heap.size) hgr (fun k hk => by simpa [Value.ownBlock] using hk.symm)) (fun k hk e => by omega)⟩

end Go.Proofs.YtkbkjpeghbiadaaDoor
