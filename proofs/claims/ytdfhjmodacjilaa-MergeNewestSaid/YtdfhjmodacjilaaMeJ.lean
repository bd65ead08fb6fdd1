/-
  mem: entries held against each other; entries of one's own; the document's Size, Get, Range.
-/
import Derived.Test.YtdfhjmodacjilaaMeI
import Derived.Laws.StructEq
namespace Go.Proofs.Ytdfhjmodacjilaa.Me
open Go.RowKit Go.Maps
set_option maxRecDepth 100000
set_option linter.unusedVariables false

/-- Whether two entries are one. -/
def eqE (a b : En) : Bool := a.k == b.k && a.v == b.v && a.g == b.g
theorem eqE_is (a b : En) : eqE a b = decide (a = b) := by
  obtain ⟨k, v, g⟩ := a
  obtain ⟨k', v', g'⟩ := b
  unfold eqE
  by_cases h1 : k = k' <;> by_cases h2 : v = v' <;> by_cases h3 : g = g' <;> simp [h1, h2, h3]
theorem eq_en (w : World) (a b : En) : (Op.equalIn 10000 28 (enV a) (enV b)).run Try.prog w = .ok (eqE a b) w := by
  have u9 := Try.underlying9
  have u4 := Try.underlying4
  unfold enV enC eqE
  go_simp
  by_cases h1 : a.k = b.k <;> by_cases h2 : a.v = b.v <;> by_cases h3 : a.g = b.g <;> simp [h1, h2, h3]

theorem eq_guard : Try.prog.eqGuardType Try.prog.depth 28 = false := by kernel_rfl
/-- A whole struct loaded, as a step of a region in the class D, behind a guard that holds. -/
theorem quiet_loadG {P : Program} {D : World → Prop} {ops : Array Oper} {rest : List Oper} {o : Oper} {a : Act} {Q : Act → Prop} (hgd : Region.wanted o (yielded ops a.tmps) = true) (ty : TypeId) (x : Operand) (ho : o.op = .load ty x) (ad : Addr) (hx : a.eval x = .pointer (some ad)) (v : Value)
    (hl : ∀ i : InC D, (loadVar ty ad).run P i.w = .ok v i.w) (h : wpQuiet P ops (fun w' => ∃ i : InC D, w' = i.w) Q rest (a.put o.dst v)) : wpQuiet P ops (fun w' => ∃ i : InC D, w' = i.w) Q (o :: rest) a := by
  refine wpQuiet_step fun K hK => ?_
  rw [if_pos hgd]
  refine ⟨v, fun w' hw => ?_, hK _ h⟩
  obtain ⟨i, rfl⟩ := hw
  unfold Oper.quietAt execOp
  simp only [ho, hx, Instr.loadAt, Instr.sureAddr, Sem.run_bind, Sem.run_pure, Result.andThen_ok, hl i]
  exact ⟨rfl, rfl⟩
theorem run_guard_en (w : World) (x y : Operand) (p q : En) : (eqGuard .neq 28 x y (enV p) (enV q)).run Try.prog w = .ok () w :=
  run_eqGuard_agg (P := Try.prog) w .neq 28 x y (enC p).toArray (enC q).toArray eq_guard
theorem run_neq_en (w : World) (p q : En) : (binOp .neq 28 (enV p) (enV q)).run Try.prog w = .ok (.bool (!eqE p q)) w := by
  have hb := run_neq_struct (P := Try.prog) w 28 (enC p).toArray (enC q).toArray
  have he := eq_en w p q
  unfold enV at he ⊢
  rw [hb, he, Result.andThen_ok]
/-- Two entries held against each other, as a step of such a region. -/
theorem quiet_neq_en {D : World → Prop} {ops : Array Oper} {rest : List Oper} {o : Oper} {a : Act} {Q : Act → Prop} (hgd : Region.wanted o (yielded ops a.tmps) = true) (x y : Operand) (ho : o.op = .binOp .neq 28 x y 28) (p q : En) (hx : a.eval x = enV p) (hy : a.eval y = enV q)
    (h : wpQuiet Try.prog ops (fun w' => ∃ i : InC D, w' = i.w) Q rest (a.put o.dst (.bool (!eqE p q)))) : wpQuiet Try.prog ops (fun w' => ∃ i : InC D, w' = i.w) Q (o :: rest) a := by
  refine wpQuiet_step fun K hK => ?_
  rw [if_pos hgd]
  refine ⟨.bool (!eqE p q), fun w' hw => ?_, hK _ h⟩
  obtain ⟨i, rfl⟩ := hw
  unfold Oper.quietAt execOp
  simp only [ho, hx, hy, Sem.run_bind, run_guard_en, run_neq_en, Result.andThen_ok]
  exact ⟨rfl, rfl⟩
theorem wpList_neq_en {ops : Array Oper} {rest : List Oper} {o : Oper} {a : Act} {w : World} {Q : Exit → Act → World → Prop} (hw : Region.wanted o (yielded ops a.tmps) = true) (x y : Operand) (ho : o.op = .binOp .neq 28 x y 28) (p q : En) (hx : a.eval x = enV p) (hy : a.eval y = enV q)
    (h : wpList Try.prog ops Q rest (a.put o.dst (.bool (!eqE p q))) w) : wpList Try.prog ops Q (o :: rest) a w := by
  refine wpList_wanted hw ?_
  unfold Oper.wp execOp
  simp only [ho, hx, hy, Sem.run_bind, run_guard_en, run_neq_en, Result.andThen_ok]
  exact h
/-- One entry of a slice, loaded whole in whatever world nothing of this one turned. -/
theorem EnS.load {w : World} {g o n c i : Nat} {L : List En} {e : En} (h : EnS w (.slice (some ⟨g, o, none⟩) n c) L) (he : L[i]? = some e) : (loadVar 28 ⟨g, o + i * 3, none⟩).run Try.prog w = .ok (enV e) w := by
  obtain ⟨g', o', e0, _, hc⟩ := h.at (by have := (List.getElem?_eq_some_iff.1 he).1; omega)
  cases e0
  obtain ⟨h0, h1, h2⟩ := hc i e he
  exact run_load_at h0 h1 h2
theorem EnS.ptr {w : World} {a0 : Option Addr} {n c i : Nat} {L : List En} {e : En} (h : EnS w (.slice a0 n c) L) (he : L[i]? = some e) : ∃ g o, a0 = some ⟨g, o, none⟩ := by
  obtain ⟨g, o, e0, _⟩ := h.at (by have := (List.getElem?_eq_some_iff.1 he).1; omega)
  exact ⟨g, o, e0⟩

set_option maxHeartbeats 4000000 in
theorem entries_eq (w : World) (x y : Value) (A B : List En) (hx : EnS w x A) (hy : EnS w y B) :
    Calls Try.prog 10 #[x, y] w fun e w' => e = .returned (.bool (decide (A = B))) ∧ Stay (fun _ => False) w w' := by
  have HX := Lib.hid hx
  have HY := Lib.hid hy
  obtain ⟨ax, cx, rfl, hx1, hx2, _⟩ := hx
  obtain ⟨ay, cy, rfl, hy1, hy2, _⟩ := hy
  go_enter Try.func10, Try.ntmps10
  by_cases hl : A.length = B.length
  · rw [← hl] at hy1 ⊢
    go_wp2
    go_loopw [5] (fun i wr => ∃ j : Nat, i = .int .i64 (j : Int) ∧ j ≤ A.length ∧ Hid (A.take j = B.take j) ∧ Stay (fun _ => False) w wr) (fun i _ => A.length - (intOf i).toNat)
    case atStart => exact ⟨0, rfl, Nat.zero_le _, Lib.hid (by simp), Stay.refl _ _⟩
    case round =>
      obtain ⟨j, rfl, hj, he, hst⟩ := hrel
      have HT := Lib.hid hst
      clear hst
      by_cases hlt : j < A.length
      · obtain ⟨a, ha⟩ : ∃ a, A[j]? = some a := ⟨_, List.getElem?_eq_getElem hlt⟩
        obtain ⟨b, hb⟩ : ∃ b, B[j]? = some b := ⟨_, List.getElem?_eq_getElem (by omega)⟩
        obtain ⟨g, o, rfl⟩ := HX.out.ptr ha
        obtain ⟨g', o', rfl⟩ := HY.out.ptr hb
        have k1 := Lib.hid (fun i : InC (Stay (fun _ => False) wr) => ((HX.out.stay0 (HT.out.trans i.h)).load ha))
        have k2 := Lib.hid (fun i : InC (Stay (fun _ => False) wr) => ((HY.out.stay0 (HT.out.trans i.h)).load hb))
        have HA := Lib.hid ha
        have HB := Lib.hid hb
        haveI : Nonempty (InC (Stay (fun _ => False) wr)) := ⟨⟨wr, Stay.refl _ _⟩⟩
        have HAB := Lib.hid (eqE_is a b)
        clear ha hb
        go_wp2
        refine wp_region_class (Stay (fun _ => False) wr) Stay.drew (by kernel_rfl) (by kernel_rfl) ?_
        repeat (first
          | (refine quiet_loadG (by rfl) 28 (.tmp 19) rfl ⟨g, o + j * 3, none⟩ rfl (enV a) k1.out ?_; go_frame)
          | (refine quiet_loadG (by rfl) 28 (.tmp 23) rfl ⟨g', o' + j * 3, none⟩ rfl (enV b) k2.out ?_; go_frame)
          | (refine quiet_neq_en (by rfl) (.tmp 20) (.tmp 24) rfl a b rfl rfl ?_; go_frame)
          | (go_big_quiet_step (fail)))
        refine wpQuiet_nil ?_
        rintro W ⟨i, rfl⟩
        have HI := Lib.hid i.h
        generalize i.w = w9 at *
        clear k1 k2
        cases hab : eqE a b with
        | true =>
          have hEq : a = b := by have := HAB.out; rw [hab] at this; simpa using this.symm
          have HN := Lib.hid (show A.take (j + 1) = B.take (j + 1) by rw [List.take_add_one, List.take_add_one, he.out, HA.out, HB.out, hEq])
          go_wp2
          refine ⟨⟨j + 1, by go_num, hlt, HN, HT.out.trans HI.out⟩, by simp [intOf]; omega⟩
        | false =>
          have hNe : a ≠ b := by have := HAB.out; rw [hab] at this; simpa using this.symm
          have HR := Lib.hid (show decide (A = B) = false from decide_eq_false (fun h => hNe (by have h1 := HA.out; have h2 := HB.out; rw [h, h2] at h1; exact (Option.some.inj h1).symm)))
          go_wp2
          go_ret
          exact ⟨by rw [HR.out]; rfl, HT.out.trans HI.out⟩
      · obtain rfl : j = A.length := by omega
        have HR := Lib.hid (show decide (A = B) = true from decide_eq_true (by have h1 := he.out; rw [List.take_length, hl, List.take_length] at h1; exact h1))
        go_wp2
        go_ret
        exact ⟨by rw [HR.out]; rfl, HT.out⟩
  · have HR := Lib.hid (show decide (A = B) = false from decide_eq_false (fun h => hl (by rw [h])))
    go_wp2
    go_ret
    exact ⟨by rw [HR.out]; rfl, Stay.refl _ _⟩

set_option maxHeartbeats 1000000 in
/-- Entries of one's own. -/
theorem own_any (w : World) (x : Value) (L : List En) (hx : EnS w x L) (hl : L.length ≤ 1000000) :
    Calls Try.prog 13 #[x] w fun e w' => ∃ v, e = .returned v ∧ EnO w.heap.size w' v L ∧ Stay (fun _ => False) w w' := by
  have HX := Lib.hid hx
  obtain ⟨a0, c, rfl⟩ := hx.form
  clear hx
  go_enter Try.func13, Try.ntmps13
  go_wp2_with (at_builtin; refine wpList_append_en rfl (.tmp 4) (.tmp 5) 25 rfl Try.underlying25 rfl rfl (EnO.nil w.heap.size w) HX.out (by simp; omega) (Nat.le_refl _) ?_; intro v' w1 hown hgr hnn)
  go_ret
  exact ⟨_, rfl, by simpa using hown, hgr.mono (fun k hk => by cases hk)⟩

end Go.Proofs.Ytdfhjmodacjilaa.Me
