/-
  ToggleWhole, ahead of its walk: marks and numbers that come in; marks of the law's own; a device that is armed, one that is started anew.
-/
import Derived.Test.YtlmaooeeklhelaaGreatDoorTgTxts
import Derived.Test.YtlmaooeeklhelaaGreatDoorDevU
namespace Go.Proofs.YtlmaooeeklhelaaGreatDoor.Tg
open Go.ChangeShapes Go.WideShapes Go.ChangeAt Go.RowKit Go.Deep Pk
set_option maxRecDepth 100000

/-- Marks as cells. -/
def cellsK (ks : List Bool) : List Value := ks.map Value.bool
/-- A slice that reads as marks. -/
def Marks (w : World) (x : Value) (ks : List Bool) : Prop := ∃ a0 c, x = .slice a0 ks.length c ∧ (a0 = none → c = 0) ∧ (0 < ks.length → ∃ ad, a0 = some ad ∧ ad.block < w.heap.size ∧ ∀ j v, (cellsK ks)[j]? = some v → w.cell? (ad.add j) = some v) ∧ ks.length ≤ 140737488355328

theorem Marks.stay {X : Nat → Prop} {w w' : World} {x : Value} {ks : List Bool} (h : Marks w x ks) (hs : Stay X w w') (hx : ∀ k, k < w.heap.size → ¬ X k) : Marks w' x ks := by
  obtain ⟨a0, c, rfl, hn, hr, hl⟩ := h
  refine ⟨a0, c, rfl, hn, fun h0 => ?_, hl⟩
  obtain ⟨ad, rfl, hlt, hc⟩ := hr h0
  refine ⟨ad, rfl, Nat.lt_of_lt_of_le hlt hs.size, fun j v hv => hs.cell (hc j v hv) ?_⟩
  have hb : (ad.add j).block = ad.block := by unfold Addr.add; split <;> rfl
  rw [hb]
  exact hx _ hlt

theorem infoB : (Tryz.prog.info? 4).map (fun i => (i.zero, i.size, i.bytes)) = some (some (.bool false), 1, 1) := by kernel_rfl
theorem oneCell_cellsK (ks : List Bool) : ∀ u ∈ cellsK ks, u.oneCell' = true := by
  intro u hu
  obtain ⟨b, _, rfl⟩ := List.mem_map.1 hu
  rfl

section
variable {P : Program}
theorem wpList_append_run {ops : Array Oper} {rest : List Oper} {o : Oper} {a : Act} {w : World} {Q : Exit → Act → World → Prop} (hgd : o.guard = none) (s x : Operand) (t : TypeId)
    (ho : o.op = .call { callee := .builtin .append, args := #[s, x], argTypes := #[t, t] }) (vs vx v' : Value) (w' : World) (hs : a.eval s = vs) (hx : a.eval x = vx) (hrun : (Builtin.append_ #[t, t] o.type #[vs, vx]).run P w = .ok v' w')
    (h : wpList P ops Q rest (a.put o.dst v') w') : wpList P ops Q (o :: rest) a w :=
  wpList_plain hgd fun _ hK => by
    unfold Oper.wp execOp
    simp only [ho, resolve, invoke, builtin, Sem.run_bind, Sem.run_pure, Result.andThen_ok, List.map_toArray, List.map_cons, List.map_nil, hs, hx, hrun]
    exact hK _ _ h
end

theorem append_marks (w : World) (ty : TypeId) (x : Value) (ks : List Bool) (hx : Marks w x ks) :
    ∃ v' w', (Builtin.append_ #[31, 31] ty #[.slice none 0 0, x]).run Tryz.prog w = .ok v' w' ∧ w'.ownsRow w.heap.size 4 1 v' ks.length (cellsK ks) ∧ Stay (fun _ => False) w w' := by
  obtain ⟨i0, hi, hz0, hz1, hz2⟩ := info_parts infoB
  obtain ⟨a0, c, rfl, hn, hr, hl⟩ := hx
  cases a0 with
  | none =>
    have hk : ks = [] := by
      rcases Nat.eq_zero_or_pos ks.length with h0 | h0
      · exact List.eq_nil_of_length_eq_zero h0
      · obtain ⟨ad, e, _⟩ := hr h0
        cases e
    subst hk
    rw [hn rfl]
    exact ⟨_, _, run_append_owned_none (P := Tryz.prog) w w.heap.size 31 ty _ i0 1 Tryz.underlying31 hi (.slice none 0 0) 0 [] (World.ownsRow_nil w _ _ _), World.ownsRow_nil w _ _ _, Stay.refl _ _⟩
  | some ad =>
    have hcells : ∀ j u, (cellsK ks)[j]? = some u → w.cell? (ad.add j) = some u := by
      intro j u hu
      have h0 : 0 < ks.length := by
        have := (List.getElem?_eq_some_iff.1 hu).1
        simp only [cellsK, List.length_map] at this
        omega
      obtain ⟨ad', e, _, hc⟩ := hr h0
      cases e
      exact hc j u hu
    obtain ⟨v', w', hrun, h2, h3, _, h5⟩ := run_append_own_at (P := Tryz.prog) w w.heap.size 31 ty _ i0 (.bool false) 1 1 Tryz.underlying31 hi hz0 hz1 hz2 rfl (by decide) (.slice none 0 0) 0 [] (World.ownsRow_nil w _ _ _) ad ks.length c (cellsK ks) (by simp [cellsK]) hcells (oneCell_cellsK ks)
      (by unfold maxLen; omega) (by omega) (Nat.le_refl _)
    refine ⟨v', w', hrun, by simpa using h2, Stay.grown h3 (fun k e => by cases e)⟩

theorem own_any (w : World) (x : Value) (ks : List Bool) (hx : Marks w x ks) :
    Calls Tryz.prog 11 #[x] w fun e w' => ∃ v, e = .returned v ∧ w'.ownsRow w.heap.size 4 1 v ks.length (cellsK ks) ∧ Stay (fun _ => False) w w' := by
  obtain ⟨v', w', hrun, h2, h3⟩ := append_marks w 31 x ks hx
  have HR := Lib.hid hrun
  have H2 := Lib.hid h2
  have H3 := Lib.hid h3
  clear hrun h2 h3
  go_enter Tryz.func11, Tryz.ntmps11
  go_wp2_with (at_builtin; refine wpList_append_run rfl (.tmp 4) (.tmp 5) 31 rfl _ _ v' w' rfl rfl HR.out ?_)
  go_ret
  exact ⟨v', rfl, H2.out, H3.out⟩

/-- Start, by marks of the law's own. -/
theorem start_marks (w : World) (pd ps pm : Nat) (d : DS) (v : Value) (ks : List Bool) (base : Nat) (h : DevAt w pd ps pm d) (hlo : d.lo = false) (hr : w.ownsRow base 4 1 v ks.length (cellsK ks)) (hb : ∀ k, own pd ps pm k → k < base) (hl : ks.length ≤ 140737488355328) :
    Calls Tryz.prog 10 #[.pointer (some ⟨pd, 0, none⟩), v] w fun e w' => e = .returned (.tuple #[]) ∧ DevAt w' pd ps pm (d.started ks) ∧ Stay (own pd ps pm) w w' := by
  rcases hr.2 with ⟨rfl, h0⟩ | ⟨g, cap, cur, rfl, hg, _⟩
  · have hk : ks = [] := List.eq_nil_of_length_eq_zero h0
    subst hk
    exact start_nils w pd ps pm d h hlo
  · refine start_any w pd ps pm d g 0 cap ks h hlo (fun j hj => ?_) (fun q => by have := hb g q; omega) (by omega)
    have := hr.cellAt j (by simpa [cellsK] using hj)
    rw [Nat.zero_add, this]
    simp [cellsK, hj]

/-- What a crashed device that is started anew holds. -/
theorem started_holds {d d' : DS} {f s n : Nat} {o : Option (List UInt8)} (ks : List Bool) (hlo : d'.lo = false) (hn : d'.n = d.n) (hw : ∀ j, ((d'.started ks).s j).length = 64)
    (hc : ∀ d2 : DS, d2.n = d.n → d2.cr = false → d2.lo = false → d2.L = none64 → (∀ j, (d2.s j).length = 64) → (∀ j, d'.L j = none → d2.s j = d'.s j) → Holds d2 f s o n) : Holds (d'.started ks) f s o n := by
  refine hc (d'.started ks) hn rfl hlo rfl hw fun j hj => ?_
  have := started_miss d' ks j hj
  rw [cur_started] at this
  exact this

theorem holds_armed {d : DS} {f s n : Nat} {o : Option (List UInt8)} (h : Holds d f s o n) (k : Int) : Holds { d with ar := true, left := k } f s o n :=
  ⟨h.cr, h.lo, h.L, h.w, h.wL, h.s3, h.fn, h.n2, by
    cases o with
    | none => exact h.t
    | some t =>
      obtain ⟨b, h1, h2, h3, h4, h5⟩ := h.t
      refine ⟨b, h1, h2, h3, h4, ?_⟩
      rw [bytes_same (d := d), h5]
      intro j _ _
      rfl⟩

section
variable {H : Type} {enc : TypeId × Value → H}
theorem open_bools {w : World} {d : DataW H} {p : List MemPlace} {a0 : Option Addr} {n c : Nat} (h : DataW.Trod enc Tryz.prog w 0 (fun _ => true) true 31 (.slice a0 n c) d p) :
    ∃ ks : List Bool, n = ks.length ∧ (ks.length ≤ 140737488355328 → Marks w (.slice a0 n c) ks) ∧ (0 < ks.length → ∃ e s : List (DataW H), d = .slice e s ∧ e.length = ks.length) := by
  obtain ⟨fuel, hf⟩ := h
  have hf' : DataW.trod enc Tryz.prog w 0 (fun _ => true) true fuel 31 [.slice a0 n c] = some (d, p) := hf
  rcases open_slice1 Tryz.underlying31 (by kernel_rfl) hf' with ⟨h0, _⟩ | ⟨a, len, cap, m, k, V, D, Pl, h0, _, hl, hm, hmm, hd, hx⟩
  · simp at h0
    obtain ⟨rfl, rfl, rfl⟩ := h0
    exact ⟨[], rfl, fun _ => ⟨none, 0, rfl, fun _ => rfl, fun h => by simp at h, by decide⟩, fun h => by simp at h⟩
  · simp at h0
    obtain ⟨rfl, rfl, rfl⟩ := h0
    simp only [if_true] at hmm
    subst hmm
    obtain ⟨B, hB⟩ := choose_lt (α := Bool) (p := fun i b => V i = .bool b) (fun i hi => by
      obtain ⟨b, h1, _⟩ := DataW.trod_bool Tryz.underlying4 (hx i hi).2
      exact ⟨b, by simpa using h1⟩)
    have hln : ((List.range n).map B).length = n := by simp
    refine ⟨(List.range n).map B, hln.symm, fun hle => ⟨some a, _, by rw [hln], (fun h => by cases h), fun h0 => ⟨a, rfl, ?_, fun j v hv => ?_⟩, hle⟩, fun _ => ?_⟩
    · rw [hln] at h0
      have h1 := World.block_lt_of_cell? w _ (hx 0 (by omega)).1
      have hb : (a.add 0).block = a.block := rfl
      rwa [hb] at h1
    · have hj : j < n := by
        have := (List.getElem?_eq_some_iff.1 hv).1
        simpa [cellsK] using this
      rw [(hx j (by omega)).1, hB j (by omega)]
      simp [cellsK, hj] at hv
      rw [← hv]
    · cases hd
      exact ⟨_, _, rfl, by rw [hln]; simp⟩

/-- A slice of numbers. -/
def Nums (w : World) (lp : Option Addr) (xs : List Int) : Prop :=
  xs.length ≤ 9223372036854775807 ∧ (0 < xs.length → ∃ lb lo, lp = some ⟨lb, lo, none⟩ ∧ lb < w.heap.size ∧ ∀ k v, xs[k]? = some v → w.cell? ⟨lb, lo + k, none⟩ = some (.int .i64 v))
theorem open_ints {w : World} {d : DataW H} {p : List MemPlace} {a0 : Option Addr} {n c : Nat} (h : DataW.Trod enc Tryz.prog w 0 (fun _ => true) true 63 (.slice a0 n c) d p) :
    ∃ xs : List Int, n = xs.length ∧ Nums w a0 xs := by
  obtain ⟨fuel, hf⟩ := h
  have hf' : DataW.trod enc Tryz.prog w 0 (fun _ => true) true fuel 63 [.slice a0 n c] = some (d, p) := hf
  rcases open_slice1 Tryz.underlying63 (by kernel_rfl) hf' with ⟨h0, _⟩ | ⟨a, len, cap, m, k, V, D, Pl, h0, _, hl, hm, hmm, hd, hx⟩
  · simp at h0
    obtain ⟨rfl, rfl, rfl⟩ := h0
    exact ⟨[], rfl, by decide, fun h => by simp at h⟩
  · simp at h0
    obtain ⟨rfl, rfl, rfl⟩ := h0
    simp only [if_true] at hmm
    subst hmm
    by_cases hn0 : n = 0
    · subst hn0; exact ⟨[], rfl, by decide, fun h => by simp at h⟩
    have ha : a = ⟨a.block, a.off, none⟩ ∧ a.block < w.heap.size := by
      have h0 := (hx 0 (by omega)).1
      have e0 : a.add 0 = a := rfl
      rw [e0] at h0
      refine ⟨?_, World.block_lt_of_cell? w a h0⟩
      obtain ⟨b, o, sp⟩ := a
      cases sp with
      | none => rfl
      | some q =>
        have : w.cell? ⟨b, o, some q⟩ = none := by unfold World.cell?; split <;> simp
        rw [this] at h0; cases h0
    obtain ⟨B, hB⟩ := choose_lt (α := Int) (p := fun i b => V i = .int .i64 b) (fun i hi => by
      obtain ⟨x, h1, _, _⟩ := DataW.trod_int Tryz.underlying3 (hx i hi).2
      exact ⟨x, by simpa using h1⟩)
    have hln : ((List.range n).map B).length = n := by simp
    unfold maxLen at hm
    refine ⟨(List.range n).map B, hln.symm, by rw [hln]; omega, fun _ => ⟨a.block, a.off, by rw [← ha.1], ha.2, fun j v hv => ?_⟩⟩
    have hj : j < n := by
      have := (List.getElem?_eq_some_iff.1 hv).1
      rwa [hln] at this
    have h1 := (hx j (by omega)).1
    rw [ha.1, add_at] at h1
    rw [h1, hB j (by omega)]
    simp [hj] at hv
    rw [hv]
end

end Go.Proofs.YtlmaooeeklhelaaGreatDoor.Tg
