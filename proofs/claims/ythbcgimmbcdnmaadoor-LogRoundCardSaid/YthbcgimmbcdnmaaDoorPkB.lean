/-
  pack: slices of bytes that are read, appended and cloned; a writer in memory; New, lay, Uint, Bool, Done.
-/
import Derived.Test.YthbcgimmbcdnmaaDoorPkA
import Derived.OneCell
import Derived.Laws.OwnMore
import Derived.Maps.AppendAt
namespace Go.Proofs.YthbcgimmbcdnmaaDoor.Pk
open Go.RowKit
set_option maxRecDepth 100000

/-- The address behind which these bytes lie, if there are any. -/
def ReadsAs (w : World) (sp : Option Addr) (l : List UInt8) : Prop := 0 < l.length → ∃ ad : Addr, sp = some ad ∧ ∀ j v, (cellsB l)[j]? = some v → w.cell? (ad.add j) = some v

/-- A slice that reads as bytes: nil, empty or not. -/
def Slc (w : World) (x : Value) (b : List UInt8) : Prop := ∃ a0 c, x = .slice a0 b.length c ∧ ReadsAs w a0 b ∧ (a0 = none → c = 0) ∧ b.length ≤ c ∧ c ≤ 9223372036854775807

theorem stay_drewN {X : Nat → Prop} (w : World) (n : Nat) : Stay X w (w.drewN n) := ⟨rfl, rfl, rfl, Nat.le_refl _, fun _ _ _ => rfl⟩

theorem ReadsAs.stay {X : Nat → Prop} {w w' : World} {sp : Option Addr} {l : List UInt8} (h : ReadsAs w sp l) (hs : Stay X w w') (hx : 0 < l.length → ∀ ad, sp = some ad → ¬ X ad.block) : ReadsAs w' sp l := by
  intro h0
  obtain ⟨ad, e, hc⟩ := h h0
  refine ⟨ad, e, fun j v hv => hs.cell (hc j v hv) ?_⟩
  have hb : (ad.add j).block = ad.block := by unfold Addr.add; split <;> rfl
  rw [hb]
  exact hx h0 ad e
theorem ReadsAs.stay0 {w w' : World} {sp : Option Addr} {l : List UInt8} (h : ReadsAs w sp l) (hs : Stay (fun _ => False) w w') : ReadsAs w' sp l := h.stay hs (fun _ _ _ x => x)
theorem Slc.stay0 {w w' : World} {x : Value} {l : List UInt8} (h : Slc w x l) (hs : Stay (fun _ => False) w w') : Slc w' x l := by
  obtain ⟨a0, c, e, hr, hn⟩ := h
  exact ⟨a0, c, e, hr.stay0 hs, hn⟩
theorem Slc.alloc {w : World} {x : Value} {l : List UInt8} (h : Slc w x l) (o : Obj) : Slc (w.alloc o) x l := h.stay0 (Stay.alloc w o)

theorem Owns.slc {base : Nat} {w : World} {v : Value} {l : List UInt8} (h : Owns base w v l) : Slc w v l := by
  have hc := fun g hg => World.ownsRow.cells (g := g) h hg
  rcases h.2 with ⟨e, hn⟩ | ⟨g, cap, cur, e, _, _, h1, h2, _⟩
  · have : l = [] := List.eq_nil_of_length_eq_zero hn
    subst this
    exact ⟨none, 0, e, fun h => by simp at h, fun _ => rfl, Nat.le_refl _, by decide⟩
  · refine ⟨_, cap, e, fun _ => ⟨_, rfl, ?_⟩, (fun h => by cases h), h1, by unfold maxLen at h2; omega⟩
    subst e
    exact hc g rfl
theorem Owns.stay {base : Nat} {X : Nat → Prop} {w w' : World} {v : Value} {l : List UInt8} (h : Owns base w v l) (hs : Stay X w w') (hx : ∀ k, v.ownBlock = some k → ¬ X k) : Owns base w' v l := by
  refine ⟨h.1, ?_⟩
  rcases h.2 with h' | ⟨g, cap, cur, rfl, h1, hg, r⟩
  · exact .inl h'
  · exact .inr ⟨g, cap, cur, rfl, h1, (hs.block g (Array.getElem?_eq_some_iff.1 hg).1 (hx g rfl)).trans hg, r⟩
theorem Owns.stay0 {base : Nat} {w w' : World} {v : Value} {l : List UInt8} (h : Owns base w v l) (hs : Stay (fun _ => False) w w') : Owns base w' v l := h.stay hs (fun _ _ x => x)
theorem Owns.lt {base : Nat} {w : World} {v : Value} {l : List UInt8} (h : Owns base w v l) : ∀ k, v.ownBlock = some k → base ≤ k ∧ k < w.heap.size := World.ownsRow.lt h
theorem Owns.base {base base' : Nat} {w : World} {v : Value} {l : List UInt8} (h : Owns base w v l) (hb : ∀ k, v.ownBlock = some k → base' ≤ k) : Owns base' w v l := by
  refine ⟨h.1, ?_⟩
  rcases h.2 with h' | ⟨g, cap, cur, rfl, h1, r⟩
  · exact .inl h'
  · exact .inr ⟨g, cap, cur, rfl, hb g rfl, r⟩
theorem Owns.nil (base : Nat) (w : World) : Owns base w (.slice none 0 0) [] := World.ownsRow_nil w base _ _
theorem Owns.empty (base : Nat) (w : World) (hb : base ≤ w.heap.size) : Owns base (w.alloc (.cells #[] 5)) (.slice (some ⟨w.heap.size, 0, none⟩) 0 0) [] := World.ownsRow_lit w #[] 0 hb (Nat.zero_le _) rfl
theorem Owns.form {base : Nat} {w : World} {v : Value} {l : List UInt8} (h : Owns base w v l) : ∃ a c, v = .slice a l.length c := by
  rcases h.2 with ⟨e, hn⟩ | ⟨g, cap, cur, e, _⟩
  · exact ⟨none, 0, by rw [e, hn]⟩
  · exact ⟨_, _, e⟩
theorem Owns.size {base : Nat} {w : World} {v : Value} {l : List UInt8} (h : Owns base w v l) : l.length ≤ 9223372036854775807 := by
  rcases h.2 with ⟨_, h'⟩ | ⟨g, cap, cur, _, _, _, h1, h2, _⟩
  · omega
  · unfold maxLen at h2; omega

section
variable {P : Program}
/-- Bytes appended to a slice of the call's own, from whatever slice. -/
theorem run_append_slc (w : World) (base : Nat) (t ty : TypeId) (i : TypeInfo) (ht : P.underlying t = some (.slice 5)) (hi : P.info? 5 = some i) (hz : i.zero = some (.int .u8 0)) (hsize : i.size = 1) (hby : i.bytes = 1)
    (v x : Value) (l b : List UInt8) (hown : Owns base w v l) (hx : Slc w x b) (hlen : l.length + b.length ≤ 140737488355328) (hbase : base ≤ w.heap.size) :
    ∃ v' w', (Builtin.append_ #[t, t] ty #[v, x]).run P w = .ok v' w' ∧ Owns base w' v' (l ++ b) ∧ w.grownBy w' v.ownBlock ∧ (v'.ownBlock = v.ownBlock ∨ v'.ownBlock = some w.heap.size) := by
  obtain ⟨a0, c, rfl, hr, hn, _⟩ := hx
  have nil : b = [] → ∀ h : (Builtin.append_ #[t, t] ty #[v, .slice a0 b.length c]).run P w = .ok v w, ∃ v' w', (Builtin.append_ #[t, t] ty #[v, .slice a0 b.length c]).run P w = .ok v' w' ∧ Owns base w' v' (l ++ b) ∧ w.grownBy w' v.ownBlock ∧ (v'.ownBlock = v.ownBlock ∨ v'.ownBlock = some w.heap.size) := by
    rintro rfl h
    exact ⟨v, w, h, by rw [List.append_nil]; exact hown, ⟨rfl, rfl, rfl, Nat.le_refl _, fun _ _ _ => rfl⟩, .inl rfl⟩
  cases a0 with
  | none =>
    have hb : b = [] := by
      rcases Nat.eq_zero_or_pos b.length with h0 | h0
      · exact List.eq_nil_of_length_eq_zero h0
      · obtain ⟨ad, e, _⟩ := hr h0
        cases e
    refine nil hb ?_
    subst hb
    rw [hn rfl]
    exact run_append_owned_none (P := P) w base t ty _ i 1 ht hi v l.length (cellsB l) hown
  | some ad =>
    have hcells : ∀ j u, (cellsB b)[j]? = some u → w.cell? (ad.add j) = some u := by
      intro j u hu
      have h0 : 0 < b.length := by
        have := (List.getElem?_eq_some_iff.1 hu).1
        rw [length_cellsB] at this
        omega
      obtain ⟨ad', e, hc⟩ := hr h0
      cases e
      exact hc j u hu
    obtain ⟨v', w', hrun, h2, h3, _, h5⟩ := run_append_own_at (P := P) w base t ty _ i (.int .u8 0) 1 1 ht hi hz hsize hby rfl (by decide) v l.length (cellsB l) hown ad b.length c (cellsB b) (by rw [length_cellsB, Nat.mul_one]) hcells (oneCell_cellsB b)
      (by unfold maxLen; omega) (by omega) hbase
    exact ⟨v', w', hrun, owns_join h2 rfl rfl, h3, h5⟩

theorem wpList_append_slc {ops : Array Oper} {rest : List Oper} {o : Oper} {a : Act} {w : World} {Q : Exit → Act → World → Prop} (hgd : o.guard = none) (s x : Operand) (t : TypeId)
    (ho : o.op = .call { callee := .builtin .append, args := #[s, x], argTypes := #[t, t] }) (base : Nat) (i : TypeInfo) (ht : P.underlying t = some (.slice 5)) (hi : P.info? 5 = some i) (hz : i.zero = some (.int .u8 0)) (hsize : i.size = 1) (hby : i.bytes = 1)
    (vs vx : Value) (l b : List UInt8) (hs : a.eval s = vs) (hx : a.eval x = vx) (hown : Owns base w vs l) (hsrc : Slc w vx b) (hlen : l.length + b.length ≤ 140737488355328) (hbase : base ≤ w.heap.size)
    (h : ∀ v' w', Owns base w' v' (l ++ b) → w.grownBy w' vs.ownBlock → (v'.ownBlock = vs.ownBlock ∨ v'.ownBlock = some w.heap.size) → wpList P ops Q rest (a.put o.dst v') w') : wpList P ops Q (o :: rest) a w :=
  wpList_plain hgd fun _ hK => by
    obtain ⟨v', w', hrun, h2, h3, h4⟩ := run_append_slc (P := P) w base t o.type i ht hi hz hsize hby vs vx l b hown hsrc hlen hbase
    unfold Oper.wp execOp
    simp only [ho, resolve, invoke, builtin, Sem.run_bind, Sem.run_pure, Result.andThen_ok, List.map_toArray, List.map_cons, List.map_nil, hs, hx, hrun]
    exact hK _ _ (h v' w' h2 h3 h4)
/-- The same as one step of a region that draws. -/
theorem step_append_slc {ops : Array Oper} {o : Oper} {a : Act} {w : World} {K : Act → World → Prop} {Q : Exit → Act → World → Prop} {E : Prop} (hgd : o.guard = none) (s x : Operand) (t : TypeId)
    (ho : o.op = .call { callee := .builtin .append, args := #[s, x], argTypes := #[t, t] }) (base : Nat) (i : TypeInfo) (ht : P.underlying t = some (.slice 5)) (hi : P.info? 5 = some i) (hz : i.zero = some (.int .u8 0)) (hsize : i.size = 1) (hby : i.bytes = 1)
    (vs vx : Value) (l b : List UInt8) (hs : a.eval s = vs) (hx : a.eval x = vx) (hown : Owns base w vs l) (hsrc : Slc w vx b) (hlen : l.length + b.length ≤ 140737488355328) (hbase : base ≤ w.heap.size)
    (h : ∀ v' w', Owns base w' v' (l ++ b) → w.grownBy w' vs.ownBlock → (v'.ownBlock = vs.ownBlock ∨ v'.ownBlock = some w.heap.size) → K (a.put o.dst v') w') :
    if Region.wanted o (yielded ops a.tmps) = true then Oper.wp P o a w K Q else E := by
  have hw : Region.wanted o (yielded ops a.tmps) = true := by simp [Region.wanted, hgd]
  rw [if_pos hw]
  obtain ⟨v', w', hrun, h2, h3, h4⟩ := run_append_slc (P := P) w base t o.type i ht hi hz hsize hby vs vx l b hown hsrc hlen hbase
  unfold Oper.wp execOp
  simp only [ho, resolve, invoke, builtin, Sem.run_bind, Sem.run_pure, Result.andThen_ok, List.map_toArray, List.map_cons, List.map_nil, hs, hx, hrun]
  exact h v' w' h2 h3 h4
end

/-- slices.Clone of bytes. -/
theorem clone_slc (w : World) (x : Value) (b : List UInt8) (hx : Slc w x b) (hlen : b.length ≤ 140737488355328) :
    Calls Tryd.prog 43 #[x] w fun e w' => ∃ v, e = .returned v ∧ Owns w.heap.size w' v b ∧ Stay (fun _ => False) w w' := by
  obtain ⟨i0, hi, hz0, hz1, hz2⟩ := info_parts info5
  have hq := @Lib.run_eql_slice_nil
  have HI := Lib.hid hi
  have HZ0 := Lib.hid hz0
  have HZ1 := Lib.hid hz1
  have HZ2 := Lib.hid hz2
  have HX := Lib.hid (hx.alloc (.cells #[] 5))
  have how := Owns.empty w.heap.size w (Nat.le_refl _)
  obtain ⟨a0, c, rfl, hr, hn, _⟩ := hx
  have HR := Lib.hid hr
  clear hi hz0 hz1 hz2 hr
  cases a0 with
  | none =>
    obtain rfl := hn rfl
    have hb : b = [] := by
      rcases Nat.eq_zero_or_pos b.length with h0 | h0
      · exact List.eq_nil_of_length_eq_zero h0
      · obtain ⟨ad, e, _⟩ := HR.out h0
        cases e
    subst hb
    clear HR HX how hn
    go_enter Tryd.func43, Tryd.ntmps43
    go_wp2
    go_ret
    exact ⟨_, rfl, Owns.nil _ _, Stay.refl _ _⟩
  | some ad =>
    clear HR hn
    go_enter Tryd.func43, Tryd.ntmps43
    go_wp2_with (at_builtin; refine wpList_append_slc rfl (.tmp 5) (.tmp 6) 36 rfl w.heap.size i0 Tryd.underlying36 HI.out HZ0.out HZ1.out HZ2.out (.slice (some ⟨w.heap.size, 0, none⟩) 0 0) _ [] b rfl rfl how HX.out (by simp; omega) (by simp) ?_; intro v' w1 hown hgr hnn)
    go_ret
    exact ⟨v', rfl, by simpa using hown, (Stay.alloc (X := fun _ => False) w _).andThen (Stay.grown (X := fun k => k = w.heap.size) hgr (fun k hk => by simpa [Value.ownBlock] using hk.symm)) (fun k hk e => by omega)⟩

/-- A writer in block p that has laid l; what it has lies in the blocks of X. -/
structure WrAt (X : Nat → Prop) (w : World) (p : Nat) (l : List UInt8) : Prop where
  own : X p
  ex : ∃ v, w.heap[p]? = some (.cells #[v] 93 (0, 0)) ∧ Owns 0 w v l ∧ ∀ k, v.ownBlock = some k → X k ∧ k ≠ p

theorem WrAt.stay {X Y : Nat → Prop} {w w' : World} {p : Nat} {l : List UInt8} (h : WrAt X w p l) (hs : Stay Y w w') (hxy : ∀ k, X k → k < w.heap.size → ¬ Y k) : WrAt X w' p l := by
  obtain ⟨hp, v, hv, ho, hk⟩ := h
  have hlt := lt_of_block hv
  exact ⟨hp, v, (hs.block p hlt (hxy p hp hlt)).trans hv, ho.stay hs (fun k e => hxy k (hk k e).1 (ho.lt k e).2), hk⟩
theorem WrAt.stay0 {X : Nat → Prop} {w w' : World} {p : Nat} {l : List UInt8} (h : WrAt X w p l) (hs : Stay (fun _ => False) w w') : WrAt X w' p l := h.stay hs (fun _ _ _ x => x)
theorem WrAt.mono {X Y : Nat → Prop} {w : World} {p : Nat} {l : List UInt8} (h : WrAt X w p l) (hxy : ∀ k, X k → Y k) : WrAt Y w p l := by
  obtain ⟨hp, v, hv, ho, hk⟩ := h
  exact ⟨hxy p hp, v, hv, ho, fun k e => ⟨hxy k (hk k e).1, (hk k e).2⟩⟩
theorem WrAt.new (w : World) : WrAt (fun k => w.heap.size ≤ k) (w.alloc (.cells #[.slice none 0 0] 93)) w.heap.size [] :=
  ⟨Nat.le_refl _, _, heap_alloc_new w _, Owns.nil _ _, fun k h => by cases h⟩
theorem WrAt.size {X : Nat → Prop} {w : World} {p : Nat} {l : List UInt8} (h : WrAt X w p l) : l.length ≤ 9223372036854775807 := by
  obtain ⟨_, v, _, ho, _⟩ := h
  exact ho.size

theorem new_any (w : World) : Calls Tryd.prog 21 #[] w fun e w' => e = .returned (.pointer (some ⟨w.heap.size, 0, none⟩)) ∧ w' = w.alloc (.cells #[.slice none 0 0] 93) := by
  go_enter Tryd.func21, Tryd.ntmps21
  go_wp2
  go_ret
  exact ⟨rfl, rfl⟩

theorem lay_nil (x : Value) (w : World) : Calls Tryd.prog 41 #[.pointer none, x] w fun e w' => e = .returned (.pointer none) ∧ w = w' := by
  go_enter Tryd.func41, Tryd.ntmps41
  go_wp2
  go_ret
  exact ⟨rfl, rfl⟩

theorem lay_any (X : Nat → Prop) (w : World) (p : Nat) (l b : List UInt8) (x : Value) (h : WrAt X w p l) (hx : Slc w x b) (hlen : l.length + b.length ≤ 140737488355328) :
    Calls Tryd.prog 41 #[.pointer (some ⟨p, 0, none⟩), x] w fun e w' => e = .returned (.pointer (some ⟨p, 0, none⟩)) ∧ WrAt (fun k => X k ∨ w.heap.size ≤ k) w' p (l ++ b) ∧ Stay X w w' := by
  obtain ⟨hp, v, hv, ho, hk⟩ := h
  obtain ⟨i0, hi, hz0, hz1, hz2⟩ := info_parts info5
  have HI := Lib.hid hi
  have HZ0 := Lib.hid hz0
  have HZ1 := Lib.hid hz1
  have HZ2 := Lib.hid hz2
  have HX := Lib.hid hx
  have HO := Lib.hid ho
  have HV := Lib.hid hv
  have HK := Lib.hid hk
  have hc := cell_of_one hv
  have hlt := lt_of_block hv
  clear hi hz0 hz1 hz2 hx ho hv hk
  go_enter Tryd.func41, Tryd.ntmps41
  go_wp2_with (at_builtin; refine wpList_append_slc rfl (.tmp 11) (.tmp 12) 36 rfl 0 i0 Tryd.underlying36 HI.out HZ0.out HZ1.out HZ2.out v x l b rfl rfl HO.out HX.out hlen (Nat.zero_le _) ?_; intro v' w1 hown hgr hnn; have HB := Lib.hid ((hgr.block p hlt (fun e => (HK.out p e.symm).2 rfl)).trans HV.out); have hc1 := cell_of_one HB.out; have hf1 := free_of_one HB.out; have HNN := Lib.hid hnn; clear hnn; obtain ⟨a1, c1, rfl⟩ := hown.form)
  go_ret
  have hown' : Owns 0 w1 (.slice a1 (l.length + b.length) c1) (l ++ b) := by rw [← List.length_append]; exact hown
  have hk : ∀ k, (Value.slice a1 (l.length + b.length) c1).ownBlock = some k → (X k ∨ w.heap.size ≤ k) ∧ k ≠ p := by
    intro k e
    have e' : (Value.slice a1 (l ++ b).length c1).ownBlock = some k := by rw [List.length_append]; exact e
    rcases HNN.out with h | h
    · rw [e'] at h
      exact ⟨.inl (HK.out k h.symm).1, (HK.out k h.symm).2⟩
    · rw [e'] at h
      cases h
      exact ⟨.inr (Nat.le_refl _), by omega⟩
  refine ⟨rfl, ⟨.inl hp, _, one_setCell HB.out, ownsRow_setCell_other (a := ⟨p, 0, none⟩) hown' (fun e => (hk p e).2 rfl) _, hk⟩, (Stay.grown (X := X) hgr (fun k e => (HK.out k e).1)).trans (Stay.setCell _ _ _ hp)⟩

/-- Where all that the writer has lies behind base. -/
theorem lay_base (base : Nat) (w : World) (p : Nat) (l b : List UInt8) (x : Value) (h : WrAt (fun k => base ≤ k) w p l) (hx : Slc w x b) (hlen : l.length + b.length ≤ 140737488355328) (hb : base ≤ w.heap.size) :
    Calls Tryd.prog 41 #[.pointer (some ⟨p, 0, none⟩), x] w fun e w' => e = .returned (.pointer (some ⟨p, 0, none⟩)) ∧ WrAt (fun k => base ≤ k) w' p (l ++ b) ∧ Stay (fun k => base ≤ k) w w' :=
  (lay_any _ w p l b x h hx hlen).mono fun e w' ⟨h1, h2, h3⟩ => ⟨h1, h2.mono (fun k hk => by rcases hk with hk | hk <;> omega), h3⟩

theorem uint_nil (n : Nat) (w : World) (hn : (n : Int) ≤ 18446744073709551615) : Calls Tryd.prog 22 #[.pointer none, .int .u64 n] w fun e w' => e = .returned (.pointer none) ∧ Stay (fun _ => False) w w' := by
  go_enter Tryd.func22, Tryd.ntmps22
  go_wp2_with fail
  refine (spell_any n w hn).mono ?_
  rintro e w' ⟨v, rfl, _, hst⟩
  go_wp2_with fail
  refine (lay_nil _ _).mono ?_
  rintro e w1 ⟨rfl, rfl⟩
  go_wp2
  go_ret
  exact ⟨rfl, hst⟩

theorem uint_any (X : Nat → Prop) (w : World) (p : Nat) (l : List UInt8) (n : Nat) (h : WrAt X w p l) (hn : (n : Int) ≤ 18446744073709551615) (hlen : l.length + 9 ≤ 140737488355328) :
    Calls Tryd.prog 22 #[.pointer (some ⟨p, 0, none⟩), .int .u64 n] w fun e w' => e = .returned (.pointer (some ⟨p, 0, none⟩)) ∧ WrAt (fun k => X k ∨ w.heap.size ≤ k) w' p (l ++ spellB n) ∧ Stay X w w' := by
  have hl : l.length + (spellB n).length ≤ 140737488355328 := by
    have := kOf_le n
    rw [length_spellB]
    omega
  have hp := h.own
  go_enter Tryd.func22, Tryd.ntmps22
  go_wp2_with fail
  refine (spell_any n w hn).mono ?_
  rintro e w' ⟨v, rfl, how, hst⟩
  go_wp2_with fail
  refine (lay_any X _ p l _ _ (h.stay0 hst) how.slc hl).mono ?_
  rintro e w1 ⟨rfl, hw1, hst1⟩
  go_wp2
  go_ret
  exact ⟨rfl, hw1.mono (fun k hk => by rcases hk with hk | hk; exact .inl hk; exact .inr (Nat.le_trans hst.size hk)), (hst.mono (fun _ x => x.elim)).trans hst1⟩

/-- A truth as bytes. -/
def boolB (b : Bool) : List UInt8 := [if b then 1 else 0]

theorem slc_one (w : World) (c : UInt8) (x : Int) (hx : x = (c.toNat : Int)) : Slc (w.alloc (.cells #[.int .u8 x] 5)) (.slice (some ⟨w.heap.size, 0, none⟩) 1 1) [c] := by
  subst hx
  exact (Owns.one w c w.heap.size (Nat.le_refl _) _ rfl).slc

theorem done_nil (w : World) : Calls Tryd.prog 23 #[.pointer none] w fun e w' => e = .returned (.slice none 0 0) ∧ w = w' := by
  go_enter Tryd.func23, Tryd.ntmps23
  go_wp2
  go_ret
  exact ⟨rfl, rfl⟩

theorem done_any (X : Nat → Prop) (w : World) (p : Nat) (l : List UInt8) (h : WrAt X w p l) (hlen : l.length ≤ 140737488355328) :
    Calls Tryd.prog 23 #[.pointer (some ⟨p, 0, none⟩)] w fun e w' => ∃ v, e = .returned v ∧ Owns w.heap.size w' v l ∧ Stay (fun _ => False) w w' := by
  obtain ⟨hp, v, hv, ho, hk⟩ := h
  have hc := cell_of_one hv
  have HO := Lib.hid ho
  clear ho hk hv
  go_enter Tryd.func23, Tryd.ntmps23
  go_wp2_with fail
  refine (clone_slc w v l HO.out.slc hlen).mono ?_
  rintro e w1 ⟨v1, rfl, how, hst⟩
  go_wp2
  go_ret
  exact ⟨v1, rfl, how, hst⟩

end Go.Proofs.YthbcgimmbcdnmaaDoor.Pk
