/-
  merge's laws: how many there are; orders of one's own.
-/
import Derived.Test.YtdfhjmodacjilaaMgL
namespace Go.Proofs.Ytdfhjmodacjilaa.Mg
open Go.RowKit Go.Maps Me
set_option maxRecDepth 100000
set_option linter.unusedVariables false

theorem sumL_snoc {Ls : List (List En)} {j : Nat} {L : List En} (h : Ls[j]? = some L) : sumL (Ls.take (j + 1)) = sumL (Ls.take j) + L.length := by
  rw [List.take_add_one, h]
  simp [sumL]
theorem sumL_take (Ls : List (List En)) (j : Nat) : sumL (Ls.take j) ≤ sumL Ls := by
  conv => rhs; rw [← List.take_append_drop j Ls]
  simp only [sumL, List.map_append, List.sum_append]
  omega
/-- Whether there are more than are gone through. -/
def manyB (Ls : List (List En)) : Bool := decide (51 < Ls.length) || decide (400 < sumL Ls)
set_option maxHeartbeats 1200000 in
theorem many_any (w : World) (x : Value) (Ls : List (List En)) (hx : ESs w x Ls) (hsz : ∀ L ∈ Ls, L.length ≤ 140737488355328) :
    Calls Try.prog 4 #[x] w fun e w' => e = .returned (.bool (manyB Ls)) ∧ Stay (fun _ => False) w w' := by
  have HX := Lib.hid hx
  obtain ⟨a0, c, rfl⟩ := hx.form
  have HSZ := Lib.hid hsz
  have HLC := Lib.hid (show Ls.length ≤ 9223372036854775807 from by obtain ⟨a1, c1, e, h1, h2, _⟩ := hx; cases e; omega)
  clear hx hsz
  obtain ⟨R, hR⟩ : ∃ R, R = manyB Ls := ⟨_, rfl⟩
  rw [← hR]
  have HRE := Lib.hid hR
  clear hR
  go_enter Try.func4, Try.ntmps4
  go_wp2
  go_loopw [3, 4] (fun n i wr => ∃ j m : Nat, i = .int .i64 (j : Int) ∧ n = .int .i64 (m : Int) ∧ j ≤ 51 ∧ m ≤ 400 ∧ Hid (m = sumL (Ls.take j)) ∧ j ≤ Ls.length ∧ Stay (fun _ => False) w wr) (fun _ i _ => Ls.length - (intOf i).toNat)
  case atStart => exact ⟨0, 0, rfl, rfl, by omega, by omega, Lib.hid rfl, Nat.zero_le _, Stay.refl _ _⟩
  case round =>
    obtain ⟨j, m, rfl, rfl, hj51, hm, HM, hj, hst⟩ := hrel
    have HS := Lib.hid hst
    clear hst
    by_cases hlt : j < Ls.length
    · obtain ⟨L, hL⟩ : ∃ L, Ls[j]? = some L := ⟨_, List.getElem?_eq_getElem hlt⟩
      obtain ⟨g, o, v, rfl, cv, hv⟩ := (HX.out.stay0 HS.out).at hL
      obtain ⟨va, vc, rfl⟩ := hv.form
      have hll := HSZ.out L (List.mem_of_getElem? hL)
      have HL := Lib.hid hL
      have hll2 : (L.length : Int) ≤ 140737488355328 := by omega
      clear hv hL
      by_cases h1 : m + L.length ≤ 400
      · have h1I : ¬ (400 : Int) < (m : Int) + (L.length : Int) := by omega
        by_cases h2 : j ≤ 50
        · have h2I : ¬ (50 : Int) < (j : Int) := by omega
          go_wp2
          refine ⟨⟨j + 1, m + L.length, by go_num, by go_num, by omega, h1, Lib.hid (by rw [sumL_snoc HL.out, ← HM.out]), hlt, HS.out⟩, by simp [intOf]; omega⟩
        · have h2I : (50 : Int) < (j : Int) := by omega
          have hRt : R = true := by rw [HRE.out]; unfold manyB; rw [decide_eq_true (show 51 < Ls.length by omega)]; rfl
          subst hRt
          go_wp2
          go_ret
          exact ⟨rfl, HS.out⟩
      · have h1I : (400 : Int) < (m : Int) + (L.length : Int) := by omega
        have hRt : R = true := by
          rw [HRE.out]
          unfold manyB
          have h3 := sumL_take Ls (j + 1)
          rw [sumL_snoc HL.out, ← HM.out] at h3
          rw [decide_eq_true (show 400 < sumL Ls by omega), Bool.or_true]
        subst hRt
        go_wp2
        go_ret
        exact ⟨rfl, HS.out⟩
    · obtain rfl : j = Ls.length := by omega
      have hRt : R = false := by
        have h1 := HM.out
        rw [List.take_length] at h1
        rw [HRE.out]
        unfold manyB
        rw [decide_eq_false (show ¬ 51 < Ls.length by omega), decide_eq_false (show ¬ 400 < sumL Ls by omega)]
        rfl
      subst hRt
      go_wp2
      go_ret
      exact ⟨rfl, HS.out⟩

theorem info_row : (Try.prog.info? 25).map (fun i => (i.zero, i.size, i.bytes)) = some (some (.slice none 0 0), 1, 24) := by kernel_rfl
/-- Orders of the call's own. -/
def LsO (base : Nat) (w : World) (v : Value) (Ls : List (List En)) : Prop := ∃ vs : List Value, w.ownsRow base 25 1 v Ls.length vs ∧ ∀ (i : Nat) (L : List En), Ls[i]? = some L → ∃ u, vs[i]? = some u ∧ EnO base w u L
section
variable {base : Nat} {w w' : World} {v : Value} {Ls : List (List En)}
theorem LsO.nil (base : Nat) (w : World) : LsO base w (.slice none 0 0) [] := ⟨[], World.ownsRow_nil w base _ _, fun i L h => by simp at h⟩
theorem LsO.stay0 (h : LsO base w v Ls) (hs : Stay (fun _ => False) w w') : LsO base w' v Ls := by
  obtain ⟨vs, h1, h2⟩ := h
  refine ⟨vs, ⟨h1.1, ?_⟩, fun i L hL => ?_⟩
  · rcases h1.2 with h' | ⟨g, cap, cur, rfl, h4, hg, r⟩
    · exact .inl h'
    · exact .inr ⟨g, cap, cur, rfl, h4, (hs.block g (Array.getElem?_eq_some_iff.1 hg).1 (fun x => x)).trans hg, r⟩
  · obtain ⟨u, k1, k2⟩ := h2 i L hL
    exact ⟨u, k1, k2.stay0 hs⟩
theorem LsO.form (h : LsO base w v Ls) : ∃ a c, v = .slice a Ls.length c := by
  obtain ⟨vs, h1, _⟩ := h
  rcases h1.2 with ⟨e, hn⟩ | ⟨g, cap, cur, e, _⟩
  · exact ⟨none, 0, by rw [e, hn]⟩
  · exact ⟨_, _, e⟩
theorem LsO.lt (h : LsO base w v Ls) : ∀ k, v.ownBlock = some k → base ≤ k ∧ k < w.heap.size := by
  obtain ⟨vs, h1, _⟩ := h
  exact World.ownsRow.lt h1
theorem LsO.ess (h : LsO base w v Ls) : ESs w v Ls := by
  obtain ⟨vs, h1, h2⟩ := h
  have hc := fun g hg => World.ownsRow.cells (g := g) h1 hg
  rcases h1.2 with ⟨e, hn⟩ | ⟨g, cap, cur, e, _, _, k1, k2, _⟩
  · exact ⟨none, 0, by rw [e, hn], by omega, by decide, fun h0 => by omega⟩
  · refine ⟨_, cap, e, k1, by unfold maxLen at k2; omega, fun _ => ⟨g, 0, rfl, fun i L hL => ?_⟩⟩
    obtain ⟨u, q1, q2⟩ := h2 i L hL
    subst e
    have := hc g rfl i u q1
    rw [add_at] at this
    exact ⟨u, this, q2.ens⟩
theorem run_append_ls (t ty : TypeId) (ht : Try.prog.underlying t = some (.slice 25)) (hown : LsO base w v Ls) (g c : Nat) (u : Value) (L : List En) (hu : EnO base w u L) (h1 : u.oneCell' = true) (hc : w.cell? ⟨g, 0, none⟩ = some u) (hlen : Ls.length ≤ 1000000) (hbase : base ≤ w.heap.size) :
    ∃ v' w', (Builtin.append_ #[t, t] ty #[v, .slice (some ⟨g, 0, none⟩) 1 c]).run Try.prog w = .ok v' w' ∧ LsO base w' v' (Ls ++ [L]) ∧ Stay (fun k => v.ownBlock = some k) w w' ∧ (v'.ownBlock = v.ownBlock ∨ v'.ownBlock = some w.heap.size) := by
  obtain ⟨vs, k1, k2⟩ := hown
  obtain ⟨i0, hi, hz, hsize, hby⟩ := info_parts info_row
  have hty : ∀ k, v.ownBlock = some k → ∃ cs fr, w.heap[k]? = some (.cells cs 25 fr) := by
    intro k hk
    rcases k1.2 with ⟨e, _⟩ | ⟨g', cap, cur, e, h4, hg, _⟩
    · rw [e] at hk; cases hk
    · rw [e] at hk
      have hk' : g' = k := Option.some.inj hk
      subst hk'
      exact ⟨_, _, hg⟩
  obtain ⟨v', w', q1, q2, q3, _, q5⟩ := run_append_own_at (P := Try.prog) w base t ty _ i0 (.slice none 0 0) 1 24 ht hi hz hsize hby rfl (by decide) v Ls.length vs k1 ⟨g, 0, none⟩ 1 c [u] rfl
    (fun j x hx => by
      have hj : j = 0 := by
        have := (List.getElem?_eq_some_iff.1 hx).1
        simp at this
        omega
      subst hj
      simp at hx
      rw [← hx, add_at]
      exact hc) (fun x hx => by simp at hx; subst hx; exact h1) (by unfold maxLen; omega) (by omega) hbase
  have hst : Stay (fun k => v.ownBlock = some k) w w' := Stay.grown q3 (fun k hk => hk)
  have hne : ∀ x M, EnO base w x M → EnO base w' x M := fun x M hx => hx.stay hst (fun k hk hv => by
    obtain ⟨cs, fr, hg⟩ := (EnO.ent hx).2 k hk
    obtain ⟨cs', fr', hg'⟩ := hty k hv
    exact ne_ty hg hg' (by decide) rfl)
  refine ⟨v', w', q1, ⟨vs ++ [u], by rw [List.length_append, List.length_singleton]; exact q2, fun i M hM => ?_⟩, hst, q5⟩
  have hvl : vs.length = Ls.length := by rw [k1.1, Nat.mul_one]
  by_cases hi' : i < Ls.length
  · rw [List.getElem?_append_left hi'] at hM
    obtain ⟨x, r1, r2⟩ := k2 i M hM
    exact ⟨x, by rw [List.getElem?_append_left (by omega)]; exact r1, hne x M r2⟩
  · have hi2 : i = Ls.length := by
      have := (List.getElem?_eq_some_iff.1 hM).1
      rw [List.length_append, List.length_singleton] at this
      omega
    subst hi2
    rw [List.getElem?_append_right (Nat.le_refl _), Nat.sub_self] at hM
    cases hM
    exact ⟨u, by rw [List.getElem?_append_right (by omega), hvl, Nat.sub_self]; rfl, hne u L hu⟩
theorem wpList_append_ls {ops : Array Oper} {rest : List Oper} {o : Oper} {a : Act} {Q : Exit → Act → World → Prop} (hgd : o.guard = none) (s y : Operand) (t : TypeId)
    (ho : o.op = .call { callee := .builtin .append, args := #[s, y], argTypes := #[t, t] }) (ht : Try.prog.underlying t = some (.slice 25)) (g c : Nat) (u : Value) (L : List En) (hs : a.eval s = v) (hy : a.eval y = .slice (some ⟨g, 0, none⟩) 1 c) (hown : LsO base w v Ls) (hu : EnO base w u L) (h1 : u.oneCell' = true) (hc : w.cell? ⟨g, 0, none⟩ = some u) (hlen : Ls.length ≤ 1000000) (hbase : base ≤ w.heap.size)
    (h : ∀ v' w', LsO base w' v' (Ls ++ [L]) → Stay (fun k => v.ownBlock = some k) w w' → (v'.ownBlock = v.ownBlock ∨ v'.ownBlock = some w.heap.size) → wpList Try.prog ops Q rest (a.put o.dst v') w') : wpList Try.prog ops Q (o :: rest) a w :=
  wpList_plain hgd fun _ hK => by
    obtain ⟨v', w', hrun, h2, h3, h4⟩ := run_append_ls t o.type ht hown g c u L hu h1 hc hlen hbase
    unfold Oper.wp execOp
    simp only [ho, resolve, invoke, builtin, Sem.run_bind, Sem.run_pure, Result.andThen_ok, List.map_toArray, List.map_cons, List.map_nil, hs, hy, hrun]
    exact hK _ _ (h v' w' h2 h3 h4)
end

set_option maxHeartbeats 1200000 in
theorem owns_any (w : World) (x : Value) (Ls : List (List En)) (hx : ESs w x Ls) (hlen : Ls.length ≤ 1000) (hsz : ∀ L ∈ Ls, L.length ≤ 1000) :
    Calls Try.prog 8 #[x] w fun e w' => ∃ v, e = .returned v ∧ LsO w.heap.size w' v Ls ∧ Stay (fun _ => False) w w' := by
  have HX := Lib.hid hx
  obtain ⟨a0, c, rfl⟩ := hx.form
  have HSZ := Lib.hid hsz
  have HLEN := Lib.hid hlen
  have hlc : (Ls.length : Int) ≤ 1000 := by omega
  clear hx hsz hlen
  go_enter Try.func8, Try.ntmps8
  go_wp2
  go_loopw [3, 4] (fun v i wr => ∃ j : Nat, i = .int .i64 (j : Int) ∧ j ≤ Ls.length ∧ Hid (LsO w.heap.size wr v (Ls.take j)) ∧ Stay (fun _ => False) w wr) (fun _ i _ => Ls.length - (intOf i).toNat)
  case atStart => exact ⟨0, rfl, Nat.zero_le _, Lib.hid (LsO.nil _ _), Stay.refl _ _⟩
  case round =>
    obtain ⟨j, rfl, hj, HO, hst⟩ := hrel
    have HS := Lib.hid hst
    clear hst
    by_cases hlt : j < Ls.length
    · obtain ⟨L, hL⟩ : ∃ L, Ls[j]? = some L := ⟨_, List.getElem?_eq_getElem hlt⟩
      obtain ⟨g, o, v, rfl, cv, hv⟩ := (HX.out.stay0 HS.out).at hL
      have HL := Lib.hid hL
      have HOWN := Lib.hid (own_any wr v L hv (by have := HSZ.out L (List.mem_of_getElem? hL); omega))
      obtain ⟨va, vc, rfl⟩ := hv.form
      have HTJ := Lib.hid (show (Ls.take j).length = j from by rw [List.length_take]; omega)
      have HTS := Lib.hid (show Ls.take (j + 1) = Ls.take j ++ [L] from by rw [List.take_add_one, hL]; rfl)
      clear hv hL
      go_wp2_with fail
      refine HOWN.out.mono ?_
      rintro e w1 ⟨u, rfl, hu, hs1⟩
      have HU := Lib.hid hu
      have HS1 := Lib.hid hs1
      obtain ⟨ua, uc, rfl⟩ := hu.form
      clear hu hs1 HOWN
      have HA2 := Lib.hid (show Stay (fun _ => False) w1 (w1.alloc (.cells #[.slice ua L.length uc] 25)) from Stay.alloc _ _)
      have HC2 := Lib.hid (show (w1.alloc (.cells #[.slice ua L.length uc] 25)).cell? ⟨w1.heap.size, 0, none⟩ = some (.slice ua L.length uc) from (cell_of_row _ _ 0 _ _ _ (heap_alloc_new w1 _)).trans rfl)
      go_wp2_with (first
        | (at_builtin
           refine wpList_append_ls rfl (.tmp 11) (.tmp 17) 22 rfl Try.underlying22 w1.heap.size 1 (.slice ua L.length uc) L rfl rfl ((HO.out.stay0 HS1.out).stay0 HA2.out) (((HU.out.rebase (fun k hk => Nat.le_trans HS.out.size (HU.out.lt k hk).1)).stay0 HA2.out)) rfl HC2.out (by rw [HTJ.out]; have := HLEN.out; omega) (Nat.le_trans (HS.out.trans HS1.out).size HA2.out.size) ?_
           intro v3 w3 ho3 hs3 hb3
           have HO3 := Lib.hid ho3
           have HS3 := Lib.hid (stay_seal ((((HS.out.trans HS1.out).trans HA2.out).mono (fun _ x => x.elim)).trans hs3) (fun k hk => (HO.out.lt k hk).1))
           clear ho3 hs3 hb3))
      refine ⟨⟨j + 1, by go_num, hlt, by rw [HTS.out]; exact HO3, HS3.out⟩, by simp [intOf]; omega⟩
    · obtain rfl : j = Ls.length := by omega
      go_wp2
      go_ret
      exact ⟨_, rfl, by have h1 := HO.out; rwa [List.take_length] at h1, HS.out⟩
end Go.Proofs.Ytdfhjmodacjilaa.Mg
