/-
  log: the records that lie from a sector on, taken up (read).
-/
import Derived.Test.YthbcgimmbcdnmaaDoorLoG
namespace Go.Proofs.YthbcgimmbcdnmaaDoor.Lo
open Go.RowKit
open Pk (Slc Owns errV errV_pos errV_zero)
open Tg (writeD flushD down DOk)
set_option maxRecDepth 100000
set_option linter.unusedVariables false

/-- Records' cells: numbers and slices. -/
def rcV : Nat → List Value → List Value
  | _, [] => []
  | s, u :: us => .int .i64 (s : Int) :: u :: rcV (s + 1) us
theorem rcV_snoc : ∀ (us : List Value) (s : Nat) (u : Value), rcV s (us ++ [u]) = rcV s us ++ [.int .i64 ((s + us.length : Nat) : Int), u]
  | [], s, u => rfl
  | v :: us, s, u => by
    show .int .i64 (s : Int) :: v :: rcV (s + 1) (us ++ [u]) = .int .i64 (s : Int) :: v :: (rcV (s + 1) us ++ _)
    rw [rcV_snoc us (s + 1) u, show s + 1 + us.length = s + (v :: us).length by simp; omega]
theorem rcV_at : ∀ (us : List Value) (s i : Nat) (u : Value), us[i]? = some u → (rcV s us)[2 * i]? = some (.int .i64 ((s + i : Nat) : Int)) ∧ (rcV s us)[2 * i + 1]? = some u
  | [], s, i, u, h => by simp at h
  | v :: us, s, 0, u, h => by
    simp at h
    subst h
    exact ⟨rfl, rfl⟩
  | v :: us, s, i + 1, u, h => by
    have h1 := rcV_at us (s + 1) i u (by simpa using h)
    rw [show 2 * (i + 1) = 2 * i + 1 + 1 by omega]
    simp only [rcV, List.getElem?_cons_succ]
    rw [show s + (i + 1) = s + 1 + i by omega]
    exact h1
/-- Records of one's own. -/
def RcO (base : Nat) (w : World) (v : Value) (s : Nat) (Q : List (List UInt8)) : Prop :=
  ∃ ds : List Value, ds.length = Q.length ∧ w.ownsRow base 44 2 v Q.length (rcV s ds) ∧ ∀ (i : Nat) (x : List UInt8) (u : Value), Q[i]? = some x → ds[i]? = some u → Owns base w u x
theorem row_lt {base n sz : Nat} {w : World} {t : TypeId} {v : Value} {vs : List Value} (h : w.ownsRow base t sz v n vs) : ∀ k, v.ownBlock = some k → base ≤ k ∧ Ty w k t := by
  intro k hk
  rcases h.2 with ⟨e, _⟩ | ⟨g', cap, cur, e, h4, hg, _⟩
  · rw [e] at hk; cases hk
  · rw [e] at hk
    have hk' : g' = k := Option.some.inj hk
    subst hk'
    exact ⟨h4, _, _, hg⟩
theorem row_stay {X : Nat → Prop} {base n sz : Nat} {w w' : World} {t : TypeId} {v : Value} {vs : List Value} (h : w.ownsRow base t sz v n vs) (hs : Stay X w w') (hx : ∀ k, v.ownBlock = some k → ¬ X k) : w'.ownsRow base t sz v n vs := by
  refine ⟨h.1, ?_⟩
  rcases h.2 with h' | ⟨g, cap, cur, rfl, h4, hg, r⟩
  · exact .inl h'
  · exact .inr ⟨g, cap, cur, rfl, h4, (hs.block g (Array.getElem?_eq_some_iff.1 hg).1 (hx g rfl)).trans hg, r⟩
section
variable {base s : Nat} {w w' : World} {v : Value} {Q : List (List UInt8)} {X : Nat → Prop}
theorem RcO.stay (h : RcO base w v s Q) (hs : Stay X w w') (hx : ∀ k, base ≤ k → Ty w k 44 ∨ Ty w k 5 → ¬ X k) : RcO base w' v s Q := by
  obtain ⟨ds, h1, h2, h3⟩ := h
  refine ⟨ds, h1, row_stay h2 hs (fun k hk => hx k (row_lt h2 k hk).1 (.inl (row_lt h2 k hk).2)), fun i x u hx' hu => (h3 i x u hx' hu).stay hs (fun k hk => ?_)⟩
  have := row_lt (h3 i x u hx' hu) k hk
  exact hx k this.1 (.inr this.2)
theorem RcO.stay0 (h : RcO base w v s Q) (hs : Stay (fun _ => False) w w') : RcO base w' v s Q := h.stay hs (fun _ _ _ x => x)
theorem RcO.nil (base : Nat) (w : World) (s : Nat) : RcO base w (.slice none 0 0) s [] := ⟨[], rfl, World.ownsRow_nil w base _ _, fun i x u h => by simp at h⟩
theorem RcO.form (h : RcO base w v s Q) : ∃ a c, v = .slice a Q.length c := by
  obtain ⟨ds, h1, h2, h3⟩ := h
  rcases h2.2 with ⟨e, hn⟩ | ⟨g, cap, cur, e, _⟩
  · exact ⟨none, 0, by rw [e, hn]⟩
  · exact ⟨_, _, e⟩
theorem RcO.at (h : RcO base w v s Q) {i : Nat} {x : List UInt8} (hi : Q[i]? = some x) : ∃ g c u, v = .slice (some ⟨g, 0, none⟩) Q.length c ∧ w.cell? ⟨g, i * 2, none⟩ = some (.int .i64 ((s + i : Nat) : Int)) ∧ w.cell? ⟨g, i * 2 + 1, none⟩ = some u ∧ Owns base w u x := by
  obtain ⟨ds, h1, h2, h3⟩ := h
  have hil := (List.getElem?_eq_some_iff.1 hi).1
  obtain ⟨u, hu⟩ : ∃ u, ds[i]? = some u := ⟨_, List.getElem?_eq_getElem (by omega)⟩
  rcases h2.2 with ⟨e, hn⟩ | ⟨g, cap, cur, e, _⟩
  · omega
  · obtain ⟨k1, k2⟩ := rcV_at ds s i u hu
    refine ⟨g, cap, u, e, ?_, ?_, h3 i x u hi hu⟩
    · have := World.ownsRow.cells (g := g) h2 (by rw [e]; rfl) _ _ k1
      rwa [add_at, Nat.zero_add, Nat.mul_comm] at this
    · have := World.ownsRow.cells (g := g) h2 (by rw [e]; rfl) _ _ k2
      rwa [add_at, Nat.zero_add, Nat.mul_comm] at this
end
theorem info_rc : (Tryd.prog.info? 44).map (fun i => (i.zero, i.size, i.bytes)) = some (some (.agg #[.int .i64 0, .slice none 0 0]), 2, 32) := by kernel_rfl
theorem wpList_append_rc {ops : Array Oper} {rest : List Oper} {o : Oper} {a : Act} {w : World} {Q : Exit → Act → World → Prop} {base n : Nat} {v : Value} {vs : List Value}
    (hgd : o.guard = none) (s y : Operand) (t : TypeId) (ho : o.op = .call { callee := .builtin .append, args := #[s, y], argTypes := #[t, t] }) (ht : Tryd.prog.underlying t = some (.slice 44)) (g : Nat) (u0 u1 : Value) (hs : a.eval s = v) (hy : a.eval y = .slice (some ⟨g, 0, none⟩) 1 1) (hown : w.ownsRow base 44 2 v n vs) (hc0 : w.cell? ⟨g, 0, none⟩ = some u0) (hc1 : w.cell? ⟨g, 1, none⟩ = some u1) (hu0 : u0.oneCell' = true) (hu1 : u1.oneCell' = true) (hn : n + 1 ≤ 1000000) (hbase : base ≤ w.heap.size)
    (h : ∀ v' w', w'.ownsRow base 44 2 v' (n + 1) (vs ++ [u0, u1]) → Stay (fun k => v.ownBlock = some k) w w' → wpList Tryd.prog ops Q rest (a.put o.dst v') w') : wpList Tryd.prog ops Q (o :: rest) a w :=
  wpList_plain hgd fun _ hK => by
    obtain ⟨i0, hi, hz, hsz, hbb⟩ := info_parts info_rc
    obtain ⟨v', w', hrun, h1, h2, _, _⟩ := run_append_own_at (P := Tryd.prog) w base t o.type 44 i0 _ 2 32 ht hi hz hsz hbb rfl (by decide) v n vs hown ⟨g, 0, none⟩ 1 1 [u0, u1] rfl
      (fun j x hx => by
        have hj : j < 2 := (List.getElem?_eq_some_iff.1 hx).1
        have hj2 : j = 0 ∨ j = 1 := by omega
        rw [add_at]
        rcases hj2 with rfl | rfl
        · simp at hx
          rw [← hx]
          exact hc0
        · simp at hx
          rw [← hx]
          exact hc1) (fun x hx => by simp at hx; rcases hx with rfl | rfl; exact hu0; exact hu1) (by unfold maxLen; omega) (by omega) hbase
    unfold Oper.wp execOp
    simp only [ho, resolve, invoke, builtin, Sem.run_bind, Sem.run_pure, Result.andThen_ok, List.map_toArray, List.map_cons, List.map_nil, hs, hy, hrun]
    exact hK _ _ (h v' w' h1 (Stay.grown h2 (fun k hk => hk)))

/-- How many sectors each record needs. -/
def needsR : Nat → List (List UInt8) → List Nat
  | _, [] => []
  | s, x :: xs => needL s x :: needsR (s + 1) xs
theorem needsR_snoc : ∀ (xs : List (List UInt8)) (s : Nat) (x : List UInt8), needsR s (xs ++ [x]) = needsR s xs ++ [needL (s + xs.length) x]
  | [], s, x => rfl
  | y :: xs, s, x => by
    show needL s y :: needsR (s + 1) (xs ++ [x]) = needL s y :: (needsR (s + 1) xs ++ _)
    rw [needsR_snoc xs (s + 1) x, show s + 1 + xs.length = s + (y :: xs).length by simp; omega]
theorem len_needsR : ∀ (xs : List (List UInt8)) (s : Nat), (needsR s xs).length = xs.length
  | [], _ => rfl
  | x :: xs, s => by simp [needsR, len_needsR xs (s + 1)]
theorem blksD_drop (d : DS) (F S fr n u : Nat) (h : u ≤ n) : (blksD d F S fr n).drop u = blksD d F S (fr + u) (n - u) := by
  refine List.ext_getElem? (fun i => ?_)
  rw [List.getElem?_drop]
  by_cases hi : i < n - u
  · rw [blksD_at hi, blksD_at (by omega), show fr + (u + i) = fr + u + i by omega]
  · rw [List.getElem?_eq_none (by rw [len_blksD]; omega), List.getElem?_eq_none (by rw [len_blksD]; omega)]
theorem blksD_mem {d : DS} (hc : ∀ j, (d.cur j).length = 64) {F S fr n : Nat} : ∀ b ∈ blksD d F S fr n, b.length = 64 := fun b hb => by
  obtain ⟨i, _, rfl⟩ := List.mem_map.1 hb
  exact hc _
/-- The records that lie from a sector of the area on. -/
def recsD (d : DS) (F S a s : Nat) : List (List UInt8) := scan (S + 1) s (blksD d F S a S)
def lenV : Value → Nat
  | .slice _ n _ => n
  | _ => 0

set_option maxHeartbeats 8000000 in
theorem read_any (w : World) (pd ps pm q : Nat) (d : DS) (F S a s : Nat) (hd : DevAt w pd ps pm d) (hup : ¬ down d = true) (hq : LgAt w q pd (.slice none 0 0) ⟨F, S, a, s, [], 0⟩) (hS : 1 ≤ S) (hFS : F + S ≤ d.n) (ha : a < S) (hs1 : 1 ≤ s) (hs2 : s ≤ 1099511627776) (hqd : ¬ own pd ps pm q) :
    Calls Tryd.prog 17 #[.pointer (some ⟨q, 0, none⟩)] w fun e w' => ∃ v nv, e = .returned (.tuple #[v, .nilIface]) ∧ RcO w.heap.size w' v s (recsD d F S a s) ∧ LgAt w' q pd nv ⟨F, S, a, s, needsR s (recsD d F S a s), 0⟩ ∧ (∀ k, nv.ownBlock = some k → w.heap.size ≤ k) ∧ Stay (fun k => k = q) w w' ∧ (needsR s (recsD d F S a s)).sum ≤ S ∧ s + (recsD d F S a s).length ≤ 1099511627777 ∧ (recsD d F S a s).length ≤ (needsR s (recsD d F S a s)).sum := by
  have hn2 := hd.n2
  have HD := Lib.hid hd
  have HUP := Lib.hid hup
  have HC := Lib.hid (show ∀ j, (d.cur j).length = 64 from fun j => Tg.cur64 hd j)
  obtain ⟨R, hR⟩ : ∃ R, R = recsD d F S a s := ⟨_, rfl⟩
  have HR := Lib.hid (show R = scan (S + 1) s (blksD d F S a S) from hR)
  have HQ := Lib.hid hq
  have hqw := hq.lt
  rw [← hR]
  have HQD := Lib.hid hqd
  clear hd hup hR hq hqd
  go_enter Tryd.func17, Tryd.ntmps17
  go_wp2
  go_loopw [4] (fun v wr => ∃ (Q : List (List UInt8)) (f : Nat) (nv : Value), Hid (R = Q ++ scan f (s + Q.length) (blksD d F S (a + (needsR s Q).sum) (S - (needsR s Q).sum))) ∧ f + Q.length = S + 1 ∧ Hid (Q.length ≤ (needsR s Q).sum) ∧ Hid ((needsR s Q).sum ≤ S) ∧ Hid (s + Q.length ≤ 1099511627777) ∧ Hid (RcO w.heap.size wr v s Q) ∧ Hid (LgAt wr q pd nv ⟨F, S, a, s, needsR s Q, 0⟩) ∧ Hid (∀ k, nv.ownBlock = some k → w.heap.size ≤ k) ∧ Hid (Stay (fun k => k = q) w wr)) (fun v _ => S + 1 - lenV v)
  case atStart => exact ⟨[], S + 1, .slice none 0 0, Lib.hid (by rw [HR.out]; rfl), rfl, Lib.hid (Nat.le_refl _), Lib.hid (Nat.zero_le _), Lib.hid (by simp; omega), Lib.hid (RcO.nil _ _ _), HQ, Lib.hid (fun k hk => by cases hk), Lib.hid (Stay.refl _ _)⟩
  case round =>
    obtain ⟨Q, f, nv, HRQ, hf, HQU, HUS, HNX, HRC, HLG, HNB, HST⟩ := hrel
    obtain ⟨u, hu⟩ : ∃ u, u = (needsR s Q).sum := ⟨_, rfl⟩
    rw [← hu] at HRQ HQU HUS
    have HU := Lib.hid hu
    have hl0 : (needsR s Q).length = Q.length := len_needsR Q s
    have hu1 := HUS.out
    have hu2 := HQU.out
    have hu3 := HNX.out
    obtain ⟨m, hm⟩ : ∃ m, m = s + Q.length := ⟨_, rfl⟩
    have HM := Lib.hid hm
    have HNXT := Lib.hid (fun W (hW : Stay (fun _ => False) wr W) => show Calls Tryd.prog 25 #[.pointer (some ⟨q, 0, none⟩)] W fun e w' => e = .returned (.int .i64 (m : Int)) ∧ Stay (fun _ => False) W w' from by
      have h1 := next_any (HLG.out.stay0 hW) (by unfold Lg.nx; simp only [hl0]; omega)
      unfold Lg.nx at h1
      simp only [hl0] at h1
      rw [hm]
      exact h1)
    have HEND := Lib.hid (fun W (hW : Stay (fun _ => False) wr W) => show Calls Tryd.prog 19 #[.pointer (some ⟨q, 0, none⟩)] W fun e w' => e = .returned (.int .i64 ((a + u : Nat) : Int)) ∧ Stay (fun _ => False) W w' from by
      have h1 := end_any (HLG.out.stay0 hW) (by unfold Lg.u; simp only [← hu]; omega)
      unfold Lg.u at h1
      simp only [← hu] at h1
      exact h1)
    have HFRE := Lib.hid (fun W (hW : Stay (fun _ => False) wr W) => show Calls Tryd.prog 13 #[.pointer (some ⟨q, 0, none⟩)] W fun e w' => e = .returned (.int .i64 ((S - u : Nat) : Int)) ∧ Stay (fun _ => False) W w' from by
      have h1 := free_any (HLG.out.stay0 hW) (by unfold Lg.u; simp only [← hu]; exact HUS.out) (by show S ≤ _; omega)
      unfold Lg.u at h1
      simp only [← hu] at h1
      exact h1)
    have HDW := Lib.hid (show DevAt wr pd ps pm d from HD.out.stay HST.out (fun h => HQD.out (.inl h.symm)) (fun h => HQD.out (.inr (.inl h.symm))) (fun h => HQD.out (.inr (.inr h.symm))))
    obtain ⟨va, vc, rfl⟩ := HRC.out.form
    rw [← HM.out] at HRQ
    clear hu hm hl0
    go_wp2_with fail
    refine (HNXT.out _ (Stay.refl _ _)).mono ?_
    rintro e w1 ⟨rfl, hs1⟩
    have HS1 := Lib.hid hs1
    clear hs1
    go_wp2_with fail
    refine (isNumber_any w1 (m : Int)).mono ?_
    rintro e w1' ⟨rfl, rfl⟩
    by_cases hnum : m ≤ 1099511627776
    · have hb : (decide (1 ≤ (m : Int)) && decide ((m : Int) ≤ 1099511627776)) = true := by
        have := HM.out
        rw [Bool.and_eq_true, decide_eq_true_iff, decide_eq_true_iff]
        omega
      rw [hb]
      clear hb
      go_wp2_with fail
      refine (HNXT.out _ HS1.out).mono ?_
      rintro e w2 ⟨rfl, hs2'⟩
      have HS2 := Lib.hid (HS1.out.trans hs2')
      have HLG2 := Lib.hid (HLG.out.stay0 HS2.out)
      have c0 := HLG2.out.c0
      have c1 := HLG2.out.c1
      have c2 := HLG2.out.c2
      have HRR := Lib.hid (fun W (hW : Stay (fun _ => False) wr W) => rread_any W pd ps pm d F S (a + u) m (S - u) (HDW.out.stay hW (fun x => x) (fun x => x) (fun x => x)) HUP.out hS hFS (by omega) (by omega) (by omega))
      unfold ringV at HRR
      clear hs2'
      go_wp2
      refine wp_region_held (S := Stay (fun _ => False) w2.drew) (by kernel_rfl) ?_
      change wpAnyH _ _ _ _ _ _ _ _ (World.drew _)
      have hst : Stay (fun _ => False) w2 w2.drew := Stay.drew
      refine wpAnyH_takeL (i := 0) (v := .pointer (some ⟨q, 0, none⟩)) #[true, false, false, false, false, false, false, false, false, false, false, false, false, false, false] rfl (by kernel_rfl) (by kernel_rfl) (by kernel_rfl) (fun _ _ _ h => h) (by kernel_rfl) (Stay.refl _ _) (Or.inl ⟨by rfl, fun W hW => ?_⟩) ?_
      · go_simp
      conv => arg 8; simp [Act.put]
      refine wpAnyH_takeL (i := 1) (v := .pointer (some ⟨q, 0, none⟩)) #[true, true, false, false, false, false, false, false, false, false, false, false, false, false, false] rfl (by kernel_rfl) (by kernel_rfl) (by kernel_rfl) (fun _ _ _ h => h) (by kernel_rfl) (Stay.refl _ _) (Or.inl ⟨by rfl, fun W hW => ?_⟩) ?_
      · go_simp
      conv => arg 8; simp [Act.put]
      refine wpAnyH_takeL (i := 2) (v := .pointer (some ⟨q, 0, none⟩)) #[true, true, true, false, false, false, false, false, false, false, false, false, false, false, false] rfl (by kernel_rfl) (by kernel_rfl) (by kernel_rfl) (fun _ _ _ h => h) (by kernel_rfl) (Stay.refl _ _) (Or.inl ⟨by rfl, fun W hW => ?_⟩) ?_
      · go_simp
      conv => arg 8; simp [Act.put]
      refine wpAnyH_takeL (i := 3) (v := .agg #[.pointer (some ⟨pd, 0, none⟩), .int .i64 (F : Int), .int .i64 (S : Int)]) #[true, true, true, true, false, false, false, false, false, false, false, false, false, false, false] rfl (by kernel_rfl) (by kernel_rfl) (by kernel_rfl) (fun _ _ _ h => h) (by kernel_rfl) (Stay.refl _ _) (Or.inl ⟨by rfl, fun W hW => ?_⟩) ?_
      · have q0 := (hst.trans hW).cell c0 (fun x => x)
        have q1 := (hst.trans hW).cell c1 (fun x => x)
        have q2 := (hst.trans hW).cell c2 (fun x => x)
        go_simp
      conv => arg 8; simp [Act.put]
      refine wpAnyH_takeL (i := 4) (v := .pointer (some ⟨q, 0, none⟩)) #[true, true, true, true, true, false, false, false, false, false, false, false, false, false, false] rfl (by kernel_rfl) (by kernel_rfl) (by kernel_rfl) (fun _ _ _ h => h) (by kernel_rfl) (Stay.refl _ _) (Or.inl ⟨by rfl, fun W hW => ?_⟩) ?_
      · go_simp
      conv => arg 8; simp [Act.put]
      refine wpAnyH_takeL (i := 6) (v := .int .i64 (m : Int)) #[true, true, true, true, true, false, true, false, false, false, false, false, false, false, false] rfl (by kernel_rfl) (by kernel_rfl) (by kernel_rfl) (fun _ _ _ h => h) (by kernel_rfl) (Stay.refl _ _) (Or.inl ⟨by rfl, fun W hW => ?_⟩) ?_
      · go_simp
      conv => arg 8; simp [Act.put]
      refine wpAnyH_takeL (i := 7) (v := .pointer (some ⟨q, 0, none⟩)) #[true, true, true, true, true, false, true, true, false, false, false, false, false, false, false] rfl (by kernel_rfl) (by kernel_rfl) (by kernel_rfl) (fun _ _ _ h => h) (by kernel_rfl) (Stay.refl _ _) (Or.inl ⟨by rfl, fun W hW => ?_⟩) ?_
      · go_simp
      conv => arg 8; simp [Act.put]
      refine wpAnyH_one #[true, true, true, true, true, true, true, true, false, false, false, false, false, false, false] (i := 5) rfl (by kernel_rfl) (by kernel_rfl) (fun K hK => ?_)
      go_simp
      go_wp2_with (go_at_call 19; refine (HEND.out _ (HS2.out.trans hst)).mono ?_; rintro e z3 ⟨rfl, s⟩)
      replace hst := hst.trans s
      refine hK _ _ s ?_
      clear hK
      conv => arg 8; simp [Act.put]
      refine wpAnyH_narrow (S' := Stay (fun _ => False) z3) (fun _ h => s.trans h) _ _ _ _ ?_
      clear s
      refine wpAnyH_one #[true, true, true, true, true, true, true, true, true, false, false, false, false, false, false] (i := 8) rfl (by kernel_rfl) (by kernel_rfl) (fun K hK => ?_)
      go_simp
      go_wp2_with (go_at_call 13; refine (HFRE.out _ (HS2.out.trans hst)).mono ?_; rintro e z4 ⟨rfl, s⟩)
      replace hst := hst.trans s
      refine hK _ _ s ?_
      clear hK
      conv => arg 8; simp [Act.put]
      refine wpAnyH_narrow (S' := Stay (fun _ => False) z4) (fun _ h => s.trans h) _ _ _ _ ?_
      clear s
      refine wpAnyH_one #[true, true, true, true, true, true, true, true, true, true, false, false, false, false, false] (i := 9) rfl (by kernel_rfl) (by kernel_rfl) (fun K hK => ?_)
      go_simp
      go_wp2_with (go_at_call 33; refine (HRR.out _ (HS2.out.trans hst)).mono ?_; rintro e z5 ⟨v6, rfl, ho6, s⟩; obtain ⟨a6, n6, c6, rfl⟩ : ∃ a n c, v6 = .slice a n c := (by obtain ⟨p, r, e⟩ := ho6.form; exact ⟨p, _, r, e⟩); have HO6 := Lib.hid ho6; clear ho6)
      replace hst := hst.trans s
      refine hK _ _ s ?_
      clear hK
      conv => arg 8; simp [Act.put]
      refine wpAnyH_narrow (S' := Stay (fun _ => False) z5) (fun _ h => s.trans h) _ _ _ _ ?_
      clear s
      refine wpAnyH_takeL (i := 10) (v := .tuple #[.slice a6 n6 c6, .nilIface]) #[true, true, true, true, true, true, true, true, true, true, true, false, false, false, false] rfl (by kernel_rfl) (by kernel_rfl) (by kernel_rfl) (fun _ _ _ h => h) (by kernel_rfl) (Stay.refl _ _) (Or.inl ⟨by rfl, fun W hW => ?_⟩) ?_
      · go_simp
      conv => arg 8; simp [Act.put]
      refine wpAnyH_takeL (i := 11) (v := .slice a6 n6 c6) #[true, true, true, true, true, true, true, true, true, true, true, true, false, false, false] rfl (by kernel_rfl) (by kernel_rfl) (by kernel_rfl) (fun _ _ _ h => h) (by kernel_rfl) (Stay.refl _ _) (Or.inl ⟨by rfl, fun W hW => ?_⟩) ?_
      · go_simp
      conv => arg 8; simp [Act.put]
      refine wpAnyH_takeL (i := 12) (v := .nilIface) #[true, true, true, true, true, true, true, true, true, true, true, true, true, false, false] rfl (by kernel_rfl) (by kernel_rfl) (by kernel_rfl) (fun _ _ _ h => h) (by kernel_rfl) (Stay.refl _ _) (Or.inl ⟨by rfl, fun W hW => ?_⟩) ?_
      · go_simp
      conv => arg 8; simp [Act.put]
      refine wpAnyH_takeL (i := 13) (v := .slice a6 n6 c6) #[true, true, true, true, true, true, true, true, true, true, true, true, true, true, false] rfl (by kernel_rfl) (by kernel_rfl) (by kernel_rfl) (fun _ _ _ h => h) (by kernel_rfl) (Stay.refl _ _) (Or.inl ⟨by rfl, fun W hW => ?_⟩) ?_
      · go_simp
      conv => arg 8; simp [Act.put]
      refine wpAnyH_takeL (i := 14) (v := .nilIface) #[true, true, true, true, true, true, true, true, true, true, true, true, true, true, true] rfl (by kernel_rfl) (by kernel_rfl) (by kernel_rfl) (fun _ _ _ h => h) (by kernel_rfl) (Stay.refl _ _) (Or.inl ⟨by rfl, fun W hW => ?_⟩) ?_
      · go_simp
      conv => arg 8; simp [Act.put]
      refine wpAnyH_done (by kernel_rfl) ?_ _
      have HSZ := Lib.hid (HS2.out.trans hst)
      obtain ⟨Bk, hBk⟩ : ∃ Bk, Bk = blksD d F S (a + u) (S - u) := ⟨_, rfl⟩
      rw [← hBk] at HO6 HRQ
      have HBK := Lib.hid hBk
      have HBL := Lib.hid (show Bk.length = S - u by rw [hBk, len_blksD])
      have HBM := Lib.hid (show ∀ b ∈ Bk, b.length = 64 by rw [hBk]; exact blksD_mem HC.out)
      have HTL := Lib.hid (show (takeT m Bk).length ≤ 10000000 by
        have h1 := takeT_len m Bk HBM.out
        have h2 := HBL.out
        omega)
      have HTELL := Lib.hid (tell_any z5 _ (takeT m Bk) m HO6.out.slc HTL.out (by omega))
      obtain ⟨f0, rfl⟩ : ∃ f0, f = f0 + 1 := ⟨f - 1, by omega⟩
      have hscan := HRQ.out
      rw [scan_succ, if_neg (by omega)] at hscan
      have HSC := Lib.hid hscan
      clear hBk hst c0 c1 c2 hscan
      cases htell : tellR m (takeT m Bk) with
      | none =>
        have HRE := Lib.hid (show R = Q by
          have h1 := HSC.out
          rw [htell] at h1
          simpa using h1)
        rw [htell] at HTELL
        clear htell
        go_wp2_with fail
        refine HTELL.out.mono ?_
        rintro e z6 ⟨⟨v7, rfl, _⟩, hs6⟩
        have HS6 := Lib.hid (HSZ.out.trans hs6)
        clear hs6
        go_wp2
        go_ret2
        refine ⟨_, nv, rfl, ?_, ?_, HNB.out, HST.out.trans (HS6.out.mono (fun _ x => x.elim)), ?_, ?_, ?_⟩
        · rw [HRE.out]; exact HRC.out.stay0 HS6.out
        · rw [HRE.out]; exact HLG.out.stay0 HS6.out
        · rw [HRE.out, ← HU.out]; exact HUS.out
        · rw [HRE.out]; exact HNX.out
        · rw [HRE.out, ← HU.out]; exact HQU.out
      | some xx =>
        have hned := tell_need HBM.out htell
        rw [HBL.out] at hned
        have hxl := (tell_some htell).2
        obtain ⟨n, hn⟩ : ∃ n, n = needL m xx := ⟨_, rfl⟩
        have hn1 : 1 ≤ n := by rw [hn]; exact needL_pos _ _
        have HN := Lib.hid hn
        rw [← hn] at hned
        have HSC2 := Lib.hid (show R = (Q ++ [xx]) ++ scan f0 (m + 1) (blksD d F S (a + u + n) (S - u - n)) by
          have h1 := HSC.out
          rw [htell] at h1
          simp only [] at h1
          rw [← hn, HBK.out, blksD_drop _ _ _ _ _ _ hned] at h1
          rw [h1, List.append_assoc]
          rfl)
        rw [htell] at HTELL
        clear htell hn
        go_wp2_with fail
        refine HTELL.out.mono ?_
        rintro e z6 ⟨⟨v7, rfl, ho7⟩, hs6⟩
        have ho7' : Owns z5.heap.size z6 v7 xx := ho7 rfl
        obtain ⟨a7, c7, rfl⟩ := ho7'.form
        have HS6 := Lib.hid (HSZ.out.trans hs6)
        have HO7 := Lib.hid (Pk.Owns.base ho7' (base' := w.heap.size) (fun k hk => Nat.le_trans (Nat.le_trans HST.out.size HSZ.out.size) (ho7'.lt k hk).1))
        have HNEED := Lib.hid (show ∀ W, Calls Tryd.prog 7 #[.int .i64 (xx.length : Int), .int .i64 (m : Int)] W fun e w' => e = .returned (.int .i64 (n : Int)) ∧ Stay (fun _ => False) W w' from fun W => by
          have h1 := need_any W (xx.length : Int) (m : Int)
          have h2 : needP (xx.length : Int) (m : Int) = n := by
            unfold needP
            have := HM.out
            rw [if_neg (by omega), Int.toNat_natCast, Int.toNat_natCast, HN.out, needL_eq]
          rw [h2] at h1
          exact h1)
        clear hs6 ho7 ho7'
        go_wp2_with fail
        refine (HNEED.out z6).mono ?_
        rintro e z7 ⟨rfl, hs7⟩
        have HS7 := Lib.hid (HS6.out.trans hs7)
        have HO7b := Lib.hid (HO7.out.stay0 hs7)
        have HLG7 := Lib.hid (HLG.out.stay0 HS7.out)
        have HRC7 := Lib.hid (HRC.out.stay0 HS7.out)
        clear hs7
        go_wp2_with fail
        refine (take_any z7 q pd nv _ n HLG7.out (by simp only [len_needsR]; omega) (by unfold Lg.u; simp only [← HU.out]; omega)).mono ?_
        rintro e z8 ⟨⟨v8, rfl⟩, nv', hlg8, hs8, hb8⟩
        have HLG8 := Lib.hid (show LgAt z8 q pd nv' ⟨F, S, a, s, needsR s (Q ++ [xx]), 0⟩ by
          have h1 := hlg8
          simp only [] at h1
          rw [needsR_snoc, ← HM.out, ← HN.out]
          exact h1)
        have hno : ∀ k, Ty z7 k 44 ∨ Ty z7 k 5 → ¬ lown q nv k := fun k ht hk => by
          rcases HLG7.out.oty k hk with h1 | h1 <;> rcases ht with h2 | h2 <;> exact absurd (h1.uniq h2) (by decide)
        have hrc8 := HRC7.out.stay hs8 (fun k _ hk => hno k hk)
        have ho8 : Owns w.heap.size z8 (.slice a7 xx.length c7) xx := HO7b.out.stay hs8 (fun k hk => hno k (.inr (row_lt HO7b.out k hk).2))
        obtain ⟨ds, hds, hrow, hdat⟩ := hrc8
        have HROW := Lib.hid hrow
        have HDAT := Lib.hid hdat
        have HO8 := Lib.hid ho8
        have HDS := Lib.hid hds
        have HNB8 := Lib.hid (show ∀ k, nv'.ownBlock = some k → w.heap.size ≤ k from fun k hk => by
          rcases hb8 with h | h
          · rw [h] at hk; exact HNB.out k hk
          · rw [h] at hk
            have h1 := Option.some.inj hk
            have h2 := HS7.out.size
            have h3 := HST.out.size
            omega)
        have HST8 := Lib.hid (show Stay (fun k => k = q) w z8 from (HST.out.trans (HS7.out.mono (fun _ x => x.elim))).andThen hs8 (fun k hk hx => by
          rcases hx with hx | hx
          · exact hx
          · have := HNB.out k hx
            omega))
        have hz8 : w.heap.size ≤ z8.heap.size := HST8.out.size
        have HMS := Lib.hid (show (m : Int) = ((s + ds.length : Nat) : Int) by rw [hds]; have := HM.out; omega)
        clear hlg8 hs8 hb8 hno hrow hdat ho8 hds
        go_wp2_with (
          at_builtin
          refine wpList_append_rc rfl (.tmp 45) (.tmp 49) 32 rfl Tryd.underlying32 z8.heap.size (.int .i64 (m : Int)) (.slice a7 xx.length c7) rfl rfl (row_stay HROW.out (Stay.alloc (X := fun _ => False) _ _) (fun _ _ x => x)) (by rw [cell_of_row _ _ _ _ _ _ (heap_alloc_new z8 _)]; rfl) (by rw [cell_of_row _ _ _ _ _ _ (heap_alloc_new z8 _)]; rfl) rfl rfl (by omega) (by simp; omega) ?_
          intro v9 z9 hrow9 hs9
          have HROW9 := Lib.hid hrow9
          have HS9 := Lib.hid (show Stay (fun k => (Value.slice va Q.length vc).ownBlock = some k) z8 z9 from (Stay.alloc z8 _).trans hs9)
          obtain ⟨a9, c9, rfl⟩ : ∃ a c, v9 = .slice a (Q.length + 1) c := (by
            rcases hrow9.2 with ⟨e, hn⟩ | ⟨g, cap, cur, e, _⟩
            · omega
            · exact ⟨_, _, e⟩)
          clear hrow9 hs9)
        have hno9 : ∀ k, (Value.slice va Q.length vc).ownBlock = some k → w.heap.size ≤ k ∧ Ty z8 k 44 := fun k hk => row_lt HROW.out k hk
        have HLG9 := Lib.hid (show LgAt z9 q pd nv' ⟨F, S, a, s, needsR s (Q ++ [xx]), 0⟩ from HLG8.out.stay HS9.out (fun h => absurd ((hno9 q h).2.uniq HLG8.out.ty) (by decide)) (fun k hk h => absurd ((hno9 k h).2.uniq (HLG8.out.row.ty k hk)) (by decide)))
        have HRC9 := Lib.hid (show RcO w.heap.size z9 (.slice a9 (Q.length + 1) c9) s (Q ++ [xx]) from by
          refine ⟨ds ++ [.slice a7 xx.length c7], by rw [List.length_append, List.length_append, HDS.out]; rfl, ?_, fun i x u hx hu => ?_⟩
          · rw [rcV_snoc, List.length_append, ← HMS.out]
            exact HROW9.out
          · have hs9 : ∀ y v', Owns w.heap.size z8 v' y → Owns w.heap.size z9 v' y := fun y v' hy => hy.stay HS9.out (fun k hk h => absurd ((hno9 k h).2.uniq (row_lt hy k hk).2) (by decide))
            by_cases hi : i < Q.length
            · rw [List.getElem?_append_left hi] at hx
              rw [List.getElem?_append_left (by rw [HDS.out]; exact hi)] at hu
              exact hs9 _ _ (HDAT.out i x u hx hu)
            · have hi2 : i = Q.length := by
                have := (List.getElem?_eq_some_iff.1 hx).1
                rw [List.length_append] at this
                simp at this
                omega
              subst hi2
              rw [List.getElem?_append_right (Nat.le_refl _)] at hx
              rw [← HDS.out, List.getElem?_append_right (Nat.le_refl _)] at hu
              simp at hx hu
              subst hx
              subst hu
              exact hs9 _ _ HO8.out)
        have hnq : (needsR s (Q ++ [xx])).sum = u + n := by rw [needsR_snoc, sum_snoc, ← HU.out, ← HM.out, ← HN.out]
        have HST9 := Lib.hid (show Stay (fun k => k = q) w z9 from HST8.out.andThen HS9.out (fun k hk hx => by have := (hno9 k hx).1; omega))
        have hlq : (Q ++ [xx]).length = Q.length + 1 := by rw [List.length_append]; rfl
        have HHM := HM.out
        refine ⟨⟨Q ++ [xx], f0, nv', Lib.hid ?_, by rw [hlq]; omega, Lib.hid (by rw [hlq, hnq]; omega), Lib.hid (by rw [hnq]; omega), Lib.hid (by rw [hlq]; omega), HRC9, HLG9, HNB8, HST9⟩, by simp [lenV]; omega⟩
        rw [hnq, hlq, show s + (Q.length + 1) = m + 1 by omega, ← Nat.add_assoc, show S - (u + n) = S - u - n by omega]
        exact HSC2.out
    · have hb : (decide (1 ≤ (m : Int)) && decide ((m : Int) ≤ 1099511627776)) = false := by
        rw [Bool.and_eq_false_iff, decide_eq_false_iff_not, decide_eq_false_iff_not]
        omega
      rw [hb]
      have HRE := Lib.hid (show R = Q by
        have h1 := HRQ.out
        cases f with
        | zero => simpa [scan] using h1
        | succ f => rw [scan_succ, if_pos (by omega), List.append_nil] at h1; exact h1)
      clear hb
      go_wp2
      go_ret2
      refine ⟨_, nv, rfl, ?_, ?_, HNB.out, HST.out.trans (HS1.out.mono (fun _ x => x.elim)), ?_, ?_, ?_⟩
      · rw [HRE.out]; exact HRC.out.stay0 HS1.out
      · rw [HRE.out]; exact HLG.out.stay0 HS1.out
      · rw [HRE.out, ← HU.out]; exact HUS.out
      · rw [HRE.out]; exact HNX.out
      · rw [HRE.out, ← HU.out]; exact HQU.out

end Go.Proofs.YthbcgimmbcdnmaaDoor.Lo
