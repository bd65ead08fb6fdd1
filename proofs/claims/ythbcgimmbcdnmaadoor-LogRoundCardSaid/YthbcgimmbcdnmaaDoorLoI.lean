/-
  log: Open, where its arguments are in order and the device is up.
-/
import Derived.Test.YthbcgimmbcdnmaaDoorLoH
namespace Go.Proofs.YthbcgimmbcdnmaaDoor.Lo
open Go.RowKit
open Pk (Slc Owns errV errV_pos errV_zero)
open Tg (writeD flushD down DOk)
set_option maxRecDepth 100000
set_option linter.unusedVariables false

/-- How many sectors the records have that lie there. -/
def usedD (d : DS) (F S a s : Nat) : Nat := (needsR s (recsD d F S a s)).sum
/-- Open's turning of the device. -/
def openD (d : DS) (F S a s : Nat) : DS × Nat := wipeD d F S (a + usedD d F S a s) (S - usedD d F S a s)

/-- What Open answers: a log and records, or an error. -/
def OpenR (base : Nat) (w' : World) (pd F S a s : Nat) (R : List (List UInt8)) (c : Nat) (e : Ending) : Prop :=
  (c = 0 ∧ ∃ q v nv, e = .returned (.tuple #[.pointer (some ⟨q, 0, none⟩), v, .nilIface]) ∧ LgAt w' q pd nv ⟨F, S, a, s, needsR s R, 0⟩ ∧ RcO base w' v s R ∧ base ≤ q ∧ (∀ k, nv.ownBlock = some k → base ≤ k)) ∨
  (c ≠ 0 ∧ e = .returned (.tuple #[.pointer none, .slice none 0 0, .iface 50 (.int .i64 (c : Int))]))

set_option maxHeartbeats 8000000 in
theorem open_any (w : World) (pd ps pm : Nat) (d : DS) (K : Int) (F S a s : Nat) (hd : DevAt w pd ps pm d) (hup : ¬ down d = true) (hok : DOk d K) (hK : K ≤ 4000000000000000000) (hS : 2 ≤ S) (hFS : F + S ≤ d.n) (ha : a < S) (hs1 : 1 ≤ s) (hs2 : s ≤ 1099511627776) :
    Calls Tryd.prog 6 #[.pointer (some ⟨pd, 0, none⟩), .agg #[.int .i64 (F : Int), .int .i64 (S : Int)], .int .i64 (a : Int), .int .i64 (s : Int)] w fun e w' => OpenR w.heap.size w' pd F S a s (recsD d F S a s) (openD d F S a s).2 e ∧ DevAt w' pd ps pm (openD d F S a s).1 ∧ Stay (own pd ps pm) w w' ∧ usedD d F S a s ≤ S ∧ s + (recsD d F S a s).length ≤ 1099511627777 ∧ (recsD d F S a s).length ≤ usedD d F S a s := by
  have hn2 := hd.n2
  have lt1 := hd.lt1
  have lt2 := hd.lt2
  have lt3 := hd.lt3
  have HOB := Lib.hid (show ∀ k, own pd ps pm k → k < w.heap.size by rintro k (rfl | rfl | rfl) <;> assumption)
  have HD := Lib.hid hd
  have HUP := Lib.hid hup
  have HOK := Lib.hid hok
  have hin := fun W (hW : Stay (fun _ => False) w W) => in_any (F : Int) (S : Int) W pd ps pm d (hd.stay hW (fun x => x) (fun x => x) (fun x => x)) ⟨by omega, by omega⟩ ⟨by omega, by omega⟩
  have hib : inB (F : Int) (S : Int) (d.n : Int) = true := by
    unfold inB
    rw [decide_eq_true_iff]
    omega
  rw [hib] at hin
  have HIN := Lib.hid hin
  have hnum := fun W => isNumber_any W (s : Int)
  have hnb : (decide (1 ≤ (s : Int)) && decide ((s : Int) ≤ 1099511627776)) = true := by
    rw [Bool.and_eq_true, decide_eq_true_iff, decide_eq_true_iff]
    omega
  rw [hnb] at hnum
  have HNUM := Lib.hid hnum
  have ha1 : ¬ (a : Int) < 0 := by omega
  have ha2 : ¬ (S : Int) ≤ (a : Int) := by omega
  clear hd hup hok hin hib hnum hnb lt1 lt2 lt3
  obtain ⟨R, hR⟩ : ∃ R, R = recsD d F S a s := ⟨_, rfl⟩
  obtain ⟨u, hu0⟩ : ∃ u, u = usedD d F S a s := ⟨_, rfl⟩
  obtain ⟨⟨d2, c2⟩, hd2⟩ : ∃ x, x = openD d F S a s := ⟨_, rfl⟩
  rw [← hR, ← hu0, ← hd2]
  have HR := Lib.hid hR
  have HUD := Lib.hid hu0.symm
  have HU := Lib.hid (show u = (needsR s R).sum by rw [hu0, hR]; rfl)
  have HD2 := Lib.hid hd2
  clear hR hu0 hd2
  go_enter Tryd.func6, Tryd.ntmps6
  go_wp2_with fail
  have ba : (w.alloc (.cells #[.int .i64 (F : Int), .int .i64 (S : Int)] 30)).heap[w.heap.size]? = _ := heap_alloc_new w _
  refine (HIN.out _ (Stay.alloc _ _)).mono ?_
  rintro e w1x ⟨rfl, hs1'⟩
  have HB1 := Lib.hid ((hs1'.block w.heap.size (by simp) (fun x => x)).trans ba)
  have c0 : w1x.cell? ⟨w.heap.size, 0, none⟩ = some (.int .i64 (F : Int)) := cell_of_row _ _ _ _ _ _ HB1.out
  have c1 : w1x.cell? ⟨w.heap.size, 1, none⟩ = some (.int .i64 (S : Int)) := cell_of_row _ _ _ _ _ _ HB1.out
  have HS1 := Lib.hid (show Stay (fun _ => False) w w1x from (Stay.alloc _ _).trans hs1')
  clear ba hs1'
  go_wp2_with fail
  refine (HNUM.out _).mono ?_
  rintro e w1 ⟨rfl, rfl⟩
  obtain ⟨q, hq⟩ : ∃ q, q = w1.heap.size := ⟨_, rfl⟩
  have HQ := Lib.hid hq
  have hlg : LgAt (w1.alloc (.cells (lgC pd F S a s (.slice none 0 0) 0 0) 61)) q pd (.slice none 0 0) ⟨F, S, a, s, [], 0⟩ := ⟨by rw [hq]; exact heap_alloc_new w1 _, CO.nil _ _ _⟩
  have HLG := Lib.hid hlg
  have hnq : ¬ own pd ps pm q := fun h => by have h1 := HOB.out q h; have h2 := HS1.out.size; omega
  have HNQ := Lib.hid hnq
  have HRD := Lib.hid (read_any _ pd ps pm q d F S a s ((HD.out.stay HS1.out (fun x => x) (fun x => x) (fun x => x)).alloc _) HUP.out hlg (by omega) hFS ha hs1 hs2 hnq)
  unfold lgC at HRD
  clear hlg hq hnq
  go_wp2_with fail
  rw [← HQ.out]
  refine HRD.out.mono ?_
  rintro e w2 ⟨v, nv, rfl, hrc, hlg2, hnb, hs2', hus, hnx, hln⟩
  rw [← HR.out] at hrc hlg2 hus hnx hln
  rw [← HU.out] at hus hln
  obtain ⟨va, vc, rfl⟩ := hrc.form
  have hzq : (w1.alloc (.cells (lgC pd F S a s (.slice none 0 0) 0 0) 61)).heap.size = w1.heap.size + 1 := by simp
  have hsz1 := HS1.out.size
  have HS2 := Lib.hid (show Stay (fun _ => False) w w2 from Pk.stay_seal (X := fun k => k = q) (((HS1.out.trans (Stay.alloc _ _)).mono (fun _ x => x.elim)).trans hs2') (fun k hk => by have := HQ.out; omega))
  have HRC := Lib.hid hrc
  have HLG2 := Lib.hid hlg2
  have HNB := Lib.hid (show ∀ k, nv.ownBlock = some k → w.heap.size ≤ k from fun k hk => by have h1 := hnb k hk; have h2 : (w1.alloc (.cells (lgC pd F S a s (.slice none 0 0) 0 0) 61)).heap.size ≤ k := h1; omega)
  have HRB := Lib.hid (show RcO w.heap.size w2 (.slice va R.length vc) s R from by
    obtain ⟨ds, h1, h2, h3⟩ := hrc
    refine ⟨ds, h1, ownsRow_base_le h2 (by show w.heap.size ≤ _; have : (w1.alloc (.cells (lgC pd F S a s (.slice none 0 0) 0 0) 61)).heap.size = w1.heap.size + 1 := hzq; unfold lgC at this; omega), fun i x y hx hy => ownsRow_base_le (h3 i x y hx hy) (by have : (w1.alloc (.cells (lgC pd F S a s (.slice none 0 0) 0 0) 61)).heap.size = w1.heap.size + 1 := hzq; unfold lgC at this; omega)⟩)
  have HEND := Lib.hid (fun W (hW : Stay (fun _ => False) w2 W) => show Calls Tryd.prog 19 #[.pointer (some ⟨q, 0, none⟩)] W fun e w' => e = .returned (.int .i64 ((a + u : Nat) : Int)) ∧ Stay (fun _ => False) W w' from by
    have h1 := end_any (HLG2.out.stay0 hW) (by unfold Lg.u; simp only [← HU.out]; omega)
    unfold Lg.u at h1
    simp only [← HU.out] at h1
    exact h1)
  have HFRE := Lib.hid (fun W (hW : Stay (fun _ => False) w2 W) => show Calls Tryd.prog 13 #[.pointer (some ⟨q, 0, none⟩)] W fun e w' => e = .returned (.int .i64 ((S - u : Nat) : Int)) ∧ Stay (fun _ => False) W w' from by
    have h1 := free_any (HLG2.out.stay0 hW) (by unfold Lg.u; simp only [← HU.out]; exact hus) (by show S ≤ _; omega)
    unfold Lg.u at h1
    simp only [← HU.out] at h1
    exact h1)
  have hD2 := HD.out.stay HS2.out (fun x => x) (fun x => x) (fun x => x)
  have hwp := fun W (hW : Stay (fun _ => False) w2 W) => wipe_any W pd ps pm d K F S (a + u) (S - u) (hD2.stay hW (fun x => x) (fun x => x) (fun x => x)) HUP.out HOK.out hK (by omega) hFS (by omega) (by omega)
  have hop : openD d F S a s = wipeD d F S (a + u) (S - u) := by unfold openD; rw [HUD.out]
  rw [← hop, ← HD2.out] at hwp
  unfold ringV at hwp
  obtain ⟨ev, hev⟩ : ∃ ev, ev = errV c2 := ⟨_, rfl⟩
  simp only [← hev] at hwp
  have HWP := Lib.hid hwp
  have HEV := Lib.hid hev
  have e0 := hlg2.c0
  have e1 := hlg2.c1
  have e2 := hlg2.c2
  have HNX := Lib.hid hnx
  clear hrc hlg2 hnb hs2' hzq hop hwp hev hD2 c0 c1 hnx HRD
  go_wp2
  refine wp_region_held (S := Stay (own pd ps pm) w2.drew) (by kernel_rfl) ?_
  change wpAnyH _ _ _ _ _ _ _ _ (World.drew _)
  have hst : Stay (own pd ps pm) w2 w2.drew := Stay.drew
  have hs0 : Stay (fun _ => False) w2 w2.drew := Stay.drew
  refine wpAnyH_takeL (i := 0) (v := .pointer (some ⟨q, 0, none⟩)) #[true, false, false, false, false, false, false, false, false, false] rfl (by kernel_rfl) (by kernel_rfl) (by kernel_rfl) (fun _ _ _ h => h) (by kernel_rfl) (Stay.refl _ _) (Or.inl ⟨by rfl, fun W hW => ?_⟩) ?_
  · go_simp
  conv => arg 8; simp [Act.put]
  refine wpAnyH_takeL (i := 1) (v := .pointer (some ⟨q, 0, none⟩)) #[true, true, false, false, false, false, false, false, false, false] rfl (by kernel_rfl) (by kernel_rfl) (by kernel_rfl) (fun _ _ _ h => h) (by kernel_rfl) (Stay.refl _ _) (Or.inl ⟨by rfl, fun W hW => ?_⟩) ?_
  · go_simp
  conv => arg 8; simp [Act.put]
  refine wpAnyH_takeL (i := 2) (v := .pointer (some ⟨q, 0, none⟩)) #[true, true, true, false, false, false, false, false, false, false] rfl (by kernel_rfl) (by kernel_rfl) (by kernel_rfl) (fun _ _ _ h => h) (by kernel_rfl) (Stay.refl _ _) (Or.inl ⟨by rfl, fun W hW => ?_⟩) ?_
  · go_simp
  conv => arg 8; simp [Act.put]
  refine wpAnyH_takeL (i := 3) (v := .agg #[.pointer (some ⟨pd, 0, none⟩), .int .i64 (F : Int), .int .i64 (S : Int)]) #[true, true, true, true, false, false, false, false, false, false] rfl (by kernel_rfl) (by kernel_rfl) (by kernel_rfl) (fun _ _ _ h => h) (by kernel_rfl) (Stay.refl _ _) (Or.inl ⟨by rfl, fun W hW => ?_⟩) ?_
  · have q0 := (hst.trans hW).cell e0 HNQ.out
    have q1 := (hst.trans hW).cell e1 HNQ.out
    have q2 := (hst.trans hW).cell e2 HNQ.out
    go_simp
  conv => arg 8; simp [Act.put]
  refine wpAnyH_takeL (i := 4) (v := .pointer (some ⟨q, 0, none⟩)) #[true, true, true, true, true, false, false, false, false, false] rfl (by kernel_rfl) (by kernel_rfl) (by kernel_rfl) (fun _ _ _ h => h) (by kernel_rfl) (Stay.refl _ _) (Or.inl ⟨by rfl, fun W hW => ?_⟩) ?_
  · go_simp
  conv => arg 8; simp [Act.put]
  refine wpAnyH_takeL (i := 6) (v := .pointer (some ⟨q, 0, none⟩)) #[true, true, true, true, true, false, true, false, false, false] rfl (by kernel_rfl) (by kernel_rfl) (by kernel_rfl) (fun _ _ _ h => h) (by kernel_rfl) (Stay.refl _ _) (Or.inl ⟨by rfl, fun W hW => ?_⟩) ?_
  · go_simp
  conv => arg 8; simp [Act.put]
  refine wpAnyH_one #[true, true, true, true, true, true, true, false, false, false] (i := 5) rfl (by kernel_rfl) (by kernel_rfl) (fun K hK => ?_)
  go_simp
  go_wp2_with (go_at_call 19; refine (HEND.out _ hs0).mono ?_; rintro e z3 ⟨rfl, s0⟩; have s : Stay (own pd ps pm) _ _ := s0.mono (fun _ x => x.elim); replace hs0 := hs0.trans s0; clear s0)
  replace hst := hst.trans s
  refine hK _ _ s ?_
  clear hK
  conv => arg 8; simp [Act.put]
  refine wpAnyH_narrow (S' := Stay (own pd ps pm) z3) (fun _ h => s.trans h) _ _ _ _ ?_
  clear s
  refine wpAnyH_one #[true, true, true, true, true, true, true, true, false, false] (i := 7) rfl (by kernel_rfl) (by kernel_rfl) (fun K hK => ?_)
  go_simp
  go_wp2_with (go_at_call 13; refine (HFRE.out _ hs0).mono ?_; rintro e z4 ⟨rfl, s0⟩; have s : Stay (own pd ps pm) _ _ := s0.mono (fun _ x => x.elim); replace hs0 := hs0.trans s0; clear s0)
  replace hst := hst.trans s
  refine hK _ _ s ?_
  clear hK
  conv => arg 8; simp [Act.put]
  refine wpAnyH_narrow (S' := Stay (own pd ps pm) z4) (fun _ h => s.trans h) _ _ _ _ ?_
  clear s
  refine wpAnyH_one #[true, true, true, true, true, true, true, true, true, false] (i := 8) rfl (by kernel_rfl) (by kernel_rfl) (fun K hK => ?_)
  go_simp
  go_wp2_with (go_at_call 18; refine (HWP.out _ hs0).mono ?_; rintro e z5 ⟨rfl, hdf, s⟩)
  replace hst := hst.trans s
  refine hK _ _ s ?_
  clear hK
  conv => arg 8; simp [Act.put]
  refine wpAnyH_narrow (S' := Stay (own pd ps pm) z5) (fun _ h => s.trans h) _ _ _ _ ?_
  clear s
  refine wpAnyH_takeL (i := 9) (v := ev) #[true, true, true, true, true, true, true, true, true, true] rfl (by kernel_rfl) (by kernel_rfl) (by kernel_rfl) (fun _ _ _ h => h) (by kernel_rfl) (Stay.refl _ _) (Or.inl ⟨by rfl, fun W hW => ?_⟩) ?_
  · go_simp
  conv => arg 8; simp [Act.put]
  refine wpAnyH_done (by kernel_rfl) ?_ _
  have HDF := Lib.hid hdf
  have HSF := Lib.hid ((HS2.out.mono (fun _ x => x.elim)).trans hst)
  have HQO : ∀ k, w.heap.size ≤ k → ¬ own pd ps pm k := fun k hk h => by have := HOB.out k h; omega
  have hqb : w.heap.size ≤ q := by rw [HQ.out]; omega
  have HLF := Lib.hid (HLG2.out.stay hst (HQO q hqb) (fun k hk => HQO k (HNB.out k hk)))
  have HRF := Lib.hid (HRB.out.stay hst (fun k hk _ => HQO k hk))
  clear hdf hst e0 e1 e2 HQO
  by_cases hc : c2 = 0
  · have hev : ev = .nilIface := by rw [HEV.out, hc]; rfl
    subst hev
    have HC := Lib.hid hc
    clear hc
    go_wp2
    go_ret3
    exact ⟨.inl ⟨HC.out, q, _, nv, rfl, HLF.out, HRF.out, hqb, HNB.out⟩, HDF.out, HSF.out, hus, HNX.out, hln⟩
  · have hev : ev = .iface 50 (.int .i64 (c2 : Int)) := by rw [HEV.out]; exact errV_pos hc
    subst hev
    have HC := Lib.hid hc
    clear hc
    go_wp2
    go_ret3
    exact ⟨.inr ⟨HC.out, rfl⟩, HDF.out, HSF.out, hus, HNX.out, hln⟩

end Go.Proofs.YthbcgimmbcdnmaaDoor.Lo
