/-
  log: Append, Flush.
-/
import Derived.Test.YthbcgimmbcdnmaaDoorLoI
namespace Go.Proofs.YthbcgimmbcdnmaaDoor.Lo
open Go.RowKit
open Pk (Slc Owns errV errV_pos errV_zero)
open Tg (writeD flushD down DOk)
set_option maxRecDepth 100000
set_option linter.unusedVariables false

/-- Append, as a function: the device, the log, the number, the error's number. -/
def appD (d : DS) (L : Lg) (l : List UInt8) : DS × Lg × Nat × Nat :=
  if L.dead ≠ 0 then (d, L, 0, L.dead) else if 65536 < l.length then (d, L, 0, 2) else
  if 1099511627776 < L.nx ∨ L.S < needL L.nx l + L.u + 1 then (d, L, 0, 10) else
  if (putsD L.F L.S L.nx (recB L.nx l) d (L.a + L.u) (List.range (needL L.nx l))).2 = 0 then
    ((putsD L.F L.S L.nx (recB L.nx l) d (L.a + L.u) (List.range (needL L.nx l))).1, { L with ns := L.ns ++ [needL L.nx l] }, L.nx, 0)
  else ((putsD L.F L.S L.nx (recB L.nx l) d (L.a + L.u) (List.range (needL L.nx l))).1, { L with dead := (putsD L.F L.S L.nx (recB L.nx l) d (L.a + L.u) (List.range (needL L.nx l))).2 }, 0,
    (putsD L.F L.S L.nx (recB L.nx l) d (L.a + L.u) (List.range (needL L.nx l))).2)
/-- The row of needs lies where it lay, or in a new block. -/
def Moved (w : World) (nv nv' : Value) : Prop := nv'.ownBlock = nv.ownBlock ∨ ∃ k, nv'.ownBlock = some k ∧ w.heap.size ≤ k
theorem parts_need (s : Nat) (l : List UInt8) : parts (recB s l).length = needL s l := rfl

/-- What Append tells. -/
def AppR (w : World) (pd ps pm q : Nat) (nv : Value) (r : DS × Lg × Nat × Nat) (e : Ending) (w' : World) : Prop :=
  ∃ nv', e = .returned (.tuple #[.int .i64 (r.2.2.1 : Int), errV r.2.2.2]) ∧ DevAt w' pd ps pm r.1 ∧ LgAt w' q pd nv' r.2.1 ∧ Stay (fun k => own pd ps pm k ∨ lown q nv k) w w' ∧ Moved w nv nv'

theorem size_err (w : World) : (sizeOf 26).run Tryd.prog w = .ok 1 w := by
  have h : (Tryd.prog.info? 26).map (·.size) = some 1 := by kernel_rfl
  cases hq : Tryd.prog.info? 26 with
  | none => simp [hq] at h
  | some i =>
    have hs : i.size = 1 := by simpa [hq] using h
    simp [sizeOf, typeInfo, hq, hs]
theorem run_store_err (z : World) (q j c : Nat) (v0 : Value) (hc : z.cell? ⟨q, j, none⟩ = some v0) (hf : z.frozen? ⟨q, j, none⟩ = false) : (storeVar 26 ⟨q, j, none⟩ (errV c)).run Tryd.prog z = .ok () (z.setCell ⟨q, j, none⟩ (errV c)) := by
  have hz := size_err z
  unfold errV Pk.errI
  split
  · simp [storeVar, Sem.run_bind, hz, Value.cells, storeCells, go_sem, hc, hf]
  · simp [storeVar, Sem.run_bind, hz, Value.cells, storeCells, go_sem, hc, hf]
set_option maxHeartbeats 8000000 in
theorem append_any (w : World) (pd ps pm q : Nat) (nv : Value) (d : DS) (L : Lg) (x : Value) (l : List UInt8) (hd : DevAt w pd ps pm d) (hok : DOk d 4000000000000000000) (hq : LgAt w q pd nv L) (hL : L.Ok d.n) (hx : Slc w x l) (hqd : ∀ k, lown q nv k → ¬ own pd ps pm k) :
    Calls Tryd.prog 8 #[.pointer (some ⟨q, 0, none⟩), x] w (AppR w pd ps pm q nv (appD d L l)) := by
  obtain ⟨r, hr⟩ : ∃ r, r = appD d L l := ⟨_, rfl⟩
  rw [← hr]
  have HR := Lib.hid hr
  have hn2 := hd.n2
  have HD := Lib.hid hd
  have HOK := Lib.hid hok
  have HQ := Lib.hid hq
  have HX := Lib.hid hx
  have HQD := Lib.hid hqd
  obtain ⟨s2, fs, nn, al, ul, s1, nx, ln⟩ := hL
  obtain ⟨xa, xc, rfl, _⟩ := id hx
  have HSTP := Lib.hid (stopped_any hq)
  have HNXT := Lib.hid (fun W (hW : Stay (fun _ => False) w W) => next_any (hq.stay0 hW) (by omega))
  have HFRE := Lib.hid (fun W (hW : Stay (fun _ => False) w W) => free_any (hq.stay0 hW) ul (by omega))
  have HEND := Lib.hid (fun W (hW : Stay (fun _ => False) w W) => end_any (hq.stay0 hW) (by omega))
  obtain ⟨m, hm⟩ : ∃ m, m = L.nx := ⟨_, rfl⟩
  obtain ⟨u, hu⟩ : ∃ u, u = L.u := ⟨_, rfl⟩
  obtain ⟨dd, hdd⟩ : ∃ dd, dd = L.dead := ⟨_, rfl⟩
  obtain ⟨S, hS⟩ : ∃ S, S = L.S := ⟨_, rfl⟩
  obtain ⟨a, ha⟩ : ∃ a, a = L.a := ⟨_, rfl⟩
  obtain ⟨F, hF⟩ : ∃ F, F = L.F := ⟨_, rfl⟩
  have HM := Lib.hid hm
  have HU := Lib.hid hu
  have HDD := Lib.hid hdd
  have HSS0 := Lib.hid hS
  have HA := Lib.hid ha
  have HF := Lib.hid hF
  rw [← hm] at HNXT nx
  rw [← hu, ← hS] at HFRE ul
  rw [← hu, ← ha] at HEND
  rw [← hdd] at HSTP
  rw [← hS, ← hF] at fs
  rw [← hS] at s2 al
  rw [← ha] at al
  have hm1 : 1 ≤ m := by rw [hm]; unfold Lg.nx; omega
  clear hr hd hok hq hx hqd hm hu hdd hS ha hF
  by_cases hdead : dd = 0
  · have hst := HSTP.out
    rw [hdead, errV_zero] at hst
    have HST := Lib.hid hst
    clear hst
    by_cases hlong : 65536 < l.length
    · have HRR := Lib.hid (show r = (d, L, 0, 2) by
        rw [HR.out]
        unfold appD
        rw [if_neg (by rw [← HDD.out, hdead]; exact fun h => h rfl), if_pos hlong])
      have hlong' : ((65536 : Int) < (l.length : Int)) := by omega
      go_enter Tryd.func8, Tryd.ntmps8
      go_wp2_with fail
      refine HST.out.mono ?_
      rintro e w' ⟨rfl, hw'⟩
      subst w'
      go_wp2
      go_ret2
      refine ⟨nv, ?_, ?_, ?_, Stay.refl _ _, .inl rfl⟩
      · rw [HRR.out]; rfl
      · rw [HRR.out]; exact HD.out
      · rw [HRR.out]; exact HQ.out
    have hlong' : ¬ ((65536 : Int) < (l.length : Int)) := by omega
    obtain ⟨nd, hnd⟩ : ∃ nd, nd = needP (l.length : Int) (m : Int) := ⟨_, rfl⟩
    have HNEED := Lib.hid (fun W => need_any W (l.length : Int) (m : Int))
    rw [← hnd] at HNEED
    have hndl : m ≤ 1099511627776 → nd = needL m l := fun h => by
      rw [hnd]
      unfold needP
      rw [if_neg (by omega), Int.toNat_natCast, Int.toNat_natCast, needL_eq]
    have HNUM := Lib.hid (fun W => isNumber_any W (m : Int))
    by_cases hfull : 1099511627776 < m ∨ S < nd + u + 1
    · have HRR := Lib.hid (show r = (d, L, 0, 10) by
        rw [HR.out]
        unfold appD
        rw [if_neg (by rw [← HDD.out, hdead]; exact fun h => h rfl), if_neg hlong, if_pos]
        rw [← HM.out, ← HU.out, ← HSS0.out]
        by_cases h : 1099511627776 < m
        · exact .inl h
        · rw [← hndl (by omega)]
          exact hfull)
      by_cases hbig : 1099511627776 < m
      · have hb : (decide (1 ≤ (m : Int)) && decide ((m : Int) ≤ 1099511627776)) = false := by
          rw [Bool.and_eq_false_iff, decide_eq_false_iff_not, decide_eq_false_iff_not]
          omega
        rw [hb] at HNUM
        clear hnd hndl hfull hb
        go_enter Tryd.func8, Tryd.ntmps8
        go_wp2_with fail
        refine HST.out.mono ?_
        rintro e w' ⟨rfl, hw'⟩
        subst w'
        go_wp2_with fail
        refine (HNXT.out _ (Stay.refl _ _)).mono ?_
        rintro e w1 ⟨rfl, hs1⟩
        go_wp2_with fail
        refine (HNEED.out _).mono ?_
        rintro e w2 ⟨rfl, hs2⟩
        have HS2 := Lib.hid (hs1.trans hs2)
        clear hs1 hs2
        go_wp2_with fail
        refine (HNUM.out _).mono ?_
        rintro e w3 ⟨rfl, rfl⟩
        go_wp2
        go_ret2
        refine ⟨nv, ?_, ?_, ?_, HS2.out.mono (fun _ x => x.elim), .inl rfl⟩
        · rw [HRR.out]; rfl
        · rw [HRR.out]; exact HD.out.stay HS2.out (fun x => x) (fun x => x) (fun x => x)
        · rw [HRR.out]; exact HQ.out.stay0 HS2.out
      · have hb : (decide (1 ≤ (m : Int)) && decide ((m : Int) ≤ 1099511627776)) = true := by
          rw [Bool.and_eq_true, decide_eq_true_iff, decide_eq_true_iff]
          omega
        rw [hb] at HNUM
        have hgt : ((S - u : Nat) : Int) - 1 < (nd : Int) := by omega
        clear hnd hndl hfull hb
        go_enter Tryd.func8, Tryd.ntmps8
        go_wp2_with fail
        refine HST.out.mono ?_
        rintro e w' ⟨rfl, hw'⟩
        subst w'
        go_wp2_with fail
        refine (HNXT.out _ (Stay.refl _ _)).mono ?_
        rintro e w1 ⟨rfl, hs1⟩
        go_wp2_with fail
        refine (HNEED.out _).mono ?_
        rintro e w2 ⟨rfl, hs2⟩
        have HS2 := Lib.hid (hs1.trans hs2)
        clear hs1 hs2
        go_wp2_with fail
        refine (HNUM.out _).mono ?_
        rintro e w3 ⟨rfl, rfl⟩
        go_wp2_with fail
        refine (HFRE.out _ HS2.out).mono ?_
        rintro e w4 ⟨rfl, hs4⟩
        have HS4 := Lib.hid (HS2.out.trans hs4)
        clear hs4
        go_wp2
        go_ret2
        refine ⟨nv, ?_, ?_, ?_, HS4.out.mono (fun _ x => x.elim), .inl rfl⟩
        · rw [HRR.out]; rfl
        · rw [HRR.out]; exact HD.out.stay HS4.out (fun x => x) (fun x => x) (fun x => x)
        · rw [HRR.out]; exact HQ.out.stay0 HS4.out
    · have hm2 : m ≤ 1099511627776 := by omega
      have hb : (decide (1 ≤ (m : Int)) && decide ((m : Int) ≤ 1099511627776)) = true := by
        rw [Bool.and_eq_true, decide_eq_true_iff, decide_eq_true_iff]
        omega
      rw [hb] at HNUM
      have hgt : ¬ ((S - u : Nat) : Int) - 1 < (nd : Int) := by omega
      have hndl' := hndl hm2
      have HND := Lib.hid hndl'
      obtain ⟨⟨d2, c2⟩, hd2⟩ : ∃ y, y = putsD F S m (recB m l) d (a + u) (List.range nd) := ⟨_, rfl⟩
      have HRR := Lib.hid (show r = if c2 = 0 then (d2, { L with ns := L.ns ++ [nd] }, m, 0) else (d2, { L with dead := c2 }, 0, c2) by
        rw [HR.out]
        unfold appD
        rw [if_neg (by rw [← HDD.out, hdead]; exact fun h => h rfl), if_neg hlong, if_neg (by rw [← HM.out, ← HU.out, ← HSS0.out, ← hndl']; exact hfull), ← HM.out, ← HU.out, ← HSS0.out, ← HA.out, ← HF.out, ← hndl', ← hd2])
      have HSPL := Lib.hid (fun W (hW : Stay (fun _ => False) w W) => spell_any W m _ l hm2 (HX.out.stay0 hW) (by omega))
      have HWRT := Lib.hid (show ∀ W v, Stay (fun _ => False) w W → Owns w.heap.size W v (recB m l) → Calls Tryd.prog 26 #[.agg #[.pointer (some ⟨pd, 0, none⟩), .int .i64 (F : Int), .int .i64 (S : Int)], .int .i64 ((a + u : Nat) : Int), .int .i64 (m : Int), v] W fun e w' => e = .returned (errV c2) ∧ DevAt w' pd ps pm d2 ∧ Stay (own pd ps pm) W w' from fun W v hW hv => by
        have h1 := write_any W pd ps pm d F S (a + u) m v (recB m l) (HD.out.stay hW (fun x => x) (fun x => x) (fun x => x)) HOK.out hv.slc (fun _ k hk hX => by
          have h2 := (hv.lt k hk).1
          have h3 : k < w.heap.size := by
            rcases hX with rfl | rfl | rfl
            · exact HD.out.lt1
            · exact HD.out.lt2
            · exact HD.out.lt3
          omega) (by omega) (by omega) (by omega) hm2 (by
            have h2 := len_recB m l
            have h3 := Pk.len_spell m
            have h4 := Pk.len_spell l.length
            omega)
        rw [parts_need, ← HND.out, ← hd2] at h1
        exact h1)
      obtain ⟨ev, hev⟩ : ∃ ev, ev = errV c2 := ⟨_, rfl⟩
      have HEV := Lib.hid hev
      simp only [← hev] at HWRT
      have HDL := Lib.hid hdead
      clear hnd hndl hndl' hfull hb hd2 hev hdead
      go_enter Tryd.func8, Tryd.ntmps8
      go_wp2_with fail
      refine HST.out.mono ?_
      rintro e w' ⟨rfl, hw'⟩
      subst w'
      go_wp2_with fail
      refine (HNXT.out _ (Stay.refl _ _)).mono ?_
      rintro e w1 ⟨rfl, hs1⟩
      go_wp2_with fail
      refine (HNEED.out _).mono ?_
      rintro e w2 ⟨rfl, hs2⟩
      have HS2 := Lib.hid (hs1.trans hs2)
      clear hs1 hs2
      go_wp2_with fail
      refine (HNUM.out _).mono ?_
      rintro e w3 ⟨rfl, rfl⟩
      go_wp2_with fail
      refine (HFRE.out _ HS2.out).mono ?_
      rintro e w4 ⟨rfl, hs4⟩
      have HS4 := Lib.hid (HS2.out.trans hs4)
      have HQ4 := Lib.hid (HQ.out.stay0 HS4.out)
      have hqo : ¬ own pd ps pm q := HQD.out q (.inl rfl)
      have HQO := Lib.hid hqo
      obtain ⟨SS, hSS⟩ : ∃ SS : World → Prop, SS = fun W => Stay (fun k => own pd ps pm k ∨ k = q) w4 W ∧ W.cell? ⟨q, 0, none⟩ = some (.pointer (some ⟨pd, 0, none⟩)) ∧ W.cell? ⟨q, 1, none⟩ = some (.int .i64 (F : Int)) ∧ W.cell? ⟨q, 2, none⟩ = some (.int .i64 (S : Int)) := ⟨_, rfl⟩
      have HSO := Lib.hid (show ∀ W, SS W → Stay (fun k => own pd ps pm k ∨ k = q) w4 W ∧ W.cell? ⟨q, 0, none⟩ = some (.pointer (some ⟨pd, 0, none⟩)) ∧ W.cell? ⟨q, 1, none⟩ = some (.int .i64 (F : Int)) ∧ W.cell? ⟨q, 2, none⟩ = some (.int .i64 (S : Int)) by intro W h; rw [hSS] at h; exact h)
      have hSSI : ∀ W, Stay (fun k => own pd ps pm k ∨ k = q) w4 W → W.cell? ⟨q, 0, none⟩ = some (.pointer (some ⟨pd, 0, none⟩)) → W.cell? ⟨q, 1, none⟩ = some (.int .i64 (F : Int)) → W.cell? ⟨q, 2, none⟩ = some (.int .i64 (S : Int)) → SS W := by intro W h1 h2 h3 h4; rw [hSS]; exact ⟨h1, h2, h3, h4⟩
      have HSI := Lib.hid hSSI
      have HSS := Lib.hid (show ∀ W, Stay (fun _ => False) w4 W → SS W from fun W h => hSSI W (h.mono (fun _ x => x.elim)) (h.cell HQ4.out.c0 (fun x => x)) (by rw [HF.out]; exact h.cell HQ4.out.c1 (fun x => x)) (by rw [HSS0.out]; exact h.cell HQ4.out.c2 (fun x => x)))
      have HSK := Lib.hid (show ∀ W W', Stay (own pd ps pm) W W' → SS W → SS W' from fun W W' h h0 => by
        obtain ⟨h1, h2, h3, h4⟩ := HSO.out W h0
        exact hSSI W' (h1.trans (h.mono (fun _ hk => .inl hk))) (h.cell h2 hqo) (h.cell h3 hqo) (h.cell h4 hqo))
      clear hs4 hSS hSSI hqo
      go_wp2
      refine wp_region_held (S := SS) (by kernel_rfl) ?_
      change wpAnyH _ _ _ _ _ _ _ _ (World.drew _)
      have hS : SS w4.drew := HSS.out _ Stay.drew
      have hs0 : Stay (fun _ => False) w4 w4.drew := Stay.drew
      refine wpAnyH_takeL (i := 0) (v := .pointer (some ⟨q, 0, none⟩)) #[true, false, false, false, false, false, false, false, false, false, false, false, false, false, false] rfl (by kernel_rfl) (by kernel_rfl) (by kernel_rfl) (fun _ _ _ h => h) (by kernel_rfl) hS (Or.inl ⟨by rfl, fun W hW => ?_⟩) ?_
      · go_simp
      conv => arg 8; simp [Act.put]
      refine wpAnyH_takeL (i := 1) (v := .pointer (some ⟨q, 0, none⟩)) #[true, true, false, false, false, false, false, false, false, false, false, false, false, false, false] rfl (by kernel_rfl) (by kernel_rfl) (by kernel_rfl) (fun _ _ _ h => h) (by kernel_rfl) hS (Or.inl ⟨by rfl, fun W hW => ?_⟩) ?_
      · go_simp
      conv => arg 8; simp [Act.put]
      refine wpAnyH_takeL (i := 2) (v := .pointer (some ⟨q, 0, none⟩)) #[true, true, true, false, false, false, false, false, false, false, false, false, false, false, false] rfl (by kernel_rfl) (by kernel_rfl) (by kernel_rfl) (fun _ _ _ h => h) (by kernel_rfl) hS (Or.inl ⟨by rfl, fun W hW => ?_⟩) ?_
      · go_simp
      conv => arg 8; simp [Act.put]
      refine wpAnyH_takeL (i := 3) (v := .pointer (some ⟨q, 0, none⟩)) #[true, true, true, true, false, false, false, false, false, false, false, false, false, false, false] rfl (by kernel_rfl) (by kernel_rfl) (by kernel_rfl) (fun _ _ _ h => h) (by kernel_rfl) hS (Or.inl ⟨by rfl, fun W hW => ?_⟩) ?_
      · go_simp
      conv => arg 8; simp [Act.put]
      refine wpAnyH_takeL (i := 4) (v := .agg #[.pointer (some ⟨pd, 0, none⟩), .int .i64 (F : Int), .int .i64 (S : Int)]) #[true, true, true, true, true, false, false, false, false, false, false, false, false, false, false] rfl (by kernel_rfl) (by kernel_rfl) (by kernel_rfl) (fun _ _ _ h => h) (by kernel_rfl) hS (Or.inl ⟨by rfl, fun W hW => ?_⟩) ?_
      · have q0 := (HSO.out _ hW).2.1
        have q1 := (HSO.out _ hW).2.2.1
        have q2 := (HSO.out _ hW).2.2.2
        go_simp
      conv => arg 8; simp [Act.put]
      refine wpAnyH_takeL (i := 5) (v := .pointer (some ⟨q, 0, none⟩)) #[true, true, true, true, true, true, false, false, false, false, false, false, false, false, false] rfl (by kernel_rfl) (by kernel_rfl) (by kernel_rfl) (fun _ _ _ h => h) (by kernel_rfl) hS (Or.inl ⟨by rfl, fun W hW => ?_⟩) ?_
      · go_simp
      conv => arg 8; simp [Act.put]
      refine wpAnyH_takeL (i := 7) (v := .int .i64 (m : Int)) #[true, true, true, true, true, true, false, true, false, false, false, false, false, false, false] rfl (by kernel_rfl) (by kernel_rfl) (by kernel_rfl) (fun _ _ _ h => h) (by kernel_rfl) hS (Or.inl ⟨by rfl, fun W hW => ?_⟩) ?_
      · go_simp
      conv => arg 8; simp [Act.put]
      refine wpAnyH_takeL (i := 8) (v := .int .i64 (m : Int)) #[true, true, true, true, true, true, false, true, true, false, false, false, false, false, false] rfl (by kernel_rfl) (by kernel_rfl) (by kernel_rfl) (fun _ _ _ h => h) (by kernel_rfl) hS (Or.inl ⟨by rfl, fun W hW => ?_⟩) ?_
      · go_simp
      conv => arg 8; simp [Act.put]
      refine wpAnyH_takeL (i := 9) (v := .slice xa l.length xc) #[true, true, true, true, true, true, false, true, true, true, false, false, false, false, false] rfl (by kernel_rfl) (by kernel_rfl) (by kernel_rfl) (fun _ _ _ h => h) (by kernel_rfl) hS (Or.inl ⟨by rfl, fun W hW => ?_⟩) ?_
      · go_simp
      conv => arg 8; simp [Act.put]
      refine wpAnyH_one #[true, true, true, true, true, true, true, true, true, true, false, false, false, false, false] (i := 6) rfl (by kernel_rfl) (by kernel_rfl) (fun K hK => ?_)
      go_simp
      go_wp2_with (go_at_call 19; refine (HEND.out _ (HS4.out.trans hs0)).mono ?_; rintro e z5 ⟨rfl, s0⟩; have s : SS _ := HSK.out _ _ (s0.mono (fun _ x => x.elim)) hS; replace hs0 := hs0.trans s0; clear s0)
      refine hK _ _ s ?_
      clear hK hS
      have hS := s
      clear s
      conv => arg 8; simp [Act.put]
      refine wpAnyH_one #[true, true, true, true, true, true, true, true, true, true, true, false, false, false, false] (i := 10) rfl (by kernel_rfl) (by kernel_rfl) (fun K hK => ?_)
      go_simp
      go_wp2_with (go_at_call 27; refine (HSPL.out _ (HS4.out.trans hs0)).mono ?_; rintro e z6 ⟨v7, rfl, ho7, s0⟩; have HO7 := Lib.hid (Pk.Owns.base ho7 (base' := w.heap.size) (fun k hk => Nat.le_trans (HS4.out.trans hs0).size (ho7.lt k hk).1)); clear ho7; have s : SS _ := HSK.out _ _ (s0.mono (fun _ x => x.elim)) hS; replace hs0 := hs0.trans s0; clear s0)
      refine hK _ _ s ?_
      clear hK hS
      have hS := s
      clear s
      conv => arg 8; simp [Act.put]
      refine wpAnyH_one #[true, true, true, true, true, true, true, true, true, true, true, true, false, false, false] (i := 11) rfl (by kernel_rfl) (by kernel_rfl) (fun K hK => ?_)
      go_simp
      go_wp2_with (go_at_call 26; refine (HWRT.out _ _ (HS4.out.trans hs0) HO7.out).mono ?_; rintro e z7 ⟨rfl, hd8, s1⟩; have HD6 := Lib.hid hd8; have HS6 := Lib.hid (show Stay (own pd ps pm) w4 _ from (hs0.mono (fun _ x => x.elim)).trans s1); have s : SS _ := HSK.out _ _ s1 hS; clear hd8 s1)
      refine hK _ _ s ?_
      clear hK hS
      have hS := s
      clear s
      conv => arg 8; simp [Act.put]
      have HQ6 := Lib.hid (HQ4.out.stay HS6.out HQO.out (fun k hk => HQD.out k (.inr hk)))
      have f7 := HQ6.out.fz 7
      refine wpAnyH_takeL (i := 12) (v := .pointer (some ⟨q, 0, none⟩)) #[true, true, true, true, true, true, true, true, true, true, true, true, true, false, false] rfl (by kernel_rfl) (by kernel_rfl) (by kernel_rfl) (fun _ _ _ h => h) (by kernel_rfl) hS (Or.inl ⟨by rfl, fun W hW => ?_⟩) ?_
      · go_simp
      conv => arg 8; simp [Act.put]
      refine wpAnyH_takeL (i := 13) (v := .pointer (some ⟨q, 7, none⟩)) #[true, true, true, true, true, true, true, true, true, true, true, true, true, true, false] rfl (by kernel_rfl) (by kernel_rfl) (by kernel_rfl) (fun _ _ _ h => h) (by kernel_rfl) hS (Or.inl ⟨by rfl, fun W hW => ?_⟩) ?_
      · go_simp
      conv => arg 8; simp [Act.put]
      refine wpAnyH_one #[true, true, true, true, true, true, true, true, true, true, true, true, true, true, true] (i := 14) rfl (by kernel_rfl) (by kernel_rfl) (fun K hK => ?_)
      have hrun := run_store_err z7 q 7 c2 _ HQ6.out.c7 f7
      rw [← HEV.out] at hrun
      refine step_store_run rfl 26 (.tmp 48) (.tmp 46) rfl ⟨q, 7, none⟩ rfl ev rfl _ hrun ?_
      have hcs := fun j => cell_of_row (z7.setCell ⟨q, 7, none⟩ ev) q j _ _ _ (heap_setCell_same z7 q 7 _ _ ev HQ6.out.hd)
      have s : SS (z7.setCell ⟨q, 7, none⟩ ev) := HSI.out _ ((HSO.out _ hS).1.trans (Stay.setCell _ _ _ (.inr rfl))) (by rw [hcs]; rfl) (by rw [hcs, HF.out]; rfl) (by rw [hcs, HSS0.out]; rfl)
      refine hK _ _ s ?_
      clear hK hS hcs hrun
      have hS := s
      clear s
      conv => arg 8; simp [Act.put]
      refine wpAnyH_done (by kernel_rfl) ?_ _
      have hS6 := HS6.out
      have g7 : (z7.setCell ⟨q, 7, none⟩ ev).cell? ⟨q, 7, none⟩ = some ev := cell_of_row _ q 7 _ _ _ (heap_setCell_same z7 q 7 _ _ ev HQ6.out.hd)
      have HHD := Lib.hid (heap_setCell_same z7 q 7 _ _ ev HQ6.out.hd)
      have HSE := Lib.hid (show Stay (fun k => k = q) z7 (z7.setCell ⟨q, 7, none⟩ ev) from Stay.setCell _ _ _ rfl)
      have HROW := Lib.hid (show CO 0 3 (z7.setCell ⟨q, 7, none⟩ ev) nv (ints L.ns) from HQ6.out.row.stay HSE.out (fun k hk => HQ6.out.nq k hk))
      have HDF := Lib.hid (HD6.out.stay HSE.out (fun h => HQO.out (.inl h.symm)) (fun h => HQO.out (.inr (.inl h.symm))) (fun h => HQO.out (.inr (.inr h.symm))))
      have HSA := Lib.hid (show Stay (fun k => own pd ps pm k ∨ lown q nv k) w (z7.setCell ⟨q, 7, none⟩ ev) from ((HS4.out.mono (fun _ x => x.elim)).trans (hS6.mono (fun k hk => .inl hk))).trans (HSE.out.mono (fun k hk => .inr (.inl hk))))
      obtain ⟨z9, hz9⟩ : ∃ z9, z9 = z7.setCell ⟨q, 7, none⟩ ev := ⟨_, rfl⟩
      rw [← hz9] at g7 HHD HSE HROW HDF HSA ⊢
      clear hz9 hS hS6 hs0
      by_cases hc : c2 = 0
      · have hev : ev = .nilIface := by rw [HEV.out, hc]; rfl
        subst hev
        have hlg9 : LgAt z9 q pd nv L := ⟨by rw [HHD.out]; show some (Obj.cells #[_, _, _, _, _, _, _, _] _ _) = some (Obj.cells #[_, _, _, _, _, _, _, _] _ _); rw [show L.dead = 0 by rw [← HDD.out, HDL.out]]; rfl, HROW.out⟩
        have HTK := Lib.hid (take_any z9 q pd nv L nd hlg9 (by rw [← HU.out] at ln; omega) (by rw [← HU.out]; omega))
        have HC := Lib.hid (show r = (d2, { L with ns := L.ns ++ [nd] }, m, 0) from HRR.out.trans (if_pos hc))
        clear hc hlg9
        go_wp2_with fail
        refine HTK.out.mono ?_
        rintro e z10 ⟨⟨v10, rfl⟩, nv', hlg, hs10, hmv⟩
        have HLG := Lib.hid hlg
        have HS10 := Lib.hid hs10
        have HMV := Lib.hid hmv
        clear hlg hs10 hmv
        go_wp2
        go_ret2
        refine ⟨nv', ?_, ?_, ?_, HSA.out.trans (HS10.out.mono (fun k hk => .inr hk)), ?_⟩
        · rw [HC.out]; rfl
        · rw [HC.out]; exact HDF.out.stay HS10.out (fun h => HQD.out _ h (.inl rfl)) (fun h => HQD.out _ h (.inr (.inl rfl))) (fun h => HQD.out _ h (.inr (.inr rfl)))
        · rw [HC.out]; exact HLG.out
        · rcases HMV.out with h | h
          · exact .inl h
          · exact .inr ⟨_, h, by have := HSA.out.size; omega⟩
      · have hev : ev = .iface 50 (.int .i64 (c2 : Int)) := by rw [HEV.out]; exact errV_pos hc
        have HC := Lib.hid (show r = (d2, { L with dead := c2 }, 0, c2) from HRR.out.trans (if_neg hc))
        have HCC := Lib.hid hc
        subst hev
        clear hc
        go_wp2
        go_region
        go_wp2
        go_ret2
        refine ⟨nv, ?_, ?_, ?_, ?_, .inl rfl⟩
        · rw [HC.out]
          simp only []
          rw [errV_pos HCC.out]
          rfl
        · rw [HC.out]; exact HDF.out.stay (Stay.drew (X := fun _ => False)) (fun x => x) (fun x => x) (fun x => x)
        · rw [HC.out]
          refine LgAt.stay0 ⟨?_, HROW.out⟩ Stay.drew
          rw [HHD.out]
          show some (Obj.cells #[_, _, _, _, _, _, _, _] _ _) = some (Obj.cells #[_, _, _, _, _, _, _, _] _ _)
          rw [show errV c2 = _ from errV_pos HCC.out]
          rfl
        · exact HSA.out.trans Stay.drew
  · have HRR := Lib.hid (show r = (d, L, 0, dd) by
      rw [HR.out]
      unfold appD
      rw [if_pos (by rw [← HDD.out]; exact hdead), ← HDD.out])
    have hst := HSTP.out
    rw [errV_pos hdead] at hst
    have HST := Lib.hid hst
    have HDE := Lib.hid hdead
    clear hst hdead
    unfold Pk.errI at HST
    go_enter Tryd.func8, Tryd.ntmps8
    go_wp2_with fail
    refine HST.out.mono ?_
    rintro e w' ⟨rfl, hw'⟩
    subst w'
    go_wp2
    go_ret2
    refine ⟨nv, ?_, ?_, ?_, Stay.refl _ _, .inl rfl⟩
    · rw [HRR.out]
      simp only []
      rw [errV_pos HDE.out]
      rfl
    · rw [HRR.out]; exact HD.out
    · rw [HRR.out]; exact HQ.out

/-- Flush, as a function: the device, the log, the error's number. -/
def fluD (d : DS) (L : Lg) : DS × Lg × Nat :=
  if L.dead ≠ 0 then (d, L, L.dead) else ((flushD d).1, { L with dead := (flushD d).2 }, (flushD d).2)

set_option maxHeartbeats 8000000 in
theorem flush_any (w : World) (pd ps pm q : Nat) (nv : Value) (d : DS) (L : Lg) (hd : DevAt w pd ps pm d) (hq : LgAt w q pd nv L) (hqd : ∀ k, lown q nv k → ¬ own pd ps pm k) :
    Calls Tryd.prog 10 #[.pointer (some ⟨q, 0, none⟩)] w fun e w' => e = .returned (errV (fluD d L).2.2) ∧ DevAt w' pd ps pm (fluD d L).1 ∧ LgAt w' q pd nv (fluD d L).2.1 ∧ Stay (fun k => own pd ps pm k ∨ lown q nv k) w w' := by
  obtain ⟨r, hr⟩ : ∃ r, r = fluD d L := ⟨_, rfl⟩
  rw [← hr]
  have HR := Lib.hid hr
  have HD := Lib.hid hd
  have HQ := Lib.hid hq
  have HQD := Lib.hid hqd
  have HSTP := Lib.hid (stopped_any hq)
  obtain ⟨dd, hdd⟩ : ∃ dd, dd = L.dead := ⟨_, rfl⟩
  have HDD := Lib.hid hdd
  rw [← hdd] at HSTP
  clear hr hd hq hqd hdd
  by_cases hdead : dd = 0
  · have hst := HSTP.out
    rw [hdead, errV_zero] at hst
    have HST := Lib.hid hst
    obtain ⟨⟨d2, c2⟩, hd2⟩ : ∃ y, y = flushD d := ⟨_, rfl⟩
    have HRR := Lib.hid (show r = (d2, { L with dead := c2 }, c2) by
      rw [HR.out]
      unfold fluD
      rw [if_neg (by rw [← HDD.out, hdead]; exact fun h => h rfl), ← hd2])
    have hfl := fun W (hW : Stay (fun _ => False) w W) => Tg.flush_all W pd ps pm d (HD.out.stay hW (fun x => x) (fun x => x) (fun x => x))
    rw [← hd2] at hfl
    obtain ⟨ev, hev⟩ : ∃ ev, ev = errV c2 := ⟨_, rfl⟩
    have HEV := Lib.hid hev
    simp only [← hev] at hfl
    have HFL := Lib.hid hfl
    have hqo : ¬ own pd ps pm q := HQD.out q (.inl rfl)
    have HQO := Lib.hid hqo
    obtain ⟨SS, hSS⟩ : ∃ SS : World → Prop, SS = fun W => Stay (fun k => own pd ps pm k ∨ k = q) w W ∧ W.cell? ⟨q, 0, none⟩ = some (.pointer (some ⟨pd, 0, none⟩)) := ⟨_, rfl⟩
    have HSO := Lib.hid (show ∀ W, SS W → Stay (fun k => own pd ps pm k ∨ k = q) w W ∧ W.cell? ⟨q, 0, none⟩ = some (.pointer (some ⟨pd, 0, none⟩)) by intro W h; rw [hSS] at h; exact h)
    have hSSI : ∀ W, Stay (fun k => own pd ps pm k ∨ k = q) w W → W.cell? ⟨q, 0, none⟩ = some (.pointer (some ⟨pd, 0, none⟩)) → SS W := by intro W h1 h2; rw [hSS]; exact ⟨h1, h2⟩
    have HSI := Lib.hid hSSI
    have HSS := Lib.hid (show ∀ W, Stay (fun _ => False) w W → SS W from fun W h => hSSI W (h.mono (fun _ x => x.elim)) (h.cell HQ.out.c0 (fun x => x)))
    have HSK := Lib.hid (show ∀ W W', Stay (own pd ps pm) W W' → SS W → SS W' from fun W W' h h0 => by
      obtain ⟨h1, h2⟩ := HSO.out W h0
      exact hSSI W' (h1.trans (h.mono (fun _ hk => .inl hk))) (h.cell h2 hqo))
    clear hst hd2 hfl hev hdead hqo hSS hSSI
    go_enter Tryd.func10, Tryd.ntmps10
    go_wp2_with fail
    refine HST.out.mono ?_
    rintro e w' ⟨rfl, hw'⟩
    subst w'
    have c0 := HQ.out.c0
    go_wp2_with fail
    refine (HFL.out _ (Stay.refl _ _)).mono ?_
    rintro e zF ⟨rfl, hd8, s1⟩
    have HQ6 := Lib.hid (HQ.out.stay s1 HQO.out (fun k hk => HQD.out k (.inr hk)))
    have f7 := HQ6.out.fz 7
    have c7 := HQ6.out.c7
    have HHD := Lib.hid (heap_setCell_same zF q 7 _ _ ev HQ6.out.hd)
    have HSE := Lib.hid (show Stay (fun k => k = q) zF (zF.setCell ⟨q, 7, none⟩ ev) from Stay.setCell _ _ _ rfl)
    have HROW := Lib.hid (show CO 0 3 (zF.setCell ⟨q, 7, none⟩ ev) nv (ints L.ns) from HQ6.out.row.stay HSE.out (fun k hk => HQ6.out.nq k hk))
    have HDF := Lib.hid (hd8.stay HSE.out (fun h => HQO.out (.inl h.symm)) (fun h => HQO.out (.inr (.inl h.symm))) (fun h => HQO.out (.inr (.inr h.symm))))
    have HSA := Lib.hid (show Stay (fun k => own pd ps pm k ∨ lown q nv k) w (zF.setCell ⟨q, 7, none⟩ ev) from (s1.mono (fun k hk => .inl hk)).trans (HSE.out.mono (fun k hk => .inr (.inl hk))))
    have HFIN := Lib.hid (show DevAt (zF.setCell ⟨q, 7, none⟩ ev) pd ps pm r.1 ∧ LgAt (zF.setCell ⟨q, 7, none⟩ ev) q pd nv r.2.1 by
      rw [HRR.out]
      refine ⟨HDF.out, ?_, HROW.out⟩
      rw [HHD.out]
      show some (Obj.cells #[_, _, _, _, _, _, _, _] _ _) = some (Obj.cells #[_, _, _, _, _, _, _, _] _ _)
      rw [← HEV.out]
      rfl)
    have HRE := Lib.hid (show errV r.2.2 = ev by rw [HRR.out, HEV.out])
    clear hd8 s1 c0
    have hev2 : ev = .nilIface ∨ ∃ c : Int, ev = .iface 50 (.int .i64 c) := by
      by_cases h0 : c2 = 0
      · exact .inl (by rw [HEV.out, h0]; rfl)
      · exact .inr ⟨_, by rw [HEV.out]; exact errV_pos h0⟩
    rcases hev2 with rfl | ⟨cc, rfl⟩
    · go_wp2
      go_ret
      exact ⟨by rw [HRE.out]; rfl, HFIN.out.1, HFIN.out.2, HSA.out⟩
    · go_wp2
      go_ret
      exact ⟨by rw [HRE.out]; rfl, HFIN.out.1, HFIN.out.2, HSA.out⟩
  · have HRR := Lib.hid (show r = (d, L, dd) by
      rw [HR.out]
      unfold fluD
      rw [if_pos (by rw [← HDD.out]; exact hdead), ← HDD.out])
    have hst := HSTP.out
    rw [errV_pos hdead] at hst
    have HST := Lib.hid hst
    have HDE := Lib.hid hdead
    clear hst hdead
    unfold Pk.errI at HST
    go_enter Tryd.func10, Tryd.ntmps10
    go_wp2_with fail
    refine HST.out.mono ?_
    rintro e w' ⟨rfl, rfl⟩
    go_wp2
    go_ret
    refine ⟨?_, ?_, ?_, Stay.refl _ _⟩
    · rw [HRR.out]
      simp only []
      rw [errV_pos HDE.out]
      rfl
    · rw [HRR.out]; exact HD.out
    · rw [HRR.out]; exact HQ.out

end Go.Proofs.YthbcgimmbcdnmaaDoor.Lo
