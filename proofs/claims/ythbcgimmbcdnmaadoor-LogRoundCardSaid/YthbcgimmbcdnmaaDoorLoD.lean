/-
  log: sectors made noughts (ring.wipe).
-/
import Derived.Test.YthbcgimmbcdnmaaDoorLoC
namespace Go.Proofs.YthbcgimmbcdnmaaDoor.Lo
open Go.RowKit
open Pk (spellB bytesB takeB numB textB RS Slc Owns RdAt WrAt stay_drewN)
open Tg (writeD flushD down DOk readD read_all Arg write_all flush_all)
set_option maxRecDepth 100000
set_option linter.unusedVariables false

/-- Sectors made noughts, one behind the other, as long as there is no error: the device, whether one was, and the error's number. -/
def wipeK (F S fr : Nat) : List Nat → DS × Bool → (DS × Bool) × Nat
  | [], st => (st, 0)
  | i :: is, st => if st.1.cur (F + (fr + i) % S) = zsec then wipeK F S fr is st else
    if (writeD st.1 ((F + (fr + i) % S : Nat) : Int) []).2 = 0 then wipeK F S fr is ((writeD st.1 ((F + (fr + i) % S : Nat) : Int) []).1, true) else
    (((writeD st.1 ((F + (fr + i) % S : Nat) : Int) []).1, st.2), (writeD st.1 ((F + (fr + i) % S : Nat) : Int) []).2)
theorem wipeK_app (F S fr : Nat) : ∀ (ks ls : List Nat) (st : DS × Bool), wipeK F S fr (ks ++ ls) st = if (wipeK F S fr ks st).2 = 0 then wipeK F S fr ls (wipeK F S fr ks st).1 else wipeK F S fr ks st
  | [], ls, st => by simp [wipeK]
  | k :: ks, ls, st => by
    simp only [wipeK, List.cons_append]
    by_cases h1 : st.1.cur (F + (fr + k) % S) = zsec
    · simp only [if_pos h1]
      exact wipeK_app F S fr ks ls st
    · simp only [if_neg h1]
      by_cases h2 : (writeD st.1 ((F + (fr + k) % S : Nat) : Int) []).2 = 0
      · simp only [if_pos h2]
        exact wipeK_app F S fr ks ls _
      · simp only [if_neg h2]
/-- wipe, as a function. -/
def wipeD (d : DS) (F S fr n : Nat) : DS × Nat :=
  if (wipeK F S fr (List.range n) (d, false)).2 = 0 then
    (if (wipeK F S fr (List.range n) (d, false)).1.2 = true then flushD (wipeK F S fr (List.range n) (d, false)).1.1 else ((wipeK F S fr (List.range n) (d, false)).1.1, 0))
  else ((wipeK F S fr (List.range n) (d, false)).1.1, (wipeK F S fr (List.range n) (d, false)).2)
theorem arg_nil (w : World) (pd ps pm : Nat) : Arg w pd ps pm (.slice none 0 0) [] := ⟨none, 0, rfl, fun h => absurd h (Nat.lt_irrefl 0), fun h => absurd h (Nat.lt_irrefl 0)⟩
theorem writeD_up {d : DS} (h : ¬ down d = true) {i : Int} {l : List UInt8} (h0 : (writeD d i l).2 = 0) : ¬ down (writeD d i l).1 = true := by
  unfold writeD at h0 ⊢
  rw [if_neg h] at h0 ⊢
  split at h0
  · cases h0
  · rename_i h1
    rw [if_neg h1]
    split at h0
    · cases h0
    · rename_i h2
      rw [if_neg h2]
      split at h0
      · rename_i h3
        rw [if_pos h3]
        split at h0
        · cases h0
        · rename_i h4
          rw [if_neg h4]
          exact h
      · rename_i h3
        rw [if_neg h3]
        exact h

set_option maxHeartbeats 4000000 in
theorem wipe_any (w : World) (pd ps pm : Nat) (d : DS) (K : Int) (F S fr n : Nat) (h : DevAt w pd ps pm d) (hup : ¬ down d = true) (hok : DOk d K) (hK : K ≤ 4000000000000000000) (hS : 1 ≤ S) (hFS : F + S ≤ d.n) (hfr : fr ≤ 1000000) (hn : n ≤ 16384) :
    Calls Tryd.prog 18 #[ringV pd F S, .int .i64 (fr : Int), .int .i64 (n : Int)] w fun e w' => e = .returned (Pk.errV (wipeD d F S fr n).2) ∧ DevAt w' pd ps pm (wipeD d F S fr n).1 ∧ Stay (own pd ps pm) w w' := by
  have hn2 := h.n2
  have lt1 := h.lt1
  have lt2 := h.lt2
  have lt3 := h.lt3
  have HOB := Lib.hid (show ∀ k, own pd ps pm k → k < w.heap.size by rintro k (rfl | rfl | rfl) <;> assumption)
  have H0 := Lib.hid h
  have HUP := Lib.hid hup
  have HOK := Lib.hid hok
  unfold ringV
  clear h hup hok lt1 lt2 lt3
  go_enter Tryd.func18, Tryd.ntmps18
  go_wp2
  have HW0 := Lib.hid (show Stay (fun _ => False) w (w.alloc (.cells #[.pointer (some ⟨pd, 0, none⟩), .int .i64 (F : Int), .int .i64 (S : Int)] 58)) from Stay.alloc _ _)
  have HB0 := Lib.hid (heap_alloc_new w (.cells #[.pointer (some ⟨pd, 0, none⟩), .int .i64 (F : Int), .int .i64 (S : Int)] 58))
  obtain ⟨r, hr⟩ : ∃ r, r = w.heap.size := ⟨_, rfl⟩
  rw [← hr] at HB0 ⊢
  have HR := Lib.hid hr
  generalize w.alloc (.cells #[.pointer (some ⟨pd, 0, none⟩), .int .i64 (F : Int), .int .i64 (S : Int)] 58) = w0 at *
  clear hr
  go_loopw [7, 14] (fun b i wr => ∃ (j : Nat) (d1 : DS) (b1 : Bool), j ≤ n ∧ i = .int .i64 (j : Int) ∧ b = .bool b1 ∧ Hid (wipeK F S fr (List.range j) (d, false) = ((d1, b1), 0)) ∧ Hid (¬ down d1 = true) ∧ Hid (DOk d1 (K + j)) ∧ Hid (d1.n = d.n) ∧ Hid (DevAt wr pd ps pm d1) ∧ Hid (Stay (own pd ps pm) w0 wr)) (fun _ i _ => n - valI i)
  case atStart => exact ⟨0, d, false, Nat.zero_le _, rfl, rfl, Lib.hid rfl, HUP, Lib.hid (HOK.out.mono (by omega)), Lib.hid rfl, Lib.hid (H0.out.stay HW0.out (fun x => x) (fun x => x) (fun x => x)), Lib.hid (Stay.refl _ _)⟩
  case round =>
    obtain ⟨j, d1, b1, hj, rfl, rfl, HWK, HUP1, HOK1, HN1, HD1, HST⟩ := hrel
    have hrno : ¬ own pd ps pm r := fun hx => by have h1 := HOB.out r hx; have h2 := HR.out; omega
    have HRNO := Lib.hid hrno
    by_cases hlt : j < n
    · have HBK := Lib.hid ((HST.out.block r (Array.getElem?_eq_some_iff.1 HB0.out).1 hrno).trans HB0.out)
      have c0 : wr.cell? ⟨r, 0, none⟩ = some (.pointer (some ⟨pd, 0, none⟩)) := cell_of_row _ _ _ _ _ _ HBK.out
      have c1 : wr.cell? ⟨r, 1, none⟩ = some (.int .i64 (F : Int)) := cell_of_row _ _ _ _ _ _ HBK.out
      have c2 : wr.cell? ⟨r, 2, none⟩ = some (.int .i64 (S : Int)) := cell_of_row _ _ _ _ _ _ HBK.out
      have HSEC := Lib.hid (fun W => sector_any W (.pointer (some ⟨pd, 0, none⟩)) F S (fr + j) hS (by omega) (by omega) (by omega))
      have hmod := Nat.mod_lt (fr + j) (show S > 0 by omega)
      rw [show ((fr + j : Nat) : Int) = (fr : Int) + (j : Int) by omega] at HSEC
      obtain ⟨q, hq⟩ : ∃ q, q = F + (fr + j) % S := ⟨_, rfl⟩
      have HQ := Lib.hid hq
      have hqn : q < d1.n := by have h1 := HN1.out; omega
      have HQN := Lib.hid hqn
      rw [← hq] at HSEC
      have HRD := Lib.hid (fun W (hW : Stay (fun _ => False) wr W) => read_all W pd ps pm d1 q (HD1.out.stay hW (fun x => x) (fun x => x) (fun x => x)) hqn)
      have e1 : readD d1 q = (d1.cur q, 0) := if_neg HUP1.out
      simp only [e1, Pk.errV_zero] at HRD
      have hcl : (d1.cur q).length = 64 := Tg.cur64 HD1.out q
      have HCL := Lib.hid hcl
      have hkw := wipeK_app F S fr (List.range j) [j] (d, false)
      rw [HWK.out, if_pos rfl, ← List.range_succ] at hkw
      simp only [wipeK] at hkw
      rw [← hq] at hkw
      have HKW := Lib.hid hkw
      clear hrno hmod hq hqn e1 hkw
      go_wp2_with fail
      refine (HSEC.out _).mono ?_
      rintro e w1 ⟨rfl, hs1⟩
      have HS1 := Lib.hid hs1
      have d0 := hs1.cell c0 (fun x => x)
      clear hs1 c0 c1 c2
      go_wp2_with fail
      refine (HRD.out _ HS1.out).mono ?_
      rintro e w2 ⟨v2, rfl, ho2, hs2⟩
      have HS2 := Lib.hid (HS1.out.trans hs2)
      have e0 := hs2.cell d0 (fun x => x)
      obtain ⟨g2, c3, e2, h2c, h2b⟩ : ∃ g2 c3, v2 = .slice (some ⟨g2, 0, none⟩) 64 c3 ∧ 64 ≤ c3 ∧ c3 ≤ 9223372036854775807 := by
        rcases ho2.2 with ⟨e, he⟩ | ⟨g, cap, cur, e, h4, hg, h5, h6, _⟩
        · rw [hcl] at he; omega
        · exact ⟨g, cap, by rw [e, hcl], by rw [hcl] at h5; exact h5, by unfold maxLen at h6; omega⟩
      subst e2
      have HLD := Lib.hid (Tg.run_load_at w2 ⟨g2, 0, none⟩ 84 (cellsB (d1.cur q)) _ Tryd.underlying84 rfl (Tg.info_block hcl) (fun i u hu => World.ownsRow.cells (g := g2) ho2 rfl i _ hu))
      have karr := Tg.array_block
      have kz : ∀ w, (zeroValue 84).run Tryd.prog w = .ok (.agg (cellsB zsec).toArray) w := zero_blk
      have k2 := fun w => Tg.eq_block w (d1.cur q) zsec hcl length_zsec
      clear hs2 ho2 d0 hcl
      by_cases hz : d1.cur q = zsec
      · have hb : (d1.cur q == zsec) = true := beq_iff_eq.2 hz
        rw [hb] at k2
        have HKZ := Lib.hid (HKW.out.trans (if_pos hz))
        clear hb hz
        go_wp2_with (refine Tg.wpList_load_at rfl 84 (.tmp 33) rfl ⟨g2, 0, none⟩ rfl _ HLD.out ?_)
        go_roundw
        case rel => exact ⟨j + 1, d1, b1, by omega, by go_num, rfl, HKZ, HUP1, Lib.hid (HOK1.out.mono (by omega)), HN1, Lib.hid (HD1.out.stay HS2.out (fun x => x) (fun x => x) (fun x => x)), Lib.hid (HST.out.trans (HS2.out.mono (fun _ x => x.elim)))⟩
        case measure => simp [valI]; omega
      · have hb : (d1.cur q == zsec) = false := by simpa using hz
        rw [hb] at k2
        have hkz := HKW.out.trans (if_neg hz)
        have HWR := Lib.hid (write_all w2 pd ps pm d1 (q : Int) _ [] (HD1.out.stay HS2.out (fun x => x) (fun x => x) (fun x => x)) (HOK1.out.mono (by omega)) (arg_nil w2 pd ps pm))
        have HKZ := Lib.hid hkz
        have HUW := Lib.hid (fun h0 => writeD_up HUP1.out (i := (q : Int)) (l := []) h0)
        have HOW := Lib.hid (Tg.writeD_ok HOK1.out (q : Int) [])
        have HNW := Lib.hid ((Tg.writeD_n d1 (q : Int) []).trans HN1.out)
        obtain ⟨⟨d2, c2⟩, hd2⟩ : ∃ x, x = writeD d1 (q : Int) [] := ⟨_, rfl⟩
        rw [← hd2] at HWR HKZ HUW HOW HNW
        clear hb hz hkz hd2
        go_wp2_with (first
          | (refine Tg.wpList_load_at rfl 84 (.tmp 33) rfl ⟨g2, 0, none⟩ rfl _ HLD.out ?_)
          | fail)
        refine HWR.out.mono ?_
        rintro e w4 ⟨rfl, hd4, hs4⟩
        have HD4 := Lib.hid hd4
        have HS4 := Lib.hid (HST.out.trans ((HS2.out.mono (fun _ x => x.elim)).trans hs4))
        clear hd4 hs4 k2 kz karr
        by_cases hc : c2 = 0
        · subst hc
          rw [Pk.errV_zero]
          have HKY := Lib.hid (HKZ.out.trans (if_pos rfl))
          go_wp2
          go_roundw
          case rel => exact ⟨j + 1, d2, true, by omega, by go_num, rfl, HKY, Lib.hid (HUW.out trivial), Lib.hid (HOW.out.mono (by omega)), HNW, HD4, HS4⟩
          case measure => simp [valI]; omega
        · have HKY := Lib.hid (HKZ.out.trans (if_neg hc))
          have HWD := Lib.hid (show wipeD d F S fr n = (d2, c2) by
            have h1 := wipeK_app F S fr (List.range (j + 1)) ((List.range (n - (j + 1))).map (j + 1 + ·)) (d, false)
            rw [← List.range_add, show j + 1 + (n - (j + 1)) = n by omega, HKY.out] at h1
            rw [if_neg hc] at h1
            unfold wipeD
            rw [h1, if_neg hc])
          rw [Pk.errV_pos hc]
          unfold Pk.errI
          have HHC := Lib.hid hc
          clear hc
          go_wp2
          go_ret
          refine ⟨by rw [HWD.out, Pk.errV_pos HHC.out]; rfl, by rw [HWD.out]; exact HD4.out, (HW0.out.mono (fun _ x => x.elim)).trans HS4.out⟩
    · obtain rfl : j = n := by omega
      have HBK := Lib.hid ((HST.out.block r (Array.getElem?_eq_some_iff.1 HB0.out).1 hrno).trans HB0.out)
      have c0 : wr.cell? ⟨r, 0, none⟩ = some (.pointer (some ⟨pd, 0, none⟩)) := cell_of_row _ _ _ _ _ _ HBK.out
      cases b1 with
      | false =>
        have HWD := Lib.hid (show wipeD d F S fr j = (d1, 0) by
          unfold wipeD
          rw [HWK.out, if_pos rfl]
          rfl)
        clear hrno
        go_wp2
        go_ret
        exact ⟨by rw [HWD.out]; rfl, by rw [HWD.out]; exact HD1.out, (HW0.out.mono (fun _ x => x.elim)).trans HST.out⟩
      | true =>
        have HWD := Lib.hid (show wipeD d F S fr j = flushD d1 by
          unfold wipeD
          rw [HWK.out, if_pos rfl]
          rfl)
        have HFL := Lib.hid (flush_all wr pd ps pm d1 HD1.out)
        clear hrno
        go_wp2_with fail
        refine HFL.out.mono ?_
        rintro e w4 ⟨rfl, hd4, hs4⟩
        have HS4 := Lib.hid (HST.out.trans hs4)
        have HD4 := Lib.hid hd4
        clear hd4 hs4
        obtain ⟨ev, hev⟩ : ∃ ev, ev = Pk.errV (flushD d1).2 := ⟨_, rfl⟩
        rw [← hev]
        have HEV := Lib.hid hev
        clear hev
        go_wp2
        go_ret
        exact ⟨by rw [HWD.out, ← HEV.out]; rfl, by rw [HWD.out]; exact HD4.out, (HW0.out.mono (fun _ x => x.elim)).trans HS4.out⟩

end Go.Proofs.YthbcgimmbcdnmaaDoor.Lo
