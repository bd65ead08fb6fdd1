/-
  The document's answer (chapter 2): a reader's Count.
-/
import Derived.Test.YtnlknnhibnfhcaaDoorPkRefI
import Derived.Test.YtnlknnhibnfhcaaDoorPkCnt
namespace Go.Proofs.YtnlknnhibnfhcaaDoor.Pk
open Go.RowKit
set_option maxRecDepth 100000

theorem takeB_zero_err {α : Type} {rule : List UInt8 → Except Nat (α × List UInt8)} {zero : α} {b : List UInt8} {c : Nat} (hr : rule b = .error c) : takeB rule zero ⟨b, 0⟩ = (zero, ⟨b, c⟩) := takeB_error (s := ⟨b, 0⟩) rfl hr

theorem numB_pos {most n : Nat} {b r : List UInt8} (h : numB most b = .ok (n, r)) : 0 < b.length := by
  cases b with
  | nil => cases h
  | cons c l => exact Nat.zero_lt_succ _

set_option maxHeartbeats 4000000 in
theorem rrcount_any (b : List UInt8) (err : Nat) (most : Int) (w : World) (x : Value) (hx : Slc w x b) (hmost : most ≤ 9223372036854775807) : Calls Tryd.prog 22 #[rdV x err, .int .i64 most] w fun e w' => RdRet i64V w' x (takeB (cntB most) 0 ⟨b, err⟩) e ∧ Stay (fun _ => False) w w' := by
  have HX := Lib.hid hx
  have hmM : most.toNat ≤ M64 := by unfold M64; omega
  have HM := Lib.hid hmM
  clear hmM
  obtain ⟨TK, htk⟩ : ∃ TK, TK = takeB (cntB most) 0 ⟨b, err⟩ := ⟨_, rfl⟩
  rw [← htk]
  have HT := Lib.hid htk
  clear htk
  obtain ⟨a0, cap, rfl, hr, hn, hcap, hcm⟩ := hx
  have hlen : (b.length : Int) ≤ 9223372036854775807 := by omega
  clear hr hn
  unfold rdV
  have hcs : most < 0 ∨ ¬ most < 0 := by omega
  rcases hcs with hneg | hneg
  all_goals
    go_enter Tryd.func22, Tryd.ntmps22
    go_wp2_with fail
    refine (rruint_at b err most.toNat _ _ _ _ (by first | omega | (simp; omega) | (simp [IntKind.wrap]; omega)) rfl (HX.out.stay0 ((Stay.alloc _ _).trans (Stay.alloc _ _))) HM.out).mono ?_
    rintro e w1 ⟨hret, hs1⟩
    obtain ⟨hb0, hb1⟩ := two_boxes hs1
    obtain ⟨c00, c01, f00, f01⟩ := two_cells hb0
    have hlt0 := lt_of_block hb0
    have hlt1 := lt_of_block hb1
    have hst : Stay (fun _ => False) w w1 := ((Stay.alloc _ _).trans (Stay.alloc _ _)).trans hs1
    have HB1 := Lib.hid hb1
    have HB0 := Lib.hid hb0
    clear hb0 hb1 hs1
    by_cases he : err = 0
    · subst he
      cases hnr : numB most.toNat b with
      | error c =>
        rw [takeB_error (s := ⟨b, 0⟩) rfl hnr] at hret
        obtain ⟨x2, rfl, hsub⟩ := hret
        obtain ⟨a2, c2, rfl, _⟩ := id hsub.1
        have hc0 := numB_err hnr
        have hcb' : ((c : Int) == 0) = false := beq_eq_false_iff_ne.2 (by omega)
        have HTK := Lib.hid (HT.out.trans (takeB_zero_err (zero := (0 : Int)) (cntB_error hnr)))
        clear hnr hc0 hsub
        unfold rdV u64V
        go_wp2_with fail
        refine (fail_new _ _ _ c _ _ rfl).mono ?_
        rintro e w2 ⟨rfl, hs2⟩
        have hst2 : Stay (fun _ => False) w w2 := (hst.trans (Stay.alloc _ _)).trans hs2
        obtain ⟨d10, d11, g10, g11⟩ := two_cells ((hs2.block (w.heap.size + 1) (by simp; omega) (fun x => x)).trans ((Below.heap_alloc _ _ _ hlt1).trans HB1.out))
        clear c00 c01 f00 f01 hst hs2
        unfold rdV
        go_wp2
        have hfin := stay_set2 (B := w.heap.size + 1) hst2 (by omega) (.slice a0 b.length cap) (.int .i64 (c : Int))
        refine bodyPost_ret (v := .tuple #[rdV (.slice a0 b.length cap) c, .int .i64 0]) (by simp [results, Tryd.results22, go_sem, d10, d11]; rfl) rfl ⟨?_, hfin⟩
        rw [HTK.out]
        exact ⟨_, rfl, Sub.stay0 (Sub.refl HX.out) hfin⟩
      | ok p =>
        obtain ⟨n, r⟩ := p
        have hrl := numB_len hnr
        have hle := numB_le hnr
        rw [takeB_ok (s := ⟨b, 0⟩) rfl hnr] at hret
        obtain ⟨x2, rfl, hsub⟩ := hret
        obtain ⟨a2, c2, rfl, _⟩ := id hsub.1
        have hwl : IntKind.u64.wrap (r.length : Int) = (r.length : Int) := IntWalk.u64_in _ (by omega)
        have HN := Lib.hid hnr
        have HSub := Lib.hid hsub
        have HBL := Lib.hid (HX.out.blk_lt (numB_pos hnr))
        clear hnr hsub
        by_cases h1 : r.length < n
        · have hnn : ¬ most < 0 := by omega
          first
            | exact absurd hneg hnn
            | (have HTK := Lib.hid (HT.out.trans (takeB_zero_err (zero := (0 : Int)) (cntB_long HN.out h1)))
               unfold rdV u64V
               go_wp2_with fail
               refine (fail_new _ _ _ 2 _ _ rfl).mono ?_
               rintro e w2 ⟨rfl, hs2⟩
               have hst2 : Stay (fun _ => False) w w2 := (hst.trans (Stay.alloc _ _)).trans hs2
               obtain ⟨d10, d11, g10, g11⟩ := two_cells ((hs2.block (w.heap.size + 1) (by simp; omega) (fun x => x)).trans ((Below.heap_alloc _ _ _ hlt1).trans HB1.out))
               clear c00 c01 f00 f01 hst hs2
               unfold rdV
               go_wp2
               have hfin := stay_set2 (B := w.heap.size + 1) hst2 (by omega) (.slice a0 b.length cap) (.int .i64 (2 : Int))
               refine bodyPost_ret (v := .tuple #[rdV (.slice a0 b.length cap) 2, .int .i64 0]) (by simp [results, Tryd.results22, go_sem, d10, d11]; rfl) rfl ⟨?_, hfin⟩
               rw [HTK.out]
               exact ⟨_, rfl, Sub.stay0 (Sub.refl HX.out) hfin⟩)
        · have HTK := Lib.hid (HT.out.trans (takeB_ok (zero := (0 : Int)) (s := ⟨b, 0⟩) rfl (cntB_ok HN.out h1)))
          have hw : IntKind.i64.wrap (n : Int) = (n : Int) := IntWalk.i64_in _ (by omega)
          obtain ⟨c10, c11, f10, f11⟩ := two_cells HB1.out
          clear c00 c01 f00 f01
          unfold rdV u64V
          go_wp2
          have hfin := (stay_set2 (B := w.heap.size + 1) hst (by omega) (.slice a2 r.length c2) (.int .i64 (0 : Int))).trans (Stay.alloc _ (.cells #[.slice a2 r.length c2, .int .i64 0] 57))
          refine bodyPost_ret (v := .tuple #[rdV (.slice a2 r.length c2) 0, .int .i64 (n : Int)]) (by simp [results, Tryd.results22, go_sem, c10, c11, hlt1]; rfl) rfl ⟨?_, hfin⟩
          rw [HTK.out]
          exact ⟨_, rfl, Sub.stayB HSub.out HBL.out (stayB_set2 w1 (Nat.le_succ _) _ _ _)⟩
    · have hcb' : ((err : Int) == 0) = false := beq_eq_false_iff_ne.2 (by omega)
      rw [takeB_bad (s := ⟨b, err⟩) he] at hret
      obtain ⟨x2, rfl, hsub⟩ := hret
      obtain ⟨a2, c2, rfl, _⟩ := id hsub.1
      have HTK := Lib.hid (HT.out.trans (takeB_bad (zero := (0 : Int)) (s := ⟨b, err⟩) he))
      clear hsub
      unfold rdV u64V
      go_wp2_with fail
      refine (fail_old _ _ _ err _ _ he).mono ?_
      rintro e w2 ⟨rfl, hs2⟩
      have hst2 : Stay (fun _ => False) w w2 := (hst.trans (Stay.alloc _ _)).trans hs2
      obtain ⟨d10, d11, g10, g11⟩ := two_cells ((hs2.block (w.heap.size + 1) (by simp; omega) (fun x => x)).trans ((Below.heap_alloc _ _ _ hlt1).trans HB1.out))
      clear c00 c01 f00 f01 hst hs2
      unfold rdV
      go_wp2
      have hfin := stay_set2 (B := w.heap.size + 1) hst2 (by omega) (.slice a0 b.length cap) (.int .i64 (err : Int))
      refine bodyPost_ret (v := .tuple #[rdV (.slice a0 b.length cap) err, .int .i64 0]) (by simp [results, Tryd.results22, go_sem, d10, d11]; rfl) rfl ⟨?_, hfin⟩
      rw [HTK.out]
      exact ⟨_, rfl, Sub.stay0 (Sub.refl HX.out) hfin⟩

end Go.Proofs.YtnlknnhibnfhcaaDoor.Pk
