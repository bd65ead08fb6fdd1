/-
  sketch: a block's sketch as the document has it.
-/
import Derived.Test.YtddgkckgbmgghaaSkC
namespace Go.Proofs.Ytddgkckgbmgghaa.Sk
open Go.RowKit Hn
set_option maxRecDepth 100000

set_option maxHeartbeats 1000000 in
theorem rof_any (b : List UInt8) (w : World) (hb : b.length = 64) :
    Calls Try.prog 8 #[arrV b] w fun e w' => e = .returned (skV (skN b)) ∧ Stay (fun _ => False) w w' := by
  have hx0 := BAt.new w 23 b
  generalize hw0 : w.alloc (.cells (cellsB b).toArray 23) = w0 at hx0
  have hs0 : Stay (fun _ => False) w w0 := hw0 ▸ Stay.alloc _ _
  have n0 : w0.heap.size = w.heap.size + 1 := by rw [← hw0]; simp
  have hx1 := QAt.new w0 25 (fun _ => 0)
  generalize hw1 : w0.alloc (.cells (qC (fun _ => 0)).toArray 25) = w1 at hx1
  have hs1 : Stay (fun _ => False) w0 w1 := hw1 ▸ Stay.alloc _ _
  have n1 : w1.heap.size = w.heap.size + 2 := by rw [← hw1]; simp [n0]
  have hx2 := QAt.new w1 25 (fun _ => 0)
  generalize hw2 : w1.alloc (.cells (qC (fun _ => 0)).toArray 25) = w2 at hx2
  have hs2 : Stay (fun _ => False) w1 w2 := hw2 ▸ Stay.alloc _ _
  rw [n0] at hx1
  rw [n1] at hx2
  have HB := Lib.hid hb
  have H0 := Lib.hid ((hx0.stay0 hs1).stay0 hs2)
  have H1 := Lib.hid (hx1.stay hs2 (fun x => x))
  have H2 := Lib.hid hx2
  have HS := Lib.hid ((hs0.trans hs1).trans hs2)
  have W0 := Lib.hid hw0
  have W1 := Lib.hid hw1
  have W2 := Lib.hid hw2
  have N0 := Lib.hid n0
  have N1 := Lib.hid n1
  unfold arrV
  clear hb hx0 hx1 hx2 hs0 hs1 hs2 hw0 hw1 hw2 n0 n1
  go_enter Try.func8, Try.ntmps8
  go_wp2_with (first
    | (with_reducible refine q_arr.alloc rfl rfl ?_; first | rw [W0.out, N0.out, W1.out] | rw [W0.out, W1.out, W2.out] | rw [N1.out, W2.out]))
  clear W0 W1 W2 N0 N1
  go_loopw [4] (fun i wr => ∃ k : Nat, k ≤ 4 ∧ i = .int .i64 (k : Int) ∧ BAt wr w.heap.size 23 b ∧ QAt wr (w.heap.size + 1) 25 (fun _ => 0) ∧ QAt wr (w.heap.size + 2) 25 (fillQ b k) ∧ Stay (fun _ => False) w wr) (fun i _ => 4 - (intOf i).toNat)
  case atStart => exact ⟨0, by omega, rfl, H0.out, H1.out, H2.out.congr (fun i _ => by simp [fillQ]), HS.out⟩
  case round =>
    obtain ⟨k, hk, rfl, hf, h1, h2, hst⟩ := hrel
    have HST := Lib.hid hst
    have K1 := Lib.hid h1
    have K2 := Lib.hid h2
    have KF := Lib.hid hf
    clear hf h1 h2 hst
    obtain ⟨wo, rfl⟩ : ∃ wo, wo = wr := ⟨_, rfl⟩
    by_cases hlt : k < 4
    · go_wp2
      go_loopw [5, 6] (fun n i wr => ∃ j : Nat, j ≤ 57 ∧ i = .int .i64 (j : Int) ∧ n = .int .u32 (leastN (lowB (k : Int)) b j : Int) ∧ Stay (fun _ => False) wo wr) (fun _ i _ => 57 - (intOf i).toNat)
      case atStart => exact ⟨0, by omega, rfl, rfl, Stay.refl _ _⟩
      case round =>
        obtain ⟨j, hj, rfl, rfl, hst⟩ := hrel
        have hle := leastN_lt (lowB (k : Int)) b j
        have KFr := Lib.hid (KF.out.stay0 hst)
        by_cases hlt2 : j < 57
        · have HN := Lib.hid (show leastN (lowB (k : Int)) b (j + 1) = min (leastN (lowB (k : Int)) b j) (winN (lowB (k : Int)) ((b.drop j).take 8)) from rfl)
          have hw := winN_lt (lowB (k : Int)) ((b.drop j).take 8)
          have HX := Lib.hid (KFr.out.part (i := j) (n := 8) (c := 64 - j) (by rw [HB.out]; omega) (by omega) (by omega))
          have HTL := Lib.hid (show ((b.drop j).take 8).length ≤ 140737488355327 by rw [List.length_take]; omega)
          have HSI := Lib.hid hst
          have ks := run_win wr w.heap.size j (by omega)
          clear hst
          go_wp2_with fail
          refine (rwindow_any (k : Int) _ _ wr HX.out HTL.out).mono ?_
          rintro e w2 ⟨rfl, s2⟩
          have HS2 := Lib.hid (HSI.out.trans s2)
          clear s2
          unfold u32V
          generalize winN (lowB (k : Int)) ((b.drop j).take 8) = m at *
          generalize leastN (lowB (k : Int)) b j = n at *
          go_wp2
          all_goals refine ⟨⟨j + 1, by omega, by go_num, by rw [HN.out]; first | omega | go_num, HS2.out⟩, by simp [intOf]; omega⟩
        · obtain rfl : j = 57 := by omega
          have k2 := K2.out.stay hst (fun x => x)
          have K12 := Lib.hid (K1.out.stay hst (fun x => x))
          have K22 := Lib.hid k2
          have HST2 := Lib.hid (HST.out.trans hst)
          have hc := k2.c hlt
          have hfz := k2.fr k
          have HP := Lib.hid (fillQ_put b k)
          clear hst k2
          generalize leastN (lowB (k : Int)) b 57 = m at *
          go_wp2
          refine ⟨⟨k + 1, by omega, by go_num, KFr.out.stay (Stay.setCell (X := fun j => j = w.heap.size + 2) _ _ _ rfl) (fun e => by omega), K12.out.stay (Stay.setCell (X := fun j => j = w.heap.size + 2) _ _ _ rfl) (fun e => by omega), by rw [← HP.out]; exact K22.out.set hlt m, stay_seal (X := fun j => w.heap.size ≤ j) ((HST2.out.mono (fun _ x => x.elim)).trans (Stay.setCell _ _ _ (by simp))) (fun _ hk => hk)⟩, by simp [intOf]; omega⟩
    · obtain rfl : k = 4 := by omega
      go_wp2_with (first
        | (refine q_arr.load rfl (.tmp 3) rfl (w.heap.size + 2) rfl _ K2.out ?_)
        | (refine q_arr.store rfl (.tmp 2) (.tmp 26) rfl (w.heap.size + 1) rfl _ (fillQ b 4) rfl K1.out ?_; intro w3 h3 s3; have H3 := Lib.hid h3; clear h3))
      have hld := q_arr.run_load H3.out
      have hsz := HST.out.size
      refine bodyPost_ret (v := skV (fillQ b 4)) (by simp [results, Try.results8, asAddr, Act.put, hld]) rfl ⟨?_, ?_⟩
      · unfold skV
        rw [qC_congr (f := fillQ b 4) (g := skN b) (fun i hi => by unfold fillQ; rw [if_pos hi])]
      · exact stay_seal (X := fun k => w.heap.size ≤ k) ((HST.out.mono (fun _ x => x.elim)).trans (s3.mono (fun k hk => by omega))) (fun _ hk => hk)
end Go.Proofs.Ytddgkckgbmgghaa.Sk
