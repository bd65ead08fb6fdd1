/-
  finger, the document's: Of.
-/
import Derived.Test.YtljhfccaoncjeaaDoorFgC
namespace Go.Proofs.YtljhfccaoncjeaaDoor.Fg
open Go.RowKit Ke
set_option maxRecDepth 100000

theorem BAt.set {w : World} {g : Nat} {ty : TypeId} {l : List UInt8} (h : BAt w g ty l) (k : Nat) (c : UInt8) (x : Int) (hx : x = (c.toNat : Int)) : BAt (w.setCell ⟨g, k, none⟩ (.int .u8 x)) g ty (l.set k c) := by
  subst hx
  unfold BAt
  rw [heap_setCell_same w g k _ _ _ h]
  congr 2
  simp [cellsB, byteV, List.map_set]
theorem wk_none (s : Nat) : wkB s 0 = List.replicate 32 0 := rfl
theorem wk_all (s : Nat) : wkB s 4 = spellB s := rfl
theorem wk_step (s j : Nat) (hj : j < 4) : (wkB s j).set (3 - j) (UInt8.ofNat (s / 256 ^ j)) = wkB s (j + 1) := by
  have h : j = 0 ∨ j = 1 ∨ j = 2 ∨ j = 3 := by omega
  rcases h with rfl | rfl | rfl | rfl <;> simp [wkB]
theorem quo_step (s j : Nat) : s / 256 ^ j / 256 = s / 256 ^ (j + 1) := by rw [Nat.div_div_eq_div_mul, Nat.pow_succ]
theorem length_wk (s k : Nat) : (wkB s k).length = 32 := by simp [wkB]

set_option maxHeartbeats 2000000 in
theorem rof_any (w : World) (k : Int) (b : List UInt8) (hb : b.length = 64) :
    Calls Tryd.prog 8 #[.int .i64 k, arrV b] w fun e w' => e = .returned (.tuple #[arrV (printB k b), .int .i64 (codeB k : Nat)]) ∧ Stay (fun _ => False) w w' := by
  have b1 := BAt.new w 23 b
  have b2 := BAt.new (w.alloc (.cells (cellsB b).toArray 23)) 25 (List.replicate 32 0)
  have b1a := b1.stay (Stay.alloc (X := fun _ => False) _ (.cells (cellsB (List.replicate 32 0)).toArray 25)) (fun x => x)
  have sta : Stay (fun _ => False) w ((w.alloc (.cells (cellsB b).toArray 23)).alloc (.cells (cellsB (List.replicate 32 0)).toArray 25)) := (Stay.alloc _ _).trans (Stay.alloc _ _)
  rw [show (w.alloc (.cells (cellsB b).toArray 23)).heap.size = w.heap.size + 1 by simp] at b2
  have sza : ((w.alloc (.cells (cellsB b).toArray 23)).alloc (.cells (cellsB (List.replicate 32 0)).toArray 25)).heap.size = w.heap.size + 2 := by simp
  obtain ⟨wa, hwa⟩ : ∃ wa, (w.alloc (.cells (cellsB b).toArray 23)).alloc (.cells (cellsB (List.replicate 32 0)).toArray 25) = wa := ⟨_, rfl⟩
  rw [hwa] at b1a b2 sta sza
  have b3 := BAt.new wa 25 (List.replicate 32 0)
  have b1' := b1a.stay (Stay.alloc (X := fun _ => False) _ (.cells (cellsB (List.replicate 32 0)).toArray 25)) (fun x => x)
  have b2' := b2.stay (Stay.alloc (X := fun _ => False) _ (.cells (cellsB (List.replicate 32 0)).toArray 25)) (fun x => x)
  have hst := sta.trans (Stay.alloc (X := fun _ => False) _ (.cells (cellsB (List.replicate 32 0)).toArray 25))
  rw [sza] at b3
  obtain ⟨w1, hw1⟩ : ∃ w1, wa.alloc (.cells (cellsB (List.replicate 32 0)).toArray 25) = w1 := ⟨_, rfl⟩
  rw [hw1] at b1' b2' b3 hst
  have B1 := Lib.hid b1'
  have B2 := Lib.hid b2'
  have B3 := Lib.hid b3
  have BS := Lib.hid (slc_of b1' hb (by decide))
  have HWA := Lib.hid hwa
  have HW := Lib.hid hw1
  have HSZ := Lib.hid sza
  have HST := Lib.hid hst
  have HBL := Lib.hid hb
  have HSEAL := Lib.hid (show ∀ W, Stay (fun k => w.heap.size + 1 ≤ k) w1 W → Stay (fun _ => False) w W from fun W h =>
    stay_seal (X := fun k => w.heap.size ≤ k) ((hst.mono (fun _ x => x.elim)).trans (h.mono (fun k (e : w.heap.size + 1 ≤ k) => by omega))) (fun _ hk => hk))
  clear b1 b2 b1a sta sza hwa b3 b1' b2' hst hw1 hb
  by_cases h0 : k = 0
  · subst h0
    unfold arrV
    go_enter Tryd.func8, Tryd.ntmps8
    go_wp2_with (first
      | ((with_reducible refine arr_32.alloc rfl rfl ?_); (first | rw [HWA.out] | rw [HW.out, HSZ.out]))
      | (refine arr_32.store rfl (.tmp 6) (.tmp 9) rfl (w.heap.size + 2) rfl (List.replicate 32 0) (List.replicate 32 0) rfl (by simp) (by simp) B3.out ?_; intro w2 h2 s2; have HS2 := Lib.hid s2; have H2 := Lib.hid h2; clear s2 h2))
    refine (rsum_any w2 _ b ((slc_of (B1.out.stay HS2.out (fun (e : w.heap.size = w.heap.size + 2) => by omega)) HBL.out (by decide))) (by rw [HBL.out]; omega)).mono ?_
    rintro e w3 ⟨rfl, s3⟩
    have B4 := Lib.hid ((B2.out.stay HS2.out (fun (e : w.heap.size + 1 = w.heap.size + 2) => by omega)).stay s3 (fun x => x))
    go_wp2_with (refine arr_32.store rfl (.tmp 4) (.tmp 14) rfl (w.heap.size + 1) rfl (List.replicate 32 0) (sumK b) rfl (by simp) (length_sumK b) B4.out ?_; intro w5 h5 s5; have H5 := Lib.hid h5; clear h5)
    have hld := arr_32.run_load (length_sumK b) H5.out
    refine bodyPost_ret (v := .tuple #[arrV (sumK b), .int .i64 0]) (by simp [results, Tryd.results8, asAddr, hld]) rfl ⟨rfl, ?_⟩
    exact HSEAL.out _ (((HS2.out.mono (fun k (e : k = w.heap.size + 2) => by omega)).trans (s3.mono (fun _ x => x.elim))).trans (s5.mono (fun k (e : k = w.heap.size + 1) => by omega)))
  by_cases h1 : k = 1
  · subst h1
    unfold arrV
    go_enter Tryd.func8, Tryd.ntmps8
    go_wp2_with (first
      | ((with_reducible refine arr_32.alloc rfl rfl ?_); (first | rw [HWA.out] | rw [HW.out, HSZ.out]))
      | (refine arr_32.store rfl (.tmp 6) (.tmp 9) rfl (w.heap.size + 2) rfl (List.replicate 32 0) (List.replicate 32 0) rfl (by simp) (by simp) B3.out ?_; intro w2 h2 s2; have HS2 := Lib.hid s2; have H2 := Lib.hid h2; clear s2 h2))
    refine (Hn.rsum_any b _ w2 ((slc_of (B1.out.stay HS2.out (fun (e : w.heap.size = w.heap.size + 2) => by omega)) HBL.out (by decide)))).mono ?_
    rintro e w3 ⟨rfl, rfl⟩
    have hlt := Hn.moreN_lt 1 b
    have B4 := Lib.hid (B2.out.stay HS2.out (fun (e : w.heap.size + 1 = w.heap.size + 2) => by omega))
    obtain ⟨s, hs⟩ : ∃ s, Hn.moreN 1 b = s := ⟨_, rfl⟩
    have HSS := Lib.hid hs
    have HLT := Lib.hid (show s < 2147483647 by rw [← hs]; exact hlt)
    rw [hs]
    clear hs hlt
    unfold Hn.u32V
    go_wp2
    go_loopw [7, 8] (fun x i wr => ∃ j : Nat, j ≤ 4 ∧ i = .int .i64 (j : Int) ∧ x = .int .u32 ((s / 256 ^ j : Nat) : Int) ∧ BAt wr (w.heap.size + 2) 25 (wkB s j) ∧ Stay (fun k => k = w.heap.size + 2) w2 wr) (fun _ i _ => 4 - (intOf i).toNat)
    case atStart => exact ⟨0, by omega, rfl, by simp, H2.out, Stay.refl _ _⟩
    case round =>
      obtain ⟨j, hj, rfl, rfl, hb, hst⟩ := hrel
      by_cases hlt : j < 4
      · obtain ⟨X, hX⟩ : ∃ X, s / 256 ^ j = X := ⟨_, rfl⟩
        have hXl : (X : Int) ≤ 4294967295 := by
          have := Nat.div_le_self s (256 ^ j)
          have := HLT.out
          omega
        have wst := wk_step s j hlt
        have qst := quo_step s j
        rw [hX] at wst qst ⊢
        obtain ⟨q, hq⟩ : ∃ q, 3 - j = q := ⟨_, rfl⟩
        rw [hq] at wst
        have q1 : (3 : Int) - (j : Int) = (q : Int) := by omega
        have q2 : (q : Int) < 32 := by omega
        obtain ⟨c0, hc0⟩ : ∃ c0, (wkB s j)[q]? = some c0 := ⟨_, List.getElem?_eq_getElem (by rw [length_wk]; omega)⟩
        have c1 := hb.c q
        have c2 := hb.fr q
        rw [show (cellsB (wkB s j))[q]? = some (.int .u8 (c0.toNat : Int)) by simp [cellsB, hc0, byteV]] at c1
        have HQ := Lib.hid qst
        have HWS := Lib.hid wst
        have HB := Lib.hid hb
        have HJ := Lib.hid hlt
        have HS := Lib.hid hst
        have q0 : (j : Int) < 4 := by omega
        have q3 : IntKind.i64.wrap (3 - (j : Int)) = (q : Int) := by rw [q1]; exact IntWalk.i64_in _ (by omega)
        clear qst wst hb hlt hst hc0 hX hq
        go_wp2
        have hj := HJ.out
        have hb2 : BAt (wr.setCell ⟨w.heap.size + 2, q, none⟩ (.int .u8 ((X : Int) % 256))) (w.heap.size + 2) 25 (wkB s (j + 1)) := by
          rw [← HWS.out]
          exact BAt.set HB.out q _ _ (by rw [byte_of])
        go_round
        case rel => exact ⟨j + 1, by omega, by go_num, by rw [← HQ.out]; go_num, hb2, HS.out.trans (Stay.setCell _ _ _ rfl)⟩
        case measure => simp [intOf]; omega
      · obtain rfl : j = 4 := by omega
        rw [wk_all] at hb
        have HB := Lib.hid hb
        have B5 := Lib.hid (B4.out.stay hst (fun (e : w.heap.size + 1 = w.heap.size + 2) => by omega))
        have HS := Lib.hid hst
        clear hb hst
        go_wp2_with (first
          | (refine arr_32.load rfl (.tmp 6) rfl (w.heap.size + 2) rfl (spellB s) (by simp [spellB]) HB.out ?_)
          | (refine arr_32.store rfl (.tmp 4) (.tmp 30) rfl (w.heap.size + 1) rfl (List.replicate 32 0) (spellB s) rfl (by simp) (by simp [spellB]) B5.out ?_; intro w5 h5 s5; have H5 := Lib.hid h5; clear h5))
        have hld := arr_32.run_load (by simp [spellB]) H5.out
        refine bodyPost_ret (v := .tuple #[arrV (spellB s), .int .i64 0]) (by simp [results, Tryd.results8, asAddr, hld]) rfl ⟨?_, ?_⟩
        · rw [show printB 1 b = spellB (Hn.moreN 1 b) from rfl, HSS.out]; rfl
        · exact HSEAL.out _ (((HS2.out.mono (fun k (e : k = w.heap.size + 2) => by omega)).trans (HS.out.mono (fun k (e : k = w.heap.size + 2) => by omega))).trans (s5.mono (fun k (e : k = w.heap.size + 1) => by omega)))
  by_cases h2 : k = 2
  · subst h2
    obtain ⟨c, hc, hc2⟩ := first_of HBL.out
    have HC := Lib.hid hc
    have HC2 := Lib.hid hc2
    clear hc hc2
    unfold arrV
    go_enter Tryd.func8, Tryd.ntmps8
    go_wp2_with (first
      | ((with_reducible refine arr_32.alloc rfl rfl ?_); (first | rw [HWA.out] | rw [HW.out, HSZ.out]))
      | (refine arr_32.store rfl (.tmp 6) (.tmp 9) rfl (w.heap.size + 2) rfl (List.replicate 32 0) (List.replicate 32 0) rfl (by simp) (by simp) B3.out ?_; intro w2 h2 s2; have HS2 := Lib.hid s2; have H2 := Lib.hid h2
         have c1 := (B1.out.stay s2 (fun (e : w.heap.size = w.heap.size + 2) => by omega)).c 0
         rw [show (cellsB b)[0]? = some (.int .u8 (c.toNat : Int)) by simp [cellsB, HC.out, byteV]] at c1
         have c2 : w2.cell? ⟨w.heap.size + 2, 0, none⟩ = some (.int .u8 0) := h2.c 0
         have c3 := h2.fr 0
         have H4 := Lib.hid (show BAt (w2.setCell ⟨w.heap.size + 2, 0, none⟩ (.int .u8 (c.toNat : Int))) (w.heap.size + 2) 25 (firstB c) from BAt.set h2 0 c _ rfl)
         have H5 := Lib.hid ((B2.out.stay s2 (fun (e : w.heap.size + 1 = w.heap.size + 2) => by omega)).stay (Stay.setCell (X := fun k => k = w.heap.size + 2) w2 ⟨w.heap.size + 2, 0, none⟩ (.int .u8 (c.toNat : Int)) rfl) (fun (e : w.heap.size + 1 = w.heap.size + 2) => by omega))
         clear s2 h2)
      | (refine arr_32.load rfl (.tmp 6) rfl (w.heap.size + 2) rfl (firstB c) (by simp [firstB]) H4.out ?_)
      | (refine arr_32.store rfl (.tmp 4) (.tmp 36) rfl (w.heap.size + 1) rfl (List.replicate 32 0) (firstB c) rfl (by simp) (by simp [firstB]) H5.out ?_; intro w6 h6 s6; have H6 := Lib.hid h6; clear h6))
    have hld := arr_32.run_load (by simp [firstB]) H6.out
    refine bodyPost_ret (v := .tuple #[arrV (firstB c), .int .i64 0]) (by simp [results, Tryd.results8, asAddr, hld]) rfl ⟨?_, ?_⟩
    · rw [show printB 2 b = firstB c by unfold printB; rw [HC2.out]; rfl]; rfl
    · exact HSEAL.out _ (((HS2.out.mono (fun k (e : k = w.heap.size + 2) => by omega)).trans (Stay.setCell _ _ _ (by simp))).trans (s6.mono (fun k (e : k = w.heap.size + 1) => by omega)))
  have ep : printB k b = List.replicate 32 0 := by unfold printB; rw [if_neg h0, if_neg h1, if_neg h2]
  have EP := Lib.hid ep
  have e0 : (k == 0) = false := beq_eq_false_iff_ne.2 h0
  have e1 : (k == 1) = false := beq_eq_false_iff_ne.2 h1
  have e2 : (k == 2) = false := beq_eq_false_iff_ne.2 h2
  by_cases h3 : k = 3
  · have ec : codeB k = 0 := by unfold codeB; rw [if_pos (by omega)]
    have EC := Lib.hid ec
    subst h3
    clear h0 h1 h2 ep ec e0 e1 e2
    unfold arrV
    go_enter Tryd.func8, Tryd.ntmps8
    go_wp2_with (first
      | ((with_reducible refine arr_32.alloc rfl rfl ?_); (first | rw [HWA.out] | rw [HW.out, HSZ.out]))
      | (refine arr_32.store rfl (.tmp 6) (.tmp 9) rfl (w.heap.size + 2) rfl (List.replicate 32 0) (List.replicate 32 0) rfl (by simp) (by simp) B3.out ?_; intro w2 h2 s2; have HS2 := Lib.hid s2; have H2 := Lib.hid h2; have H5 := Lib.hid (B2.out.stay s2 (fun (e : w.heap.size + 1 = w.heap.size + 2) => by omega)); clear s2 h2)
      | (refine arr_32.load rfl (.tmp 6) rfl (w.heap.size + 2) rfl (List.replicate 32 0) (by simp) H2.out ?_)
      | (refine arr_32.store rfl (.tmp 4) (.tmp 39) rfl (w.heap.size + 1) rfl (List.replicate 32 0) (List.replicate 32 0) rfl (by simp) (by simp) H5.out ?_; intro w6 h6 s6; have H6 := Lib.hid h6; clear h6))
    have hld := arr_32.run_load (by simp) H6.out
    refine bodyPost_ret (v := .tuple #[arrV (List.replicate 32 0), .int .i64 0]) (by simp [results, Tryd.results8, asAddr, hld]) rfl ⟨?_, ?_⟩
    · rw [EP.out, EC.out]; rfl
    · exact HSEAL.out _ ((HS2.out.mono (fun k (e : k = w.heap.size + 2) => by omega)).trans (s6.mono (fun k (e : k = w.heap.size + 1) => by omega)))
  · have ec : codeB k = 1 := by unfold codeB; rw [if_neg (by omega)]
    have EC := Lib.hid ec
    have e3 : (k == 3) = false := beq_eq_false_iff_ne.2 h3
    clear h0 h1 h2 h3 ep ec
    unfold arrV
    go_enter Tryd.func8, Tryd.ntmps8
    go_wp2_with (first
      | ((with_reducible refine arr_32.alloc rfl rfl ?_); (first | rw [HWA.out] | rw [HW.out, HSZ.out]))
      | (refine arr_32.store rfl (.tmp 6) (.tmp 9) rfl (w.heap.size + 2) rfl (List.replicate 32 0) (List.replicate 32 0) rfl (by simp) (by simp) B3.out ?_; intro w2 h2 s2; have HS2 := Lib.hid s2; have H2 := Lib.hid h2; have H5 := Lib.hid (B2.out.stay s2 (fun (e : w.heap.size + 1 = w.heap.size + 2) => by omega)); clear s2 h2)
      | (refine arr_32.load rfl (.tmp 6) rfl (w.heap.size + 2) rfl (List.replicate 32 0) (by simp) H2.out ?_)
      | (refine arr_32.store rfl (.tmp 4) (.tmp 40) rfl (w.heap.size + 1) rfl (List.replicate 32 0) (List.replicate 32 0) rfl (by simp) (by simp) H5.out ?_; intro w6 h6 s6; have H6 := Lib.hid h6; clear h6))
    have hld := arr_32.run_load (by simp) H6.out
    refine bodyPost_ret (v := .tuple #[arrV (List.replicate 32 0), .int .i64 1]) (by simp [results, Tryd.results8, asAddr, hld]) rfl ⟨?_, ?_⟩
    · rw [EP.out, EC.out]; rfl
    · exact HSEAL.out _ ((HS2.out.mono (fun k (e : k = w.heap.size + 2) => by omega)).trans (s6.mono (fun k (e : k = w.heap.size + 1) => by omega)))
end Go.Proofs.YtljhfccaoncjeaaDoor.Fg
