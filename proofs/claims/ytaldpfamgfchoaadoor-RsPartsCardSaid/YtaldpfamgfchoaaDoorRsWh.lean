/-
  RsParts, walked.
-/
import Derived.Test.YtaldpfamgfchoaaDoorRsWi
namespace Go.Proofs.YtaldpfamgfchoaaDoor.Rs
open Go.RowKit Gf
set_option maxRecDepth 100000

set_option maxHeartbeats 1000000 in
theorem parts_long (w : World) (k m : Nat) (a0 : Option Addr) (n c0 : Nat) (L : Nat → Nat) (M : Nat → Nat → UInt8) (hx : SM (fun _ => False) w (.slice a0 n c0) n L M) (hL : ∀ i, i < n → L i ≤ 140737488355328) (y : Value) (hb : longB n L = true) (h1 : 1 ≤ k) (h2 : k + m ≤ 32) (hg : ErrCell w) :
    Calls Tryd.prog 3 #[sizeV k m, .slice a0 n c0, y] w fun e w' => e = .returned (.bool true) ∧ Stay (fun _ => False) w w' := by
  unfold sizeV
  have H1 := Lib.hid h1
  have H2 := Lib.hid h2
  have HG := Lib.hid hg
  clear h1 h2 hg
  have HX := Lib.hid hx
  have HL := Lib.hid hL
  have HB := Lib.hid hb
  clear hx hL hb
  go_enter Tryd.func3, Tryd.ntmps3
  go_wp2_with fail
  have hst : Stay (fun _ => False) w (w.alloc (.cells #[.int .i64 (k : Int), .int .i64 (m : Int)] 23)) := Stay.alloc _ _
  have hsz := Sz.new w k m
  obtain ⟨sa, hsa⟩ : ∃ sa, sa = w.heap.size := ⟨_, rfl⟩
  generalize w.alloc (.cells #[.int .i64 (k : Int), .int .i64 (m : Int)] 23) = w0 at hst hsz ⊢
  simp only [← hsa] at hsz ⊢
  have HSZ := Lib.hid hsz
  have HSA := Lib.hid hsa
  have S0 := Lib.hid hst
  have HG0 := Lib.hid (HG.out.stay0 hst)
  obtain ⟨c0, c1⟩ := hsz
  clear hst hsa
  refine (new_good w0 k m H1.out H2.out).mono ?_
  rintro e w1 ⟨c, rfl, hcb, hc1, s1⟩
  have S1 := Lib.hid s1
  have C1 := Lib.hid hc1
  have HCB := Lib.hid hcb
  have c0 := s1.cell c0 (fun x => x)
  have c1 := s1.cell c1 (fun x => x)
  clear hcb hc1 s1
  go_wp2_with fail
  refine (rnew_good w1 k m H1.out H2.out).mono ?_
  rintro e w2' ⟨rfl, s2⟩
  unfold codeV
  clear c0 c1
  go_wp2_with fail
  have hcd : (w2'.alloc (.cells #[.int .i64 (k : Int), .int .i64 (m : Int)] 31)).heap[w2'.heap.size]? = some (.cells #[.int .i64 (k : Int), .int .i64 (m : Int)] 31 (0, 0)) := heap_alloc_new w2' _
  have HNE := Lib.hid (show w2'.heap.size ≠ w0.heap.size ∧ sa ≠ w0.heap.size ∧ 0 ≠ w0.heap.size from by
    have e1 := s2.size
    have e2 := C1.out.f.lt
    have e3 : sa < w0.heap.size := World.block_lt_of_cell? w0 ⟨sa, 0, none⟩ HSZ.out.1
    have e4 : 0 < w0.heap.size := World.block_lt_of_cell? w0 ⟨0, 0, none⟩ HG0.out
    omega)
  have s2 := s2.trans (Stay.alloc w2' (.cells #[.int .i64 (k : Int), .int .i64 (m : Int)] 31))
  obtain ⟨ra, hra⟩ : ∃ ra, ra = w2'.heap.size := ⟨_, rfl⟩
  generalize w2'.alloc (.cells #[.int .i64 (k : Int), .int .i64 (m : Int)] 31) = w2 at hcd s2 ⊢
  simp only [← hra] at hcd HNE ⊢
  clear hra
  have S2 := Lib.hid s2
  have HCD := Lib.hid (show CodeAt w2 ra k m from hcd)
  clear s2 hcd
  refine (num_nil w2).mono ?_
  rintro e w3 ⟨rfl, s3⟩
  have S3 := Lib.hid s3
  clear s3
  go_wp2_with fail
  refine (long_any w3 _ n L M (HX.out.stay (((S0.out.trans S1.out).trans S2.out).trans S3.out)) HL.out).mono ?_
  rintro e w4 ⟨rfl, e4⟩
  cases e4
  rw [HB.out]
  go_wp2_with fail
  refine (sure_any w3).mono ?_
  rintro e w5 ⟨rfl, s5⟩
  have S5 := Lib.hid s5
  clear s5
  go_wp2
  try go_ret
  exact ⟨rfl, (((S0.out.trans S1.out).trans S2.out).trans S3.out).trans S5.out⟩
set_option maxHeartbeats 4000000 in
theorem parts_good (w : World) (k m : Nat) (a0 : Option Addr) (n c0 : Nat) (L : Nat → Nat) (M : Nat → Nat → UInt8) (hx : SM (fun _ => False) w (.slice a0 n c0) n L M) (hL : ∀ i, i < n → L i ≤ 140737488355328) (af : Option Addr) (nb cf : Nat) (fl : Nat → Bool) (hf : SB (fun _ => False) w (.slice af nb cf) nb fl) (hfc : af = none → cf = 0) (hnb : nb ≤ 140737488355328) (hb : longB n L = false) (h1 : 1 ≤ k) (h2 : k + m ≤ 32) (hg : ErrCell w) :
    Calls Tryd.prog 3 #[sizeV k m, .slice a0 n c0, .slice af nb cf] w fun e w' => e = .returned (.bool true) ∧ Stay (fun _ => False) w w' := by
  unfold sizeV
  have H1 := Lib.hid h1
  have H2 := Lib.hid h2
  have HG := Lib.hid hg
  clear h1 h2 hg
  have HX := Lib.hid hx
  have HL := Lib.hid hL
  have HB := Lib.hid hb
  have HF := Lib.hid hf
  have HFC := Lib.hid hfc
  have HNB := Lib.hid hnb
  clear hx hL hb hf hfc hnb
  go_enter Tryd.func3, Tryd.ntmps3
  go_wp2_with fail
  have hst : Stay (fun _ => False) w (w.alloc (.cells #[.int .i64 (k : Int), .int .i64 (m : Int)] 23)) := Stay.alloc _ _
  have hsz := Sz.new w k m
  obtain ⟨sa, hsa⟩ : ∃ sa, sa = w.heap.size := ⟨_, rfl⟩
  generalize w.alloc (.cells #[.int .i64 (k : Int), .int .i64 (m : Int)] 23) = w0 at hst hsz ⊢
  simp only [← hsa] at hsz ⊢
  have HSZ := Lib.hid hsz
  have HSA := Lib.hid hsa
  have S0 := Lib.hid hst
  have HG0 := Lib.hid (HG.out.stay0 hst)
  obtain ⟨c0, c1⟩ := hsz
  clear hst hsa
  refine (new_good w0 k m H1.out H2.out).mono ?_
  rintro e w1 ⟨c, rfl, hcb, hc1, s1⟩
  have S1 := Lib.hid s1
  have C1 := Lib.hid hc1
  have HCB := Lib.hid hcb
  have c0 := s1.cell c0 (fun x => x)
  have c1 := s1.cell c1 (fun x => x)
  clear hcb hc1 s1
  go_wp2_with fail
  refine (rnew_good w1 k m H1.out H2.out).mono ?_
  rintro e w2' ⟨rfl, s2⟩
  unfold codeV
  clear c0 c1
  go_wp2_with fail
  have hcd : (w2'.alloc (.cells #[.int .i64 (k : Int), .int .i64 (m : Int)] 31)).heap[w2'.heap.size]? = some (.cells #[.int .i64 (k : Int), .int .i64 (m : Int)] 31 (0, 0)) := heap_alloc_new w2' _
  have HNE := Lib.hid (show w2'.heap.size ≠ w0.heap.size ∧ sa ≠ w0.heap.size ∧ 0 ≠ w0.heap.size from by
    have e1 := s2.size
    have e2 := C1.out.f.lt
    have e3 : sa < w0.heap.size := World.block_lt_of_cell? w0 ⟨sa, 0, none⟩ HSZ.out.1
    have e4 : 0 < w0.heap.size := World.block_lt_of_cell? w0 ⟨0, 0, none⟩ HG0.out
    omega)
  have s2 := s2.trans (Stay.alloc w2' (.cells #[.int .i64 (k : Int), .int .i64 (m : Int)] 31))
  obtain ⟨ra, hra⟩ : ∃ ra, ra = w2'.heap.size := ⟨_, rfl⟩
  generalize w2'.alloc (.cells #[.int .i64 (k : Int), .int .i64 (m : Int)] 31) = w2 at hcd s2 ⊢
  simp only [← hra] at hcd HNE ⊢
  clear hra
  have S2 := Lib.hid s2
  have HCD := Lib.hid (show CodeAt w2 ra k m from hcd)
  clear s2 hcd
  refine (num_nil w2).mono ?_
  rintro e w3 ⟨rfl, s3⟩
  have S3 := Lib.hid s3
  clear s3
  go_wp2_with fail
  have HST := Lib.hid (((S0.out.trans S1.out).trans S2.out).trans S3.out)
  refine (long_any w3 _ n L M (HX.out.stay HST.out) HL.out).mono ?_
  rintro e w4 ⟨rfl, e4⟩
  cases e4
  rw [HB.out]
  have HN := Lib.hid (longB_false HB.out)
  have HLI := Lib.hid (show ∀ i, i < n → L i ≤ 4000 from fun i hi => by have := HN.out.2; have := sumN_one L hi; omega)
  obtain ⟨g, hg⟩ : ∃ g, g = w0.heap.size := ⟨_, rfl⟩
  rw [← hg] at C1 HNE
  have HGG := Lib.hid (show w.heap.size ≤ g from hg ▸ S0.out.size)
  have HG3 := Lib.hid (show g < w3.heap.size from by have := C1.out.f.lt; have := S2.out.size; have := S3.out.size; omega)
  clear hg
  go_wp2_with fail
  refine (twins_any w3 _ n L M (HX.out.stay HST.out) (by have := HN.out.1; omega) HL.out).mono ?_
  rintro e w4 ⟨vt, rfl, ht, s4⟩
  have HT := Lib.hid (ht.mono (Y := (· = g)) (fun i (e : i = g) => by have := HG3.out; omega))
  have S4 := Lib.hid s4
  clear ht s4
  go_wp2_with (first
    | (at_builtin
       refine append_flags (w := w4) rfl (.tmp 131) (.tmp 132) rfl rfl rfl (HF.out.stay (HST.out.trans S4.out)) HFC.out HNB.out ?_
       intro v5 w5 h5 s5
       have HB5 := Lib.hid (sb_mono h5 (Y := (· = g)) (fun i (e : i = g) => by have := HG3.out; have := S4.out.size; omega))
       have S5 := Lib.hid s5
       clear h5 s5))
  have HG5 := Lib.hid (show g < w5.heap.size from by have := HG3.out; have := S4.out.size; have := S5.out.size; omega)
  refine (encode_all (C1.out.stay0 (((S2.out.trans S3.out).trans S4.out).trans S5.out)) (HT.out.stay (S5.out.mono (fun _ x => x.elim))) (fun e => by have := H1.out; have := HLI.out 0 (by omega); omega)).mono ?_
  rintro e w6 ⟨vx, rfl, hx6, hc6, s6⟩
  have HX6 := Lib.hid (hx6.mono (Y := (· = g)) (fun i (e : i = g) => by have := HG5.out; omega))
  have C6 := Lib.hid hc6
  have S6 := Lib.hid s6
  have HW6 := Lib.hid (show Stay (fun i => w.heap.size ≤ i) w w6 from (((HST.out.trans S4.out).trans S5.out).mono (fun _ x => x.elim)).trans (s6.mono (fun i (e : i = g) => by have := HGG.out; omega)))
  have hcd := (((HCD.out.stay0 S3.out).stay0 S4.out).stay0 S5.out).stay s6 HNE.out.1
  have HCD6 := Lib.hid hcd
  have r0 := hcd.c0
  have r1 := hcd.c1
  clear hx6 hc6 s6 hcd
  go_wp2_with fail
  clear r0 r1
  refine (rencode_all w6 k m n _ L M (HX.out.stay (stay_seal HW6.out (fun _ h => h))) H1.out H2.out (fun e => by have := H1.out; have := HLI.out 0 (by omega); omega)).mono ?_
  rintro e w7 ⟨vy, rfl, hy7, s7⟩
  have HY7 := Lib.hid (hy7.mono (Y := (· = g)) (fun i (e : i = g) => by have := C6.out.f.lt; omega))
  have S7 := Lib.hid (s7.mono (Y := (· = g)) (fun _ x => x.elim))
  have S57 := Lib.hid (((S5.out.mono (Y := (· = g)) (fun _ x => x.elim)).trans S6.out).trans S7.out)
  have C7 := Lib.hid (C6.out.stay0 s7)
  have HCD7 := Lib.hid (HCD6.out.stay0 s7)
  clear hy7 s7
  go_wp2_with fail
  refine (decode_all C7.out (HT.out.stay S57.out) (HB5.out.stay (S6.out.trans S7.out)) (fun e i hi => by have := HLI.out i (by omega); omega)).mono ?_
  rintro e w8 ⟨vp, rfl, hp8, hc8, s8⟩
  have HP8 := Lib.hid (hp8.mono (Y := (· = g)) (fun i (e : i = g) => by have := C7.out.f.lt; omega))
  have C8 := Lib.hid hc8
  have S8 := Lib.hid s8
  have HW8 := Lib.hid (HW6.out.trans ((S7.out.trans s8).mono (Y := fun i => w.heap.size ≤ i) (fun i (e : i = g) => by have := HGG.out; omega)))
  have hcd := HCD7.out.stay s8 HNE.out.1
  have HCD8 := Lib.hid hcd
  have r0 := hcd.c0
  have r1 := hcd.c1
  clear hp8 hc8 s8 hcd
  go_wp2_with fail
  clear r0 r1
  refine (rdecode_all w8 k m n nb _ _ L M fl (HX.out.stay (stay_seal HW8.out (fun _ h => h))) (HF.out.stay (stay_seal HW8.out (fun _ h => h))) H1.out H2.out (fun e i hi => by have := HLI.out i (by omega); omega)).mono ?_
  rintro e w9 ⟨vq, rfl, hq9, s9⟩
  have HQ9 := Lib.hid (hq9.mono (Y := (· = g)) (fun i (e : i = g) => by have := C8.out.f.lt; omega))
  have S9 := Lib.hid (s9.mono (Y := (· = g)) (fun _ x => x.elim))
  have C9 := Lib.hid (C8.out.stay0 s9)
  have HCD9 := Lib.hid (HCD8.out.stay0 s9)
  have HW9 := Lib.hid (HW8.out.trans (s9.mono (Y := fun i => w.heap.size ≤ i) (fun _ x => x.elim)))
  have HZ9 := Lib.hid ((((((HSZ.out.stay0 S1.out).stay0 S2.out).stay0 S3.out).stay0 S4.out).stay ((S57.out.trans S8.out).trans S9.out) HNE.out.2.1))
  have HE9 := Lib.hid (((((HG0.out.stay0 S1.out).stay0 S2.out).stay0 S3.out).stay0 S4.out).stay ((S57.out.trans S8.out).trans S9.out) HNE.out.2.2)
  have qk : (k : Int) + (m : Int) ≤ 32 := by have := H2.out; omega
  clear hq9 s9
  go_wp2_with fail
  go_loopw [30] (fun i wr => ∃ z : Int, -1 ≤ z ∧ z ≤ (k : Int) + (m : Int) + 1 ∧ i = .int .i64 z ∧ Cd wr c g k m ∧ Stay (· = g) w9 wr) (fun i _ => ((k : Int) + (m : Int) + 1 - intOf i).toNat)
  case atStart => exact ⟨-1, by omega, by omega, rfl, C9.out, Stay.refl _ _⟩
  case round =>
    obtain ⟨z, hz1, hz2, rfl, hcd, hst⟩ := hrel
    have CR := Lib.hid hcd
    have SR := Lib.hid hst
    obtain ⟨k0, k1⟩ := HZ9.out.stay hst HNE.out.2.1
    clear hcd hst
    by_cases hlt : z < (k : Int) + (m : Int) + 1
    · have HLT := Lib.hid hlt
      have HZ1 := Lib.hid hz1
      go_wp2_with fail
      refine (rowx_all CR.out z).mono ?_
      rintro e w10 ⟨va, rfl, ha, hc10, s10⟩
      have HA := Lib.hid ha
      have C10 := Lib.hid hc10
      have S10 := Lib.hid (SR.out.trans s10)
      have hcd := HCD9.out.stay S10.out HNE.out.1
      have r0 := hcd.c0
      have r1 := hcd.c1
      clear ha hc10 s10 hcd k0 k1
      go_wp2_with fail
      clear r0 r1
      refine (rrow_all w10 k m z H2.out).mono ?_
      rintro e w11 ⟨vb, rfl, hb, s11⟩
      obtain ⟨b0, d0, e0, _⟩ := id HA.out
      obtain ⟨b1, d1, e1, _⟩ := id hb
      have y1 := conv_slc (HA.out.stay0 s11)
      have y2 := conv_slc hb
      subst e0
      subst e1
      unfold strV at y1 y2
      generalize (⟨(rowL k m z).toArray⟩ : ByteArray) = ba at y1 y2
      have S11 := Lib.hid s11
      have C11 := Lib.hid (C10.out.stay0 s11)
      have HE11 := Lib.hid ((HE9.out.stay S10.out HNE.out.2.2).stay0 s11)
      clear hb s11
      go_wp2_with fail
      clear y1 y2
      refine (num_err _ w11 HE11.out).mono ?_
      rintro e w12 ⟨rfl, s12⟩
      have S12 := Lib.hid s12
      clear s12
      go_wp2
      have hlt := HLT.out
      have hz1 := HZ1.out
      first
        | exact ⟨⟨z + 1, by omega, by omega, by go_num, C11.out.stay0 S12.out, S10.out.trans ((S11.out.trans S12.out).mono (fun _ x => x.elim))⟩, by simp [intOf]; omega⟩
        | (go_round
           case rel => exact ⟨z + 1, by omega, by omega, by go_num, C11.out.stay0 S12.out, S10.out.trans ((S11.out.trans S12.out).mono (fun _ x => x.elim))⟩
           case measure => simp [intOf]; omega)
    · have HWR := Lib.hid (show Stay (fun _ => False) w wr.drew from stay_seal ((HW9.out.trans (SR.out.mono (Y := fun i => w.heap.size ≤ i) (fun i (e : i = g) => by have := HGG.out; omega))).trans Stay.drew) (fun _ h => h))
      have hsr : Stay (· = g) w9 wr.drew := SR.out.trans Stay.drew
      have F1 := Lib.hid ((HX6.out.stay (((S7.out.trans S8.out).trans S9.out).trans hsr)).mono (Y := fun _ => False) (fun _ x => x.elim))
      have F2 := Lib.hid ((HY7.out.stay ((S8.out.trans S9.out).trans hsr)).mono (Y := fun _ => False) (fun _ x => x.elim))
      have F3 := Lib.hid ((HP8.out.stay (S9.out.trans hsr)).mono (Y := fun _ => False) (fun _ x => x.elim))
      have F4 := Lib.hid ((HQ9.out.stay hsr).mono (Y := fun _ => False) (fun _ x => x.elim))
      have F5 := Lib.hid ((HT.out.stay (((S57.out.trans S8.out).trans S9.out).trans hsr)).mono (Y := fun _ => False) (fun _ x => x.elim))
      have F6 := Lib.hid (HX.out.stay HWR.out)
      have HE := Lib.hid (HE9.out.stay hsr HNE.out.2.2)
      have CC := Lib.hid (CR.out.stay0 (Stay.drew (X := fun _ => False)))
      have SC := Lib.hid (Stay.refl (fun _ => False) wr.drew)
      have hk : wr.drew.cell? ⟨sa, 0, none⟩ = some (.int .i64 (k : Int)) ∧ wr.drew.cell? ⟨sa, 1, none⟩ = some (.int .i64 (m : Int)) := ⟨k0, k1⟩
      clear hsr
      go_wp2
      go_region_held3 (fun W => W.cell? ⟨sa, 0, none⟩ = some (.int .i64 (k : Int)) ∧ W.cell? ⟨sa, 1, none⟩ = some (.int .i64 (m : Int))) (first | exact hk | with_reducible go_keep)
        (first
          | (go_at_call 16
             refine (data_any (CC.out.stay0 SC.out)).mono ?_
             rintro e w7 ⟨rfl, e7⟩
             cases e7)
          | (go_at_call 17
             refine (parity_any (CC.out.stay0 SC.out)).mono ?_
             rintro e w7 ⟨rfl, e7⟩
             cases e7)
          | (go_at_call 25
             first
               | with_reducible refine (lists_same _ _ _ _ _ _ (F1.out.stay SC.out) (F2.out.stay SC.out)).mono ?_
               | with_reducible refine (lists_same _ _ _ _ _ _ (F3.out.stay SC.out) (F4.out.stay SC.out)).mono ?_
               | with_reducible refine (lists_same _ _ _ _ _ _ (F5.out.stay SC.out) (F6.out.stay SC.out)).mono ?_
             rintro e w7 ⟨rfl, s7⟩
             have SC := Lib.hid (SC.out.trans s7)
             have hk := And.intro (s7.cell hk.1 (fun x => x)) (s7.cell hk.2 (fun x => x))
             clear s7)
          | (go_at_call 11
             refine (num_err _ _ (HE.out.stay0 SC.out)).mono ?_
             rintro e w7 ⟨rfl, s7⟩
             have SC := Lib.hid (SC.out.trans s7)
             have hk := And.intro (s7.cell hk.1 (fun x => x)) (s7.cell hk.2 (fun x => x))
             clear s7)
          | (go_at_call 19
             refine (sure_any _).mono ?_
             rintro e w7 ⟨rfl, s7⟩
             have SC := Lib.hid (SC.out.trans s7)
             have hk := And.intro (s7.cell hk.1 (fun x => x)) (s7.cell hk.2 (fun x => x))
             clear s7))
      go_wp2
      try go_ret
      exact ⟨rfl, HWR.out.trans SC.out⟩
theorem parts_walk (w : World) (K M' : Int) (a0 : Option Addr) (n c0 : Nat) (L : Nat → Nat) (M : Nat → Nat → UInt8) (hx : SM (fun _ => False) w (.slice a0 n c0) n L M) (hL : ∀ i, i < n → L i ≤ 140737488355328) (af : Option Addr) (nb cf : Nat) (fl : Nat → Bool) (hf : SB (fun _ => False) w (.slice af nb cf) nb fl) (hfc : af = none → cf = 0) (hnb : nb ≤ 140737488355328) (hK : K ≤ 9223372036854775807) (hM : M' ≤ 9223372036854775807) (hg : ErrCell w) :
    Calls Tryd.prog 3 #[sizeV K M', .slice a0 n c0, .slice af nb cf] w fun e w' => e = .returned (.bool true) ∧ Stay (fun _ => False) w w' := by
  by_cases h : K < 1 ∨ M' < 0 ∨ 32 - M' < K
  · exact parts_bad w K M' _ _ hK hM hg h
  · obtain ⟨k, m, rfl, rfl, h1, h2⟩ := size_any h
    by_cases h3 : longB n L = true
    · exact parts_long w k m _ _ _ _ _ hx hL _ h3 h1 h2 hg
    · exact parts_good w k m _ _ _ _ _ hx hL _ _ _ fl hf hfc hnb (by simpa using h3) h1 h2 hg
end Go.Proofs.YtaldpfamgfchoaaDoor.Rs
