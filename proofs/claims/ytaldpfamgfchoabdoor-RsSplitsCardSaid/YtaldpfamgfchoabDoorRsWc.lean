/-
  RsSplits, walked.
-/
import Derived.Test.YtaldpfamgfchoabDoorRsWb
namespace Go.Proofs.YtaldpfamgfchoabDoor.Rs
open Go.RowKit Gf
set_option maxRecDepth 100000

set_option maxHeartbeats 1000000 in
theorem splits_bad (w : World) (K M : Int) (a0 : Option Addr) (l c0 : Nat) (hK : K ≤ 9223372036854775807) (hM : M ≤ 9223372036854775807) (hg : ErrCell w) (h : K < 1 ∨ M < 0 ∨ 32 - M < K) :
    Calls Tryd.prog 3 #[sizeV K M, .slice a0 l c0] w fun e w' => e = .returned (.bool true) ∧ Stay (fun _ => False) w w' := by
  unfold sizeV
  have H := Lib.hid h
  have HG := Lib.hid hg
  clear h hg
  go_enter Tryd.func3, Tryd.ntmps3
  go_wp2_with fail
  have hst : Stay (fun _ => False) w (w.alloc (.cells #[.int .i64 K, .int .i64 M] 23)) := Stay.alloc _ _
  have hsz := Sz.new w K M
  generalize w.alloc (.cells #[.int .i64 K, .int .i64 M] 23) = w0 at hst hsz ⊢
  obtain ⟨c0, c1⟩ := hsz
  have S0 := Lib.hid hst
  have HG0 := Lib.hid (HG.out.stay0 hst)
  clear hst
  refine (new_bad w0 K M hM H.out).mono ?_
  rintro e w1 ⟨rfl, e1⟩
  cases e1
  go_wp2_with fail
  refine (rnew_bad w0 K M hK H.out).mono ?_
  rintro e w2' ⟨rfl, s2⟩
  unfold codeV
  clear c0 c1
  go_wp2_with fail
  have s2 := s2.trans (Stay.alloc w2' (.cells #[.int .i64 0, .int .i64 0] 30))
  generalize w2'.alloc (.cells #[.int .i64 0, .int .i64 0] 30) = w2 at s2 ⊢
  have S2 := Lib.hid s2
  clear s2
  refine (num_errno 1 w2 (HG0.out.stay0 S2.out)).mono ?_
  rintro e w3 ⟨rfl, s3⟩
  have S3 := Lib.hid s3
  clear s3
  go_wp2_with fail
  refine (num_errno 1 w3 ((HG0.out.stay0 S2.out).stay0 S3.out)).mono ?_
  rintro e w4 ⟨rfl, s4⟩
  have S4 := Lib.hid s4
  clear s4
  go_wp2_with fail
  refine (sure_any w4).mono ?_
  rintro e w5 ⟨rfl, s5⟩
  have S5 := Lib.hid s5
  clear s5
  go_wp2
  try go_ret
  exact ⟨rfl, (((S0.out.trans S2.out).trans S3.out).trans S4.out).trans S5.out⟩
set_option maxHeartbeats 1000000 in
theorem splits_long (w : World) (k m : Nat) (a0 : Option Addr) (l c0 : Nat) (hl : l ≤ 140737488355328) (hl3 : 3000 < l) (h1 : 1 ≤ k) (h2 : k + m ≤ 32) (hg : ErrCell w) :
    Calls Tryd.prog 3 #[sizeV k m, .slice a0 l c0] w fun e w' => e = .returned (.bool true) ∧ Stay (fun _ => False) w w' := by
  have ql : ¬ (l : Int) ≤ 3000 := by omega
  have ql2 : (3000 : Int) < (l : Int) := by omega
  have ql3 : (l : Int) ≤ 9223372036854775807 := by omega
  clear hl hl3
  unfold sizeV
  have H1 := Lib.hid h1
  have H2 := Lib.hid h2
  have HG := Lib.hid hg
  clear h1 h2 hg
  go_enter Tryd.func3, Tryd.ntmps3
  go_wp2_with fail
  have hst : Stay (fun _ => False) w (w.alloc (.cells #[.int .i64 (k : Int), .int .i64 (m : Int)] 23)) := Stay.alloc _ _
  have hsz := Sz.new w k m
  obtain ⟨sa, hsa⟩ : ∃ sa, sa = w.heap.size := ⟨_, rfl⟩
  generalize w.alloc (.cells #[.int .i64 (k : Int), .int .i64 (m : Int)] 23) = w0 at hst hsz ⊢
  simp only [← hsa] at hsz ⊢
  have HSZ := Lib.hid hsz
  have HSA := Lib.hid hsa
  have S0 := Lib.hid hst
  have HG0 := Lib.hid (HG.out.stay0 hst)
  obtain ⟨c0, c1⟩ := hsz
  clear hst hsa
  refine (new_good w0 k m H1.out H2.out).mono ?_
  rintro e w1 ⟨c, rfl, hcb, hc1, s1⟩
  have S1 := Lib.hid s1
  have C1 := Lib.hid hc1
  have HCB := Lib.hid hcb
  have c0 := s1.cell c0 (fun x => x)
  have c1 := s1.cell c1 (fun x => x)
  clear hcb hc1 s1
  go_wp2_with fail
  refine (rnew_good w1 k m H1.out H2.out).mono ?_
  rintro e w2' ⟨rfl, s2⟩
  unfold codeV
  clear c0 c1
  go_wp2_with fail
  have hcd : (w2'.alloc (.cells #[.int .i64 (k : Int), .int .i64 (m : Int)] 30)).heap[w2'.heap.size]? = some (.cells #[.int .i64 (k : Int), .int .i64 (m : Int)] 30 (0, 0)) := heap_alloc_new w2' _
  have HNE := Lib.hid (show w2'.heap.size ≠ w0.heap.size ∧ sa ≠ w0.heap.size ∧ 0 ≠ w0.heap.size from by
    have e1 := s2.size
    have e2 := C1.out.f.lt
    have e3 : sa < w0.heap.size := World.block_lt_of_cell? w0 ⟨sa, 0, none⟩ HSZ.out.1
    have e4 : 0 < w0.heap.size := World.block_lt_of_cell? w0 ⟨0, 0, none⟩ HG0.out
    omega)
  have s2 := s2.trans (Stay.alloc w2' (.cells #[.int .i64 (k : Int), .int .i64 (m : Int)] 30))
  obtain ⟨ra, hra⟩ : ∃ ra, ra = w2'.heap.size := ⟨_, rfl⟩
  generalize w2'.alloc (.cells #[.int .i64 (k : Int), .int .i64 (m : Int)] 30) = w2 at hcd s2 ⊢
  simp only [← hra] at hcd HNE ⊢
  clear hra
  have S2 := Lib.hid s2
  have HCD := Lib.hid (show CodeAt w2 ra k m from hcd)
  clear s2 hcd
  refine (num_nil w2).mono ?_
  rintro e w3 ⟨rfl, s3⟩
  have S3 := Lib.hid s3
  clear s3
  go_wp2_with fail
  refine (num_nil w3).mono ?_
  rintro e w4 ⟨rfl, s4⟩
  have S4 := Lib.hid s4
  clear s4
  go_wp2_with fail
  refine (sure_any w4).mono ?_
  rintro e w5 ⟨rfl, s5⟩
  have S5 := Lib.hid s5
  clear s5
  go_wp2
  try go_ret
  exact ⟨rfl, ((((S0.out.trans S1.out).trans S2.out).trans S3.out).trans S4.out).trans S5.out⟩
set_option maxHeartbeats 1000000 in
theorem splits_good (w : World) (k m : Nat) (a0 : Option Addr) (l c0 : Nat) (q : Nat → UInt8) (hx : SSlc (fun _ => False) w (.slice a0 l c0) (lf l q)) (hl : l ≤ 140737488355328) (hl3 : l ≤ 3000) (h1 : 1 ≤ k) (h2 : k + m ≤ 32) (hg : ErrCell w) :
    Calls Tryd.prog 3 #[sizeV k m, .slice a0 l c0] w fun e w' => e = .returned (.bool true) ∧ Stay (fun _ => False) w w' := by
  have ql : ¬ (3000 : Int) < (l : Int) := by omega
  have ql3 : (l : Int) ≤ 3000 := by omega
  have HL := Lib.hid hl
  have HL3 := Lib.hid hl3
  clear hl hl3
  unfold sizeV
  have H1 := Lib.hid h1
  have H2 := Lib.hid h2
  have HG := Lib.hid hg
  clear h1 h2 hg
  have HX := Lib.hid hx
  clear hx
  go_enter Tryd.func3, Tryd.ntmps3
  go_wp2_with fail
  have hst : Stay (fun _ => False) w (w.alloc (.cells #[.int .i64 (k : Int), .int .i64 (m : Int)] 23)) := Stay.alloc _ _
  have hsz := Sz.new w k m
  obtain ⟨sa, hsa⟩ : ∃ sa, sa = w.heap.size := ⟨_, rfl⟩
  generalize w.alloc (.cells #[.int .i64 (k : Int), .int .i64 (m : Int)] 23) = w0 at hst hsz ⊢
  simp only [← hsa] at hsz ⊢
  have HSZ := Lib.hid hsz
  have HSA := Lib.hid hsa
  have S0 := Lib.hid hst
  have HG0 := Lib.hid (HG.out.stay0 hst)
  obtain ⟨c0, c1⟩ := hsz
  clear hst hsa
  refine (new_good w0 k m H1.out H2.out).mono ?_
  rintro e w1 ⟨c, rfl, hcb, hc1, s1⟩
  have S1 := Lib.hid s1
  have C1 := Lib.hid hc1
  have HCB := Lib.hid hcb
  have c0 := s1.cell c0 (fun x => x)
  have c1 := s1.cell c1 (fun x => x)
  clear hcb hc1 s1
  go_wp2_with fail
  refine (rnew_good w1 k m H1.out H2.out).mono ?_
  rintro e w2' ⟨rfl, s2⟩
  unfold codeV
  clear c0 c1
  go_wp2_with fail
  have hcd : (w2'.alloc (.cells #[.int .i64 (k : Int), .int .i64 (m : Int)] 30)).heap[w2'.heap.size]? = some (.cells #[.int .i64 (k : Int), .int .i64 (m : Int)] 30 (0, 0)) := heap_alloc_new w2' _
  have HNE := Lib.hid (show w2'.heap.size ≠ w0.heap.size ∧ sa ≠ w0.heap.size ∧ 0 ≠ w0.heap.size from by
    have e1 := s2.size
    have e2 := C1.out.f.lt
    have e3 : sa < w0.heap.size := World.block_lt_of_cell? w0 ⟨sa, 0, none⟩ HSZ.out.1
    have e4 : 0 < w0.heap.size := World.block_lt_of_cell? w0 ⟨0, 0, none⟩ HG0.out
    omega)
  have s2 := s2.trans (Stay.alloc w2' (.cells #[.int .i64 (k : Int), .int .i64 (m : Int)] 30))
  obtain ⟨ra, hra⟩ : ∃ ra, ra = w2'.heap.size := ⟨_, rfl⟩
  generalize w2'.alloc (.cells #[.int .i64 (k : Int), .int .i64 (m : Int)] 30) = w2 at hcd s2 ⊢
  simp only [← hra] at hcd HNE ⊢
  clear hra
  have S2 := Lib.hid s2
  have HCD := Lib.hid (show CodeAt w2 ra k m from hcd)
  clear s2 hcd
  refine (num_nil w2).mono ?_
  rintro e w3 ⟨rfl, s3⟩
  have S3 := Lib.hid s3
  clear s3
  go_wp2_with fail
  refine (split_any w3 c w0.heap.size k m l _ q (C1.out.stay0 (S2.out.trans S3.out)) (HX.out.stay (((S0.out.trans S1.out).trans S2.out).trans S3.out)) HL.out).mono ?_
  rintro e w4 ⟨vp, rfl, hp, s4⟩
  obtain ⟨ap, cp, rfl, _⟩ := hp.form
  have HP := Lib.hid hp
  have S4 := Lib.hid s4
  have qk : (k : Int) ≤ 32 := by have := H2.out; omega
  have qL : (lenS l k : Int) ≤ 9223372036854775807 := by
    have h : lenS l k ≤ 3000 + 32 := by
      unfold lenS
      have h1 := H1.out
      have h2 := H2.out
      have h3 := HL3.out
      exact Nat.le_trans (Nat.div_le_self _ _) (by omega)
    omega
  clear hp s4
  go_wp2_with fail
  go_loopw [10] (fun i wr => ∃ t : Nat, 1 ≤ t ∧ t ≤ max k 1 ∧ i = .int .i64 (t : Int) ∧ Stay (fun _ => False) w4 wr) (fun i _ => k - (intOf i).toNat)
  case atStart => exact ⟨1, by omega, by omega, rfl, Stay.refl _ _⟩
  case round =>
    obtain ⟨t, ht1, ht, rfl, hst⟩ := hrel
    by_cases hlt : t < k
    · have q1 : (t : Int) < (k : Int) := by omega
      have q2 : (0 : Int) < (k : Int) := by omega
      have q3 : 0 < k := by omega
      obtain ⟨b, o, ak, ck, rfl, cR, sR, _⟩ := HP.out.row hlt
      obtain ⟨_, _, ak1, ck1, e0, cR1, sR1, _⟩ := HP.out.row (k := 0) (by omega)
      cases e0
      have hst2 := (hst.trans (Stay.drew (X := fun _ => False))).mono (Y := fun _ => False) (fun _ x => x)
      have k1 := ((cR.mono (fun _ x => x.elim)).stay hst2).now
      have k2 := ((cR1.mono (fun _ x => x.elim)).stay hst2).now
      rw [Nat.add_zero] at k2
      have HST := Lib.hid hst
      have HT := Lib.hid hlt
      clear hst hlt cR sR cR1 sR1 hst2
      go_wp2
      go_region_held3 (fun W => W.cell? ⟨b, o + t, none⟩ = some (.slice ak (lenS l k) ck) ∧ W.cell? ⟨b, o, none⟩ = some (.slice ak1 (lenS l k) ck1)) (first | go_keep | exact ⟨k1, k2⟩) (fail)
      clear k1 k2
      go_wp2
      have ht := HT.out
      first
        | exact ⟨⟨t + 1, by omega, by omega, by go_num, HST.out.trans Stay.drew⟩, by simp [intOf]; omega⟩
        | (go_round
           case rel => exact ⟨t + 1, by omega, by omega, by go_num, HST.out.trans Stay.drew⟩
           case measure => simp [intOf]; omega)
    · obtain rfl : t = k := by have := H1.out; omega
      have HST := Lib.hid hst
      clear hst
      have hcd := (((HCD.out.stay0 S3.out).stay0 S4.out).stay0 HST.out)
      have r0 := hcd.c0
      have r1 := hcd.c1
      have z0 := ((((HSZ.out.stay0 S1.out).stay0 S2.out).stay0 S3.out).stay0 S4.out).stay0 HST.out
      clear hcd
      obtain ⟨c0', c1'⟩ := id z0
      go_wp2_with fail
      clear r0 r1
      refine (rsplit_any wr t m l _ q ((((HX.out.stay (((S0.out.trans S1.out).trans S2.out).trans S3.out)).stay S4.out).stay HST.out)) H1.out H2.out (by have := HL3.out; omega)).mono ?_
      rintro e w5 ⟨vb, rfl, hb, s5⟩
      have HB := Lib.hid hb
      have S5 := Lib.hid s5
      clear hb s5 c0' c1'
      go_wp2_with fail
      refine (lists_same w5 _ _ t _ _ (((HP.out.mono (fun _ x => x.elim)).stay HST.out).stay S5.out) (HB.out.mono (fun _ x => x.elim))).mono ?_
      rintro e w6 ⟨rfl, s6⟩
      have S6 := Lib.hid s6
      clear s6
      have z6 := (z0.stay0 S5.out).stay0 S6.out
      obtain ⟨c0', c1'⟩ := id z6
      go_wp2_with fail
      refine (sure_any w6).mono ?_
      rintro e w7 ⟨rfl, s7⟩
      have S7 := Lib.hid s7
      clear s7 c0' c1'
      go_wp2
      try go_ret
      exact ⟨rfl, ((((((S0.out.trans S1.out).trans S2.out).trans S3.out).trans S4.out).trans HST.out).trans (S5.out.trans S6.out)).trans S7.out⟩
theorem splits_walk (w : World) (K M : Int) (x : Value) (l : List UInt8) (hx : Slc w x l) (hl : l.length ≤ 140737488355328) (hK : K ≤ 9223372036854775807) (hM : M ≤ 9223372036854775807) (hg : ErrCell w) :
    Calls Tryd.prog 3 #[sizeV K M, x] w fun e w' => e = .returned (.bool true) ∧ Stay (fun _ => False) w w' := by
  have ho := Slc.own hx
  obtain ⟨a0, c0, rfl, _⟩ := hx
  by_cases h : K < 1 ∨ M < 0 ∨ 32 - M < K
  · exact splits_bad w K M _ _ _ hK hM hg h
  · obtain ⟨k, m, rfl, rfl, h1, h2⟩ := size_any h
    by_cases h3 : l.length ≤ 3000
    · exact splits_good w k m _ _ _ _ ho hl h3 h1 h2 hg
    · exact splits_long w k m _ _ _ hl (by omega) h1 h2 hg
end Go.Proofs.YtaldpfamgfchoabDoor.Rs
