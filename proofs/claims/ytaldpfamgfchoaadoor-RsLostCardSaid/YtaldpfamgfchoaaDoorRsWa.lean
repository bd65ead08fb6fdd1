/-
  RsRows, walked.
-/
import Derived.Test.YtaldpfamgfchoaaDoorRsWb
namespace Go.Proofs.YtaldpfamgfchoaaDoor.Rs
open Go.RowKit Gf
set_option maxRecDepth 100000

/-- What the rows are, whatever the number. -/
def rowL (k m : Nat) (p : Int) : List UInt8 := if p < 0 ∨ ((k + m : Nat) : Int) ≤ p then [] else lf k (rowF k p.toNat)
def rowC (k m : Nat) (p : Int) : Nat := if p < 0 ∨ ((k + m : Nat) : Int) ≤ p then 1 else 0
theorem rowx_all {w : World} {c g k m : Nat} (hc : Cd w c g k m) (p : Int) :
    Calls Tryd.prog 14 #[.pointer (some ⟨c, 0, none⟩), .int .i64 p] w fun e w' => ∃ v, e = .returned (.tuple #[v, errV (rowC k m p)]) ∧ Slc w' v (rowL k m p) ∧ Cd w' c g k m ∧ Stay (· = g) w w' := by
  by_cases hp : p < 0 ∨ ((k + m : Nat) : Int) ≤ p
  · refine (rowx_bad hc p hp).mono ?_
    rintro e w1 ⟨rfl, e1⟩
    cases e1
    rw [show rowC k m p = 1 from if_pos hp, show rowL k m p = [] from if_pos hp]
    refine ⟨_, rfl, ?_, hc, Stay.refl _ _⟩
    exact (slc_none (fun _ => False) _ (fun _ => 0)).now
  · obtain ⟨q, rfl⟩ : ∃ q : Nat, p = q := ⟨p.toNat, by omega⟩
    refine (rowx_good hc q (by omega)).mono ?_
    rintro e w1 ⟨rfl, hb, h1, s1⟩
    rw [show rowC k m q = 0 from if_neg hp, show rowL k m q = lf k (rowF k q) from if_neg hp]
    refine ⟨_, rfl, ?_, h1, s1⟩
    exact (FB.ss (X := fun _ => False) hb (by have := hc.km; omega) (fun x => x)).now
theorem rrow_all (w : World) (k m : Nat) (p : Int) (hk : k + m ≤ 32) :
    Calls Tryd.prog 24 #[codeV k m, .int .i64 p] w fun e w' => ∃ v, e = .returned (.tuple #[v, .int .i64 (rowC k m p : Int)]) ∧ Slc w' v (rowL k m p) ∧ Stay (fun _ => False) w w' := by
  by_cases hp : p < 0 ∨ ((k + m : Nat) : Int) ≤ p
  · refine (rrow_bad w k m p hk hp).mono ?_
    rintro e w1 ⟨rfl, s1⟩
    rw [show rowC k m p = 1 from if_pos hp, show rowL k m p = [] from if_pos hp]
    refine ⟨_, rfl, ?_, s1⟩
    exact (slc_none (fun _ => False) _ (fun _ => 0)).now
  · obtain ⟨q, rfl⟩ : ∃ q : Nat, p = q := ⟨p.toNat, by omega⟩
    refine (rrow_any w k m q hk (by omega)).mono ?_
    rintro e w1 ⟨v, rfl, ho, s1⟩
    rw [show rowC k m q = 0 from if_neg hp, show rowL k m q = lf k (rowF k q) from if_neg hp]
    refine ⟨_, rfl, ?_, s1⟩
    exact ho.slc
set_option maxHeartbeats 1000000 in
theorem rows_bad (w : World) (K M : Int) (p : Int) (hK : K ≤ 9223372036854775807) (hM : M ≤ 9223372036854775807) (hg : ErrCell w) (h : K < 1 ∨ M < 0 ∨ 32 - M < K) :
    Calls Tryd.prog 7 #[sizeV K M, .int .i64 p] w fun e w' => e = .returned (.bool true) ∧ Stay (fun _ => False) w w' := by
  unfold sizeV
  have H := Lib.hid h
  have HG := Lib.hid hg
  clear h hg
  go_enter Tryd.func7, Tryd.ntmps7
  go_wp2_with fail
  have hst : Stay (fun _ => False) w (w.alloc (.cells #[.int .i64 K, .int .i64 M] 23)) := Stay.alloc _ _
  have hsz := Sz.new w K M
  generalize w.alloc (.cells #[.int .i64 K, .int .i64 M] 23) = w0 at hst hsz ⊢
  obtain ⟨c0, c1⟩ := hsz
  have S0 := Lib.hid hst
  have HG0 := Lib.hid (HG.out.stay0 hst)
  clear hst
  refine (new_bad w0 K M hM H.out).mono ?_
  rintro e w1 ⟨rfl, e1⟩
  cases e1
  go_wp2_with fail
  refine (rnew_bad w0 K M hK H.out).mono ?_
  rintro e w2' ⟨rfl, s2⟩
  unfold codeV
  clear c0 c1
  go_wp2_with fail
  have s2 := s2.trans (Stay.alloc w2' (.cells #[.int .i64 0, .int .i64 0] 31))
  generalize w2'.alloc (.cells #[.int .i64 0, .int .i64 0] 31) = w2 at s2 ⊢
  have S2 := Lib.hid s2
  clear s2
  refine (num_errno 1 w2 (HG0.out.stay0 S2.out)).mono ?_
  rintro e w3 ⟨rfl, s3⟩
  have S3 := Lib.hid s3
  clear s3
  go_wp2_with fail
  refine (num_errno 1 w3 ((HG0.out.stay0 S2.out).stay0 S3.out)).mono ?_
  rintro e w4 ⟨rfl, s4⟩
  have S4 := Lib.hid s4
  clear s4
  go_wp2_with fail
  refine (sure_any w4).mono ?_
  rintro e w5 ⟨rfl, s5⟩
  have S5 := Lib.hid s5
  clear s5
  go_wp2
  try go_ret
  exact ⟨rfl, (((S0.out.trans S2.out).trans S3.out).trans S4.out).trans S5.out⟩
set_option maxHeartbeats 1000000 in
theorem rows_good (w : World) (k m : Nat) (p : Int) (h1 : 1 ≤ k) (h2 : k + m ≤ 32) (hg : ErrCell w) :
    Calls Tryd.prog 7 #[sizeV k m, .int .i64 p] w fun e w' => e = .returned (.bool true) ∧ Stay (fun _ => False) w w' := by
  unfold sizeV
  have H1 := Lib.hid h1
  have H2 := Lib.hid h2
  have HG := Lib.hid hg
  clear h1 h2 hg
  go_enter Tryd.func7, Tryd.ntmps7
  go_wp2_with fail
  have hst : Stay (fun _ => False) w (w.alloc (.cells #[.int .i64 (k : Int), .int .i64 (m : Int)] 23)) := Stay.alloc _ _
  have hsz := Sz.new w k m
  obtain ⟨sa, hsa⟩ : ∃ sa, sa = w.heap.size := ⟨_, rfl⟩
  generalize w.alloc (.cells #[.int .i64 (k : Int), .int .i64 (m : Int)] 23) = w0 at hst hsz ⊢
  simp only [← hsa] at hsz ⊢
  have HSZ := Lib.hid hsz
  have HSA := Lib.hid hsa
  have S0 := Lib.hid hst
  have HG0 := Lib.hid (HG.out.stay0 hst)
  obtain ⟨c0, c1⟩ := hsz
  clear hst hsa
  refine (new_good w0 k m H1.out H2.out).mono ?_
  rintro e w1 ⟨c, rfl, hcb, hc1, s1⟩
  have S1 := Lib.hid s1
  have C1 := Lib.hid hc1
  have HCB := Lib.hid hcb
  have c0 := s1.cell c0 (fun x => x)
  have c1 := s1.cell c1 (fun x => x)
  clear hcb hc1 s1
  go_wp2_with fail
  refine (rnew_good w1 k m H1.out H2.out).mono ?_
  rintro e w2' ⟨rfl, s2⟩
  unfold codeV
  clear c0 c1
  go_wp2_with fail
  have hcd : (w2'.alloc (.cells #[.int .i64 (k : Int), .int .i64 (m : Int)] 31)).heap[w2'.heap.size]? = some (.cells #[.int .i64 (k : Int), .int .i64 (m : Int)] 31 (0, 0)) := heap_alloc_new w2' _
  have HNE := Lib.hid (show w2'.heap.size ≠ w0.heap.size ∧ sa ≠ w0.heap.size ∧ 0 ≠ w0.heap.size from by
    have e1 := s2.size
    have e2 := C1.out.f.lt
    have e3 : sa < w0.heap.size := World.block_lt_of_cell? w0 ⟨sa, 0, none⟩ HSZ.out.1
    have e4 : 0 < w0.heap.size := World.block_lt_of_cell? w0 ⟨0, 0, none⟩ HG0.out
    omega)
  have s2 := s2.trans (Stay.alloc w2' (.cells #[.int .i64 (k : Int), .int .i64 (m : Int)] 31))
  obtain ⟨ra, hra⟩ : ∃ ra, ra = w2'.heap.size := ⟨_, rfl⟩
  generalize w2'.alloc (.cells #[.int .i64 (k : Int), .int .i64 (m : Int)] 31) = w2 at hcd s2 ⊢
  simp only [← hra] at hcd HNE ⊢
  clear hra
  have S2 := Lib.hid s2
  have HCD := Lib.hid (show CodeAt w2 ra k m from hcd)
  clear s2 hcd
  refine (num_nil w2).mono ?_
  rintro e w3 ⟨rfl, s3⟩
  have S3 := Lib.hid s3
  clear s3
  go_wp2_with fail
  refine (rowx_all (C1.out.stay0 (S2.out.trans S3.out)) p).mono ?_
  rintro e w4 ⟨va, rfl, ha, hc4, s4⟩
  have HA := Lib.hid ha
  have C4 := Lib.hid hc4
  have S4 := Lib.hid s4
  have r0 := ((HCD.out.stay0 S3.out).stay s4 HNE.out.1).c0
  have r1 := ((HCD.out.stay0 S3.out).stay s4 HNE.out.1).c1
  clear ha hc4 s4
  go_wp2_with fail
  clear r0 r1
  refine (rrow_all w4 k m p H2.out).mono ?_
  rintro e w5 ⟨vb, rfl, hb, s5⟩
  obtain ⟨a0, c0, e0, _⟩ := id HA.out
  obtain ⟨a1, c1, e1, _⟩ := id hb
  have y1 := conv_slc (HA.out.stay0 (s5.trans Stay.drew))
  have y2 := conv_slc (hb.stay0 Stay.drew)
  have hz : Sz w5.drew sa k m := (((((HSZ.out.stay0 S1.out).stay0 S2.out).stay0 S3.out).stay S4.out HNE.out.2.1).stay0 s5).stay0 Stay.drew
  have C5 := Lib.hid (C4.out.stay0 (s5.trans Stay.drew))
  have HG5 := Lib.hid (((((HG0.out.stay0 S1.out).stay0 S2.out).stay0 S3.out).stay S4.out HNE.out.2.2).stay0 (s5.trans Stay.drew))
  have S5 := Lib.hid (s5.trans (Stay.drew (X := fun _ => False)))
  obtain ⟨S, hS⟩ : ∃ S, S = strV (rowL k m p) := ⟨_, rfl⟩
  have HA := Lib.hid (HA.out.stay0 (s5.trans (Stay.drew (X := fun _ => False))))
  have HB := Lib.hid (hb.stay0 (Stay.drew (X := fun _ => False)))
  rw [← hS] at y1 y2
  unfold strV at hS
  obtain ⟨ba, hba⟩ : ∃ ba : ByteArray, ba = ⟨(rowL k m p).toArray⟩ := ⟨_, rfl⟩
  rw [← hba] at hS
  have HBA := Lib.hid (show Value.string ba = strV (rowL k m p) from by rw [hba]; rfl)
  subst hS
  subst e0
  subst e1
  clear hba hb s5
  have hk : (fun W => W.cell? ⟨sa, 0, none⟩ = some (.int .i64 (k : Int)) ∧ W.cell? ⟨sa, 1, none⟩ = some (.int .i64 (m : Int)) ∧ (convert 38 9 (.slice a0 (rowL k m p).length c0)).run Tryd.prog W = .ok (.string ba) W ∧ (convert 38 9 (.slice a1 (rowL k m p).length c1)).run Tryd.prog W = .ok (.string ba) W) w5.drew := ⟨hz.1, hz.2, y1, y2⟩
  go_wp2
  go_region_held3 (fun W => W.cell? ⟨sa, 0, none⟩ = some (.int .i64 (k : Int)) ∧ W.cell? ⟨sa, 1, none⟩ = some (.int .i64 (m : Int)) ∧ (convert 38 9 (.slice a0 (rowL k m p).length c0)).run Tryd.prog W = .ok (.string ba) W ∧ (convert 38 9 (.slice a1 (rowL k m p).length c1)).run Tryd.prog W = .ok (.string ba) W) (first | exact hk | with_reducible go_keep)
    (first
      | (go_at_call 11
         refine (num_err (rowC k m p) _ HG5.out).mono ?_
         rintro e w7 ⟨rfl, s7⟩
         have hk : (fun W => W.cell? ⟨sa, 0, none⟩ = some (.int .i64 (k : Int)) ∧ W.cell? ⟨sa, 1, none⟩ = some (.int .i64 (m : Int)) ∧ (convert 38 9 (.slice a0 (rowL k m p).length c0)).run Tryd.prog W = .ok (.string ba) W ∧ (convert 38 9 (.slice a1 (rowL k m p).length c1)).run Tryd.prog W = .ok (.string ba) W) w7 := ⟨s7.cell hk.1 (fun x => x), s7.cell hk.2.1 (fun x => x), by have := conv_slc (HA.out.stay0 s7); rw [← HBA.out] at this; exact this, by have := conv_slc (HB.out.stay0 s7); rw [← HBA.out] at this; exact this⟩
         have C7 := Lib.hid (C5.out.stay0 s7)
         have S7 := Lib.hid s7
         clear s7)
      | (go_at_call 16
         refine (data_any C7.out).mono ?_
         rintro e w7 ⟨rfl, e7⟩
         cases e7)
      | (go_at_call 17
         refine (parity_any C7.out).mono ?_
         rintro e w7 ⟨rfl, e7⟩
         cases e7)
      | (go_at_call 19
         refine (sure_any _).mono ?_
         rintro e w8 ⟨rfl, s8⟩
         have hk : (fun W => W.cell? ⟨sa, 0, none⟩ = some (.int .i64 (k : Int)) ∧ W.cell? ⟨sa, 1, none⟩ = some (.int .i64 (m : Int)) ∧ (convert 38 9 (.slice a0 (rowL k m p).length c0)).run Tryd.prog W = .ok (.string ba) W ∧ (convert 38 9 (.slice a1 (rowL k m p).length c1)).run Tryd.prog W = .ok (.string ba) W) w8 := ⟨s8.cell hk.1 (fun x => x), s8.cell hk.2.1 (fun x => x), by have := conv_slc (HA.out.stay0 (S7.out.trans s8)); rw [← HBA.out] at this; exact this, by have := conv_slc (HB.out.stay0 (S7.out.trans s8)); rw [← HBA.out] at this; exact this⟩
         have S8 := Lib.hid s8
         clear s8))
  go_wp2
  try go_ret
  refine ⟨rfl, ?_⟩
  have z := S0.out.size
  exact (stay_seal (X := fun i => w.heap.size ≤ i) (((((S0.out.trans S1.out).trans S2.out).trans S3.out).mono (fun _ x => x.elim)).trans (S4.out.mono (fun i (e : i = w0.heap.size) => by omega))) (fun _ h => h)).trans (S5.out.trans (S7.out.trans S8.out))
theorem rows_walk (w : World) (K M p : Int) (hK : K ≤ 9223372036854775807) (hM : M ≤ 9223372036854775807) (hg : ErrCell w) :
    Calls Tryd.prog 7 #[sizeV K M, .int .i64 p] w fun e w' => e = .returned (.bool true) ∧ Stay (fun _ => False) w w' := by
  by_cases h : K < 1 ∨ M < 0 ∨ 32 - M < K
  · exact rows_bad w K M p hK hM hg h
  · obtain ⟨k, m, rfl, rfl, h1, h2⟩ := size_any h
    exact rows_good w k m p h1 h2 hg
end Go.Proofs.YtaldpfamgfchoaaDoor.Rs
