/-
  RsEncodes, walked.
-/
import Derived.Test.YtaldpfamgfchoaaDoorRsWb
namespace Go.Proofs.YtaldpfamgfchoaaDoor.Rs
open Go.RowKit Gf
set_option maxRecDepth 100000

/-- What Encode answers, whatever the parts. -/
def encC (k n : Nat) (L : Nat → Nat) : Nat := if n = k then (if evenB k L = true then 0 else 2) else 1
def encN (k m n : Nat) (L : Nat → Nat) : Nat := if n = k then (if evenB k L = true then k + m else 0) else 0
theorem encode_all {w : World} {c g k m n : Nat} {x : Value} {L : Nat → Nat} {D : Nat → Nat → UInt8} (hc : Cd w c g k m) (hx : SM (· = g) w x n L D) (hl : n = k → L 0 ≤ 281474976710656) :
    Calls Tryd.prog 12 #[.pointer (some ⟨c, 0, none⟩), x] w fun e w' => ∃ v, e = .returned (.tuple #[v, errV (encC k n L)]) ∧ SM (fun i => i < w.heap.size) w' v (encN k m n L) (fun _ => L 0) (prodF k (rowF k) D) ∧ Cd w' c g k m ∧ Stay (· = g) w w' := by
  by_cases hn : n = k
  · subst hn
    by_cases he : evenB n L = true
    · rw [show encC n n L = 0 from by unfold encC; rw [if_pos rfl, if_pos he], show encN n m n L = n + m from by unfold encN; rw [if_pos rfl, if_pos he]]
      exact encode_good hc hx he (hl rfl)
    · rw [show encC n n L = 2 from by unfold encC; rw [if_pos rfl, if_neg he], show encN n m n L = 0 from by unfold encN; rw [if_pos rfl, if_neg he]]
      refine (encode_long hc hx (by simpa using he)).mono ?_
      rintro e w1 ⟨rfl, h1, s1⟩
      exact ⟨_, rfl, SM.none _ _ _ _, h1, s1⟩
  · rw [show encC k n L = 1 from by unfold encC; rw [if_neg hn], show encN k m n L = 0 from by unfold encN; rw [if_neg hn]]
    refine (encode_count hc hx hn).mono ?_
    rintro e w1 ⟨rfl, e1⟩
    cases e1
    exact ⟨_, rfl, SM.none _ _ _ _, hc, Stay.refl _ _⟩
theorem rencode_all (w : World) (k m n : Nat) (x : Value) (L : Nat → Nat) (D : Nat → Nat → UInt8) (hx : SM (fun _ => False) w x n L D) (hk : 1 ≤ k) (hkm : k + m ≤ 32) (hL : n = k → L 0 ≤ 140737488355327) :
    Calls Tryd.prog 22 #[codeV k m, x] w fun e w' => ∃ v, e = .returned (.tuple #[v, .int .i64 (encC k n L : Int)]) ∧ SM (fun i => i < w.heap.size) w' v (encN k m n L) (fun _ => L 0) (prodF k (rowF k) D) ∧ Stay (fun _ => False) w w' := by
  by_cases hn : n = k
  · subst hn
    refine (rencode_any w n m x L D hx hk hkm (hL rfl)).mono ?_
    rintro e w1 ⟨s1, ⟨he, rfl⟩ | ⟨he, v, rfl, hv⟩⟩
    · have he' : ¬ evenB n L = true := by simp [he]
      rw [show encC n n L = 2 from by unfold encC; rw [if_pos rfl, if_neg he'], show encN n m n L = 0 from by unfold encN; rw [if_pos rfl, if_neg he']]
      exact ⟨_, rfl, SM.none _ _ _ _, s1⟩
    · rw [show encC n n L = 0 from by unfold encC; rw [if_pos rfl, if_pos he], show encN n m n L = n + m from by unfold encN; rw [if_pos rfl, if_pos he]]
      exact ⟨_, rfl, hv, s1⟩
  · rw [show encC k n L = 1 from by unfold encC; rw [if_neg hn], show encN k m n L = 0 from by unfold encN; rw [if_neg hn]]
    refine (rencode_count w k m n x L D hx hn).mono ?_
    rintro e w1 ⟨rfl, s1⟩
    exact ⟨_, rfl, SM.none _ _ _ _, s1⟩
theorem encC_lt (k n : Nat) (L : Nat → Nat) : encC k n L ≤ 2 := by unfold encC; split <;> (try split) <;> omega
theorem encN_le (k m n : Nat) (L : Nat → Nat) : encN k m n L ≤ k + m := by unfold encN; split <;> (try split) <;> omega
theorem sumN_one (L : Nat → Nat) {n i : Nat} (hi : i < n) : L i ≤ sumN L n := Nat.le_trans (by show L i ≤ sumN L i + L i; omega) (sumN_le L (n := n) (t := i + 1) (by omega))
set_option maxHeartbeats 1000000 in
theorem encodes_bad (w : World) (K M : Int) (x : Value) (hK : K ≤ 9223372036854775807) (hM : M ≤ 9223372036854775807) (hg : ErrCell w) (h : K < 1 ∨ M < 0 ∨ 32 - M < K) :
    Calls Tryd.prog 8 #[sizeV K M, x] w fun e w' => e = .returned (.bool true) ∧ Stay (fun _ => False) w w' := by
  unfold sizeV
  have H := Lib.hid h
  have HG := Lib.hid hg
  clear h hg
  go_enter Tryd.func8, Tryd.ntmps8
  go_wp2_with fail
  have hst : Stay (fun _ => False) w (w.alloc (.cells #[.int .i64 K, .int .i64 M] 23)) := Stay.alloc _ _
  have hsz := Sz.new w K M
  generalize w.alloc (.cells #[.int .i64 K, .int .i64 M] 23) = w0 at hst hsz ⊢
  obtain ⟨c0, c1⟩ := hsz
  have S0 := Lib.hid hst
  have HG0 := Lib.hid (HG.out.stay0 hst)
  clear hst
  refine (new_bad w0 K M hM H.out).mono ?_
  rintro e w1 ⟨rfl, e1⟩
  cases e1
  go_wp2_with fail
  refine (rnew_bad w0 K M hK H.out).mono ?_
  rintro e w2' ⟨rfl, s2⟩
  unfold codeV
  clear c0 c1
  go_wp2_with fail
  have s2 := s2.trans (Stay.alloc w2' (.cells #[.int .i64 0, .int .i64 0] 31))
  generalize w2'.alloc (.cells #[.int .i64 0, .int .i64 0] 31) = w2 at s2 ⊢
  have S2 := Lib.hid s2
  clear s2
  refine (num_errno 1 w2 (HG0.out.stay0 S2.out)).mono ?_
  rintro e w3 ⟨rfl, s3⟩
  have S3 := Lib.hid s3
  clear s3
  go_wp2_with fail
  refine (num_errno 1 w3 ((HG0.out.stay0 S2.out).stay0 S3.out)).mono ?_
  rintro e w4 ⟨rfl, s4⟩
  have S4 := Lib.hid s4
  clear s4
  go_wp2_with fail
  refine (sure_any w4).mono ?_
  rintro e w5 ⟨rfl, s5⟩
  have S5 := Lib.hid s5
  clear s5
  go_wp2
  try go_ret
  exact ⟨rfl, (((S0.out.trans S2.out).trans S3.out).trans S4.out).trans S5.out⟩
set_option maxHeartbeats 1000000 in
theorem encodes_long (w : World) (k m : Nat) (a0 : Option Addr) (n c0 : Nat) (L : Nat → Nat) (M : Nat → Nat → UInt8) (hx : SM (fun _ => False) w (.slice a0 n c0) n L M) (hL : ∀ i, i < n → L i ≤ 140737488355328) (hb : longB n L = true) (h1 : 1 ≤ k) (h2 : k + m ≤ 32) (hg : ErrCell w) :
    Calls Tryd.prog 8 #[sizeV k m, .slice a0 n c0] w fun e w' => e = .returned (.bool true) ∧ Stay (fun _ => False) w w' := by
  unfold sizeV
  have H1 := Lib.hid h1
  have H2 := Lib.hid h2
  have HG := Lib.hid hg
  clear h1 h2 hg
  have HX := Lib.hid hx
  have HL := Lib.hid hL
  have HB := Lib.hid hb
  clear hx hL hb
  go_enter Tryd.func8, Tryd.ntmps8
  go_wp2_with fail
  have hst : Stay (fun _ => False) w (w.alloc (.cells #[.int .i64 (k : Int), .int .i64 (m : Int)] 23)) := Stay.alloc _ _
  have hsz := Sz.new w k m
  obtain ⟨sa, hsa⟩ : ∃ sa, sa = w.heap.size := ⟨_, rfl⟩
  generalize w.alloc (.cells #[.int .i64 (k : Int), .int .i64 (m : Int)] 23) = w0 at hst hsz ⊢
  simp only [← hsa] at hsz ⊢
  have HSZ := Lib.hid hsz
  have HSA := Lib.hid hsa
  have S0 := Lib.hid hst
  have HG0 := Lib.hid (HG.out.stay0 hst)
  obtain ⟨c0, c1⟩ := hsz
  clear hst hsa
  refine (new_good w0 k m H1.out H2.out).mono ?_
  rintro e w1 ⟨c, rfl, hcb, hc1, s1⟩
  have S1 := Lib.hid s1
  have C1 := Lib.hid hc1
  have HCB := Lib.hid hcb
  have c0 := s1.cell c0 (fun x => x)
  have c1 := s1.cell c1 (fun x => x)
  clear hcb hc1 s1
  go_wp2_with fail
  refine (rnew_good w1 k m H1.out H2.out).mono ?_
  rintro e w2' ⟨rfl, s2⟩
  unfold codeV
  clear c0 c1
  go_wp2_with fail
  have hcd : (w2'.alloc (.cells #[.int .i64 (k : Int), .int .i64 (m : Int)] 31)).heap[w2'.heap.size]? = some (.cells #[.int .i64 (k : Int), .int .i64 (m : Int)] 31 (0, 0)) := heap_alloc_new w2' _
  have HNE := Lib.hid (show w2'.heap.size ≠ w0.heap.size ∧ sa ≠ w0.heap.size ∧ 0 ≠ w0.heap.size from by
    have e1 := s2.size
    have e2 := C1.out.f.lt
    have e3 : sa < w0.heap.size := World.block_lt_of_cell? w0 ⟨sa, 0, none⟩ HSZ.out.1
    have e4 : 0 < w0.heap.size := World.block_lt_of_cell? w0 ⟨0, 0, none⟩ HG0.out
    omega)
  have s2 := s2.trans (Stay.alloc w2' (.cells #[.int .i64 (k : Int), .int .i64 (m : Int)] 31))
  obtain ⟨ra, hra⟩ : ∃ ra, ra = w2'.heap.size := ⟨_, rfl⟩
  generalize w2'.alloc (.cells #[.int .i64 (k : Int), .int .i64 (m : Int)] 31) = w2 at hcd s2 ⊢
  simp only [← hra] at hcd HNE ⊢
  clear hra
  have S2 := Lib.hid s2
  have HCD := Lib.hid (show CodeAt w2 ra k m from hcd)
  clear s2 hcd
  refine (num_nil w2).mono ?_
  rintro e w3 ⟨rfl, s3⟩
  have S3 := Lib.hid s3
  clear s3
  go_wp2_with fail
  refine (long_any w3 _ n L M (HX.out.stay (((S0.out.trans S1.out).trans S2.out).trans S3.out)) HL.out).mono ?_
  rintro e w4 ⟨rfl, e4⟩
  cases e4
  rw [HB.out]
  go_wp2_with fail
  refine (num_nil w3).mono ?_
  rintro e w4 ⟨rfl, s4⟩
  have S4 := Lib.hid s4
  clear s4
  go_wp2_with fail
  refine (sure_any w4).mono ?_
  rintro e w5 ⟨rfl, s5⟩
  have S5 := Lib.hid s5
  clear s5
  go_wp2
  try go_ret
  exact ⟨rfl, ((((S0.out.trans S1.out).trans S2.out).trans S3.out).trans S4.out).trans S5.out⟩
set_option maxHeartbeats 1000000 in
theorem encodes_good (w : World) (k m : Nat) (a0 : Option Addr) (n c0 : Nat) (L : Nat → Nat) (M : Nat → Nat → UInt8) (hx : SM (fun _ => False) w (.slice a0 n c0) n L M) (hL : ∀ i, i < n → L i ≤ 140737488355328) (hb : longB n L = false) (h1 : 1 ≤ k) (h2 : k + m ≤ 32) (hg : ErrCell w) :
    Calls Tryd.prog 8 #[sizeV k m, .slice a0 n c0] w fun e w' => e = .returned (.bool true) ∧ Stay (fun _ => False) w w' := by
  unfold sizeV
  have H1 := Lib.hid h1
  have H2 := Lib.hid h2
  have HG := Lib.hid hg
  clear h1 h2 hg
  have HX := Lib.hid hx
  have HL := Lib.hid hL
  have HB := Lib.hid hb
  clear hx hL hb
  go_enter Tryd.func8, Tryd.ntmps8
  go_wp2_with fail
  have hst : Stay (fun _ => False) w (w.alloc (.cells #[.int .i64 (k : Int), .int .i64 (m : Int)] 23)) := Stay.alloc _ _
  have hsz := Sz.new w k m
  obtain ⟨sa, hsa⟩ : ∃ sa, sa = w.heap.size := ⟨_, rfl⟩
  generalize w.alloc (.cells #[.int .i64 (k : Int), .int .i64 (m : Int)] 23) = w0 at hst hsz ⊢
  simp only [← hsa] at hsz ⊢
  have HSZ := Lib.hid hsz
  have HSA := Lib.hid hsa
  have S0 := Lib.hid hst
  have HG0 := Lib.hid (HG.out.stay0 hst)
  obtain ⟨c0, c1⟩ := hsz
  clear hst hsa
  refine (new_good w0 k m H1.out H2.out).mono ?_
  rintro e w1 ⟨c, rfl, hcb, hc1, s1⟩
  have S1 := Lib.hid s1
  have C1 := Lib.hid hc1
  have HCB := Lib.hid hcb
  have c0 := s1.cell c0 (fun x => x)
  have c1 := s1.cell c1 (fun x => x)
  clear hcb hc1 s1
  go_wp2_with fail
  refine (rnew_good w1 k m H1.out H2.out).mono ?_
  rintro e w2' ⟨rfl, s2⟩
  unfold codeV
  clear c0 c1
  go_wp2_with fail
  have hcd : (w2'.alloc (.cells #[.int .i64 (k : Int), .int .i64 (m : Int)] 31)).heap[w2'.heap.size]? = some (.cells #[.int .i64 (k : Int), .int .i64 (m : Int)] 31 (0, 0)) := heap_alloc_new w2' _
  have HNE := Lib.hid (show w2'.heap.size ≠ w0.heap.size ∧ sa ≠ w0.heap.size ∧ 0 ≠ w0.heap.size from by
    have e1 := s2.size
    have e2 := C1.out.f.lt
    have e3 : sa < w0.heap.size := World.block_lt_of_cell? w0 ⟨sa, 0, none⟩ HSZ.out.1
    have e4 : 0 < w0.heap.size := World.block_lt_of_cell? w0 ⟨0, 0, none⟩ HG0.out
    omega)
  have s2 := s2.trans (Stay.alloc w2' (.cells #[.int .i64 (k : Int), .int .i64 (m : Int)] 31))
  obtain ⟨ra, hra⟩ : ∃ ra, ra = w2'.heap.size := ⟨_, rfl⟩
  generalize w2'.alloc (.cells #[.int .i64 (k : Int), .int .i64 (m : Int)] 31) = w2 at hcd s2 ⊢
  simp only [← hra] at hcd HNE ⊢
  clear hra
  have S2 := Lib.hid s2
  have HCD := Lib.hid (show CodeAt w2 ra k m from hcd)
  clear s2 hcd
  refine (num_nil w2).mono ?_
  rintro e w3 ⟨rfl, s3⟩
  have S3 := Lib.hid s3
  clear s3
  go_wp2_with fail
  have hst3 := (((S0.out.trans S1.out).trans S2.out).trans S3.out)
  have HST := Lib.hid hst3
  clear hst3
  refine (long_any w3 _ n L M (HX.out.stay HST.out) HL.out).mono ?_
  rintro e w4 ⟨rfl, e4⟩
  cases e4
  rw [HB.out]
  have HN := Lib.hid (longB_false HB.out)
  go_wp2_with fail
  refine (twins_any w3 _ n L M (HX.out.stay HST.out) (by have := HN.out.1; omega) HL.out).mono ?_
  rintro e w4 ⟨vt, rfl, ht, s4⟩
  have HT := Lib.hid ht
  have S4 := Lib.hid s4
  have HG3 := Lib.hid (show w0.heap.size < w3.heap.size from by have := C1.out.f.lt; have := S2.out.size; have := S3.out.size; omega)
  have HL0 := Lib.hid (show n = k → L 0 ≤ 4000 from fun e => by have := HN.out.2; have := H1.out; have := sumN_one L (n := n) (i := 0) (by omega); omega)
  clear ht s4
  go_wp2_with fail
  refine (encode_all (C1.out.stay0 ((S2.out.trans S3.out).trans S4.out)) (HT.out.mono (fun i (e : i = w0.heap.size) => by have := HG3.out; omega)) (fun e => by have := HL0.out e; omega)).mono ?_
  rintro e w5 ⟨vx, rfl, hx5, _, s5⟩
  have HX5 := Lib.hid hx5
  have S5 := Lib.hid s5
  have HSW := Lib.hid (show Stay (fun _ => False) w w5 from stay_seal (X := fun i => w.heap.size ≤ i) (((HST.out.trans S4.out).mono (fun _ x => x.elim)).trans (s5.mono (fun i (e : i = w0.heap.size) => by have := S0.out.size; omega))) (fun _ h => h))
  have hcd := ((HCD.out.stay0 S3.out).stay0 S4.out).stay s5 HNE.out.1
  have r0 := hcd.c0
  have r1 := hcd.c1
  clear hx5 s5 hcd
  go_wp2_with fail
  clear r0 r1
  refine (rencode_all w5 k m n _ L M (HX.out.stay HSW.out) H1.out H2.out (fun e => by have := HL0.out e; omega)).mono ?_
  rintro e w6 ⟨vy, rfl, hy6, s6⟩
  have HY6 := Lib.hid hy6
  have S6 := Lib.hid s6
  clear hy6 s6
  go_wp2_with fail
  refine (lists_same w6 _ _ _ _ _ ((HX5.out.mono (fun _ x => x.elim)).stay S6.out) (HY6.out.mono (fun _ x => x.elim))).mono ?_
  rintro e w7 ⟨rfl, s7⟩
  have S7 := Lib.hid s7
  have HG7 := Lib.hid ((((((HG0.out.stay0 S1.out).stay0 S2.out).stay0 S3.out).stay0 S4.out).stay S5.out HNE.out.2.2).stay0 (S6.out.trans s7))
  clear s7
  go_wp2_with fail
  refine (num_err _ w7 HG7.out).mono ?_
  rintro e w8 ⟨rfl, s8⟩
  have S8 := Lib.hid s8
  clear s8
  go_wp2_with fail
  refine (sure_any w8).mono ?_
  rintro e w9 ⟨rfl, s9⟩
  have S9 := Lib.hid s9
  clear s9
  go_wp2
  try go_ret
  refine ⟨rfl, ?_⟩
  exact HSW.out.trans ((S6.out.trans S7.out).trans (S8.out.trans S9.out))
theorem encodes_walk (w : World) (K M' : Int) (a0 : Option Addr) (n c0 : Nat) (L : Nat → Nat) (M : Nat → Nat → UInt8) (hx : SM (fun _ => False) w (.slice a0 n c0) n L M) (hL : ∀ i, i < n → L i ≤ 140737488355328) (hK : K ≤ 9223372036854775807) (hM : M' ≤ 9223372036854775807) (hg : ErrCell w) :
    Calls Tryd.prog 8 #[sizeV K M', .slice a0 n c0] w fun e w' => e = .returned (.bool true) ∧ Stay (fun _ => False) w w' := by
  by_cases h : K < 1 ∨ M' < 0 ∨ 32 - M' < K
  · exact encodes_bad w K M' _ hK hM hg h
  · obtain ⟨k, m, rfl, rfl, h1, h2⟩ := size_any h
    by_cases h3 : longB n L = true
    · exact encodes_long w k m _ _ _ _ _ hx hL h3 h1 h2 hg
    · exact encodes_good w k m _ _ _ _ _ hx hL (by simpa using h3) h1 h2 hg
end Go.Proofs.YtaldpfamgfchoaaDoor.Rs
