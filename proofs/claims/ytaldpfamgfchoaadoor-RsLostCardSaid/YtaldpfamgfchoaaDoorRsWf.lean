/-
  RsTexts, walked.
-/
import Derived.Test.YtaldpfamgfchoaaDoorRsWb
namespace Go.Proofs.YtaldpfamgfchoaaDoor.Rs
open Go.RowKit Gf
set_option maxRecDepth 100000

theorem sumN_const (s : Nat) : ∀ t, sumN (fun _ => s) t = t * s
  | 0 => by simp [sumN]
  | t + 1 => by
    show sumN (fun _ => s) t + s = _
    rw [sumN_const s t, Nat.succ_mul]
theorem lenS_ge {l k : Nat} (hk : 1 ≤ k) : l ≤ k * lenS l k := by
  unfold lenS
  have h := Nat.div_add_mod (l + k - 1) k
  have h2 := Nat.mod_lt (l + k - 1) (show 0 < k by omega)
  omega
theorem join_split {l k : Nat} (hk : 1 ≤ k) (q : Nat → UInt8) : lf l (fun i => (catF (fun _ => lenS l k) (splitF l (lenS l k) q) k).getD i 0) = lf l q := by
  refine lf_congr (fun i hi => ?_)
  have hge := lenS_ge (l := l) hk
  obtain ⟨s, hs⟩ : ∃ s, s = lenS l k := ⟨_, rfl⟩
  rw [← hs] at hge ⊢
  have hs0 : 0 < s := by
    rcases Nat.eq_zero_or_pos s with h | h
    · rw [h] at hge; omega
    · exact h
  have h1 := Nat.div_add_mod i s
  have h2 := Nat.mod_lt i hs0
  have h3 : i / s < k := (Nat.div_lt_iff_lt_mul hs0).2 (by omega)
  have h4 : sumN (fun _ => s) (i / s) + i % s = i := by rw [sumN_const, Nat.mul_comm]; exact h1
  have h5 := cat_at (L := fun _ => s) (D := splitF l s q) h3 h2
  rw [h4] at h5
  rw [h5]
  unfold splitF
  have h6 : i / s * s + i % s = i := by rw [Nat.mul_comm]; exact h1
  rw [h6, if_pos hi]

/-- What Join answers, whatever the parts. -/
def joinC (k N : Nat) (L : Nat → Nat) (n : Int) : Nat := if N < k ∨ n < 0 then 1 else if ((sumN L k : Nat) : Int) < n then 2 else 0
def joinL (k N : Nat) (L : Nat → Nat) (D : Nat → Nat → UInt8) (n : Int) : List UInt8 := if N < k ∨ n < 0 then [] else if ((sumN L k : Nat) : Int) < n then [] else lf n.toNat (fun i => (catF L D k).getD i 0)
theorem slc_nil (X : Nat → Prop) (w : World) : SSlc X w (.slice none 0 0) [] := slc_none X w (fun _ => 0)
theorem join_all {w : World} {c g k m N : Nat} {x : Value} {L : Nat → Nat} {D : Nat → Nat → UInt8} (hc : Cd w c g k m) (hx : SM (fun _ => False) w x N L D) (n : Int) (hs : k ≤ N → sumN L k ≤ 140737488355328) (hn : n ≤ 9223372036854775807) :
    Calls Tryd.prog 15 #[.pointer (some ⟨c, 0, none⟩), x, .int .i64 n] w fun e w' => ∃ v, e = .returned (.tuple #[v, errV (joinC k N L n)]) ∧ SSlc (fun _ => False) w' v (joinL k N L D n) ∧ Stay (fun _ => False) w w' := by
  by_cases h1 : N < k ∨ n < 0
  · rw [show joinC k N L n = 1 from if_pos h1, show joinL k N L D n = [] from if_pos h1]
    refine (join_arg hc hx n h1).mono ?_
    rintro e w1 ⟨rfl, e1⟩
    cases e1
    exact ⟨_, rfl, slc_nil _ _, Stay.refl _ _⟩
  · obtain ⟨t, rfl⟩ : ∃ t : Nat, n = t := ⟨n.toNat, by omega⟩
    refine (join_any hc hx (by omega) t (hs (by omega)) (by omega)).mono ?_
    rintro e w1 ⟨s1, ⟨h2, rfl⟩ | ⟨h2, v, rfl, hv⟩⟩
    · have h2' : ((sumN L k : Nat) : Int) < (t : Int) := by omega
      rw [show joinC k N L t = 2 from by unfold joinC; rw [if_neg h1, if_pos h2'], show joinL k N L D t = [] from by unfold joinL; rw [if_neg h1, if_pos h2']]
      exact ⟨_, rfl, slc_nil _ _, s1⟩
    · have h2' : ¬ ((sumN L k : Nat) : Int) < (t : Int) := by omega
      rw [show joinC k N L t = 0 from by unfold joinC; rw [if_neg h1, if_neg h2'], show joinL k N L D t = lf t (fun i => (catF L D k).getD i 0) from by unfold joinL; rw [if_neg h1, if_neg h2']; rfl]
      exact ⟨_, rfl, hv.mono (fun _ x => x.elim), s1⟩
theorem rjoin_all (w : World) (k m N : Nat) (x : Value) (L : Nat → Nat) (D : Nat → Nat → UInt8) (hx : SM (fun _ => False) w x N L D) (n : Int) (hkm : k + m ≤ 32) (hs : k ≤ N → sumN L k ≤ 140737488355327) (hn : n ≤ 9223372036854775807) :
    Calls Tryd.prog 29 #[codeV k m, x, .int .i64 n] w fun e w' => ∃ v, e = .returned (.tuple #[v, .int .i64 (joinC k N L n : Int)]) ∧ SSlc (fun _ => False) w' v (joinL k N L D n) ∧ Stay (fun _ => False) w w' := by
  by_cases h1 : N < k ∨ n < 0
  · rw [show joinC k N L n = 1 from if_pos h1, show joinL k N L D n = [] from if_pos h1]
    refine (rjoin_arg w k m N x L D n hx h1).mono ?_
    rintro e w1 ⟨rfl, s1⟩
    exact ⟨_, rfl, slc_nil _ _, s1⟩
  · obtain ⟨t, rfl⟩ : ∃ t : Nat, n = t := ⟨n.toNat, by omega⟩
    refine (rjoin_any w k m N t x L D hx (by omega) hkm (hs (by omega)) (by omega)).mono ?_
    rintro e w1 ⟨s1, ⟨h2, rfl⟩ | ⟨h2, v, rfl, hv⟩⟩
    · have h2' : ((sumN L k : Nat) : Int) < (t : Int) := by omega
      rw [show joinC k N L t = 2 from by unfold joinC; rw [if_neg h1, if_pos h2'], show joinL k N L D t = [] from by unfold joinL; rw [if_neg h1, if_pos h2']]
      exact ⟨_, rfl, slc_nil _ _, s1⟩
    · have h2' : ¬ ((sumN L k : Nat) : Int) < (t : Int) := by omega
      rw [show joinC k N L t = 0 from by unfold joinC; rw [if_neg h1, if_neg h2'], show joinL k N L D t = lf t (fun i => (catF L D k).getD i 0) from by unfold joinL; rw [if_neg h1, if_neg h2']; rfl]
      exact ⟨_, rfl, hv.mono (fun _ x => x.elim), s1⟩

theorem join_back {w : World} {c g k m l : Nat} {x : Value} {q : Nat → UInt8} (hc : Cd w c g k m) (hx : SM (fun _ => False) w x k (fun _ => lenS l k) (splitF l (lenS l k) q)) (hl : l ≤ 3000) :
    Calls Tryd.prog 15 #[.pointer (some ⟨c, 0, none⟩), x, .int .i64 (l : Int)] w fun e w' => ∃ v, e = .returned (.tuple #[v, .nilIface]) ∧ SSlc (fun _ => False) w' v (lf l q) ∧ Stay (fun _ => False) w w' := by
  have h1 := hc.k1
  have h2 := hc.km
  have h3 : lenS l k ≤ 3032 := Nat.le_trans (Nat.div_le_self _ _) (by omega)
  have h4 : k * lenS l k ≤ 32 * 3032 := Nat.mul_le_mul (by omega) h3
  have h5 := lenS_ge (l := l) h1
  have h6 := sumN_const (lenS l k) k
  refine (join_any hc hx (Nat.le_refl _) l (by rw [h6]; omega) (by omega)).mono ?_
  rintro e w1 ⟨s1, ⟨hb, _⟩ | ⟨_, v, rfl, hv⟩⟩
  · rw [h6] at hb; omega
  · rw [join_split h1 q] at hv
    exact ⟨v, rfl, hv.mono (fun _ x => x.elim), s1⟩

theorem sm_tail {w : World} {b o n c0 : Nat} {L : Nat → Nat} {D : Nat → Nat → UInt8} (h : SM (fun _ => False) w (.slice (some ⟨b, o, none⟩) n c0) n L D) (hn : 0 < n) :
    SM (fun _ => False) w (.slice (if c0 = 1 then some (⟨b, o, none⟩ : Addr) else some ⟨b, o + 1, none⟩) (n - 1) (c0 - 1)) (n - 1) (fun i => L (i + 1)) (fun i => D (i + 1)) := by
  obtain ⟨a1, c1, e, h1, h2, h3⟩ := h
  cases e
  obtain ⟨b', o', e, h3⟩ := h3 (by omega)
  cases e
  refine ⟨_, _, rfl, by omega, by omega, fun h0 => ⟨b, o + 1, by rw [if_neg (by omega)], fun i hi => ?_⟩⟩
  obtain ⟨v, k1, k2⟩ := h3 (i + 1) (by omega)
  rw [show o + 1 + i = o + (i + 1) from by omega]
  exact ⟨v, k1, k2⟩

set_option maxHeartbeats 2000000 in
theorem texts_bad_more (w : World) (K M z : Int) (a0 : Option Addr) (n c0 : Nat) (L : Nat → Nat) (D : Nat → Nat → UInt8) (hx : SM (fun _ => False) w (.slice a0 n c0) n L D) (hn : 0 < n) (hL : ∀ i, i < n → L i ≤ 140737488355328) (hK : K ≤ 9223372036854775807) (hM : M ≤ 9223372036854775807) (hg : ErrCell w) (h : K < 1 ∨ M < 0 ∨ 32 - M < K) :
    Calls Tryd.prog 6 #[sizeV K M, .slice a0 n c0, .int .i64 z] w fun e w' => e = .returned (.bool true) ∧ Stay (fun _ => False) w w' := by
  unfold sizeV
  have HG := Lib.hid hg
  clear hg
  have H := Lib.hid h
  clear h
  obtain ⟨b, o, ak, ck, rfl, cR, sR, hlk, hkm⟩ := hx.row hn
  rw [Nat.add_zero] at cR
  have HXP := Lib.hid (sm_tail hx hn)
  obtain ⟨_, _, e0, hnc, hcm, _⟩ := id hx
  cases e0
  have q1 : (0 : Int) < (n : Int) := by omega
  have q2 : (1 : Int) ≤ (n : Int) := by omega
  have q3 : 1 ≤ n := by omega
  have q4 : (n : Int) ≤ (c0 : Int) := by omega
  have SR := Lib.hid sR
  have HL := Lib.hid (show ∀ i, i < n - 1 → L (i + 1) ≤ 140737488355328 from fun i hi => hL (i + 1) (by omega))
  have qL : (L 0 : Int) ≤ 140737488355328 := by have := hL 0 (by omega); omega
  clear hx sR hL
  go_enter Tryd.func6, Tryd.ntmps6
  go_wp2
  have hst : Stay (fun _ => False) w (w.alloc (.cells #[.int .i64 K, .int .i64 M] 23)) := Stay.alloc _ _
  have hsz := Sz.new w K M
  obtain ⟨sa, hsa⟩ : ∃ sa, sa = w.heap.size := ⟨_, rfl⟩
  generalize w.alloc (.cells #[.int .i64 K, .int .i64 M] 23) = w0 at hst hsz ⊢
  simp only [← hsa] at hsz ⊢
  have k1 := ((cR.stay hst).stay (Stay.drew (X := fun _ => False))).now
  go_region_held3 (fun W => W.cell? ⟨b, o, none⟩ = some (.slice ak (L 0) ck)) (first | exact k1 | go_keep) (fail)
  clear k1
  obtain ⟨N, hN⟩ : ∃ N, N = n - 1 := ⟨_, rfl⟩
  obtain ⟨ap, hap⟩ : ∃ ap, ap = (if c0 = 1 then some (⟨b, o, none⟩ : Addr) else some ⟨b, o + 1, none⟩) := ⟨_, rfl⟩
  obtain ⟨cp, hcp⟩ : ∃ cp, cp = c0 - 1 := ⟨_, rfl⟩
  rw [← hap, ← hcp, ← hN]
  rw [← hap, ← hcp, ← hN] at HXP
  rw [← hN] at HL
  have hst := hst.trans (Stay.drew (X := fun _ => False))
  have hsz := hsz.stay0 (Stay.drew (X := fun _ => False))
  generalize w0.drew = w0 at hst hsz ⊢
  clear hap hcp hN cR
  have HSZ := Lib.hid hsz
  have S0 := Lib.hid hst
  have HG0 := Lib.hid (HG.out.stay0 hst)
  have HSA := Lib.hid hsa
  obtain ⟨c0', c1'⟩ := hsz
  clear hst hsa
  go_wp2_with fail
  refine (new_bad w0 K M hM H.out).mono ?_
  rintro e w1 ⟨rfl, e1⟩
  cases e1
  go_wp2_with fail
  refine (rnew_bad w0 K M hK H.out).mono ?_
  rintro e w2' ⟨rfl, s2⟩
  unfold codeV
  clear c0' c1'
  go_wp2_with fail
  have s2 := s2.trans (Stay.alloc w2' (.cells #[.int .i64 0, .int .i64 0] 31))
  generalize w2'.alloc (.cells #[.int .i64 0, .int .i64 0] 31) = w2 at s2 ⊢
  have S2 := Lib.hid s2
  clear s2
  refine (num_errno 1 w2 (HG0.out.stay0 S2.out)).mono ?_
  rintro e w3 ⟨rfl, s3⟩
  have S3 := Lib.hid s3
  clear s3
  go_wp2_with fail
  refine (sure_any w3).mono ?_
  rintro e w5 ⟨rfl, s5⟩
  have S5 := Lib.hid s5
  clear s5
  go_wp2
  try go_ret
  exact ⟨rfl, ((S0.out.trans S2.out).trans S3.out).trans S5.out⟩
set_option maxHeartbeats 2000000 in
theorem texts_long_more (w : World) (k m : Nat) (z : Int) (a0 : Option Addr) (n c0 : Nat) (L : Nat → Nat) (D : Nat → Nat → UInt8) (hx : SM (fun _ => False) w (.slice a0 n c0) n L D) (hn : 0 < n) (hL : ∀ i, i < n → L i ≤ 140737488355328) (hb : longB (n - 1) (fun i => L (i + 1)) = true) (hg : ErrCell w) (h1 : 1 ≤ k) (h2 : k + m ≤ 32) :
    Calls Tryd.prog 6 #[sizeV (k : Int) (m : Int), .slice a0 n c0, .int .i64 z] w fun e w' => e = .returned (.bool true) ∧ Stay (fun _ => False) w w' := by
  unfold sizeV
  have HG := Lib.hid hg
  clear hg
  have H1 := Lib.hid h1; have H2 := Lib.hid h2; clear h1 h2

  obtain ⟨b, o, ak, ck, rfl, cR, sR, hlk, hkm⟩ := hx.row hn
  rw [Nat.add_zero] at cR
  have HXP := Lib.hid (sm_tail hx hn)
  obtain ⟨_, _, e0, hnc, hcm, _⟩ := id hx
  cases e0
  have q1 : (0 : Int) < (n : Int) := by omega
  have q2 : (1 : Int) ≤ (n : Int) := by omega
  have q3 : 1 ≤ n := by omega
  have q4 : (n : Int) ≤ (c0 : Int) := by omega
  have SR := Lib.hid sR
  have HL := Lib.hid (show ∀ i, i < n - 1 → L (i + 1) ≤ 140737488355328 from fun i hi => hL (i + 1) (by omega))
  have qL : (L 0 : Int) ≤ 140737488355328 := by have := hL 0 (by omega); omega
  have HB := Lib.hid (show longB (n - 1) (fun i => L (i + 1)) = true from hb)
  clear hb
  clear hx sR hL
  go_enter Tryd.func6, Tryd.ntmps6
  go_wp2
  have hst : Stay (fun _ => False) w (w.alloc (.cells #[.int .i64 (k : Int), .int .i64 (m : Int)] 23)) := Stay.alloc _ _
  have hsz := Sz.new w (k : Int) (m : Int)
  obtain ⟨sa, hsa⟩ : ∃ sa, sa = w.heap.size := ⟨_, rfl⟩
  generalize w.alloc (.cells #[.int .i64 (k : Int), .int .i64 (m : Int)] 23) = w0 at hst hsz ⊢
  simp only [← hsa] at hsz ⊢
  have k1 := ((cR.stay hst).stay (Stay.drew (X := fun _ => False))).now
  go_region_held3 (fun W => W.cell? ⟨b, o, none⟩ = some (.slice ak (L 0) ck)) (first | exact k1 | go_keep) (fail)
  clear k1
  obtain ⟨N, hN⟩ : ∃ N, N = n - 1 := ⟨_, rfl⟩
  obtain ⟨ap, hap⟩ : ∃ ap, ap = (if c0 = 1 then some (⟨b, o, none⟩ : Addr) else some ⟨b, o + 1, none⟩) := ⟨_, rfl⟩
  obtain ⟨cp, hcp⟩ : ∃ cp, cp = c0 - 1 := ⟨_, rfl⟩
  rw [← hap, ← hcp, ← hN]
  rw [← hap, ← hcp, ← hN] at HXP
  rw [← hN] at HL
  rw [← hN] at HB
  have hst := hst.trans (Stay.drew (X := fun _ => False))
  have hsz := hsz.stay0 (Stay.drew (X := fun _ => False))
  generalize w0.drew = w0 at hst hsz ⊢
  clear hap hcp hN cR
  have HSZ := Lib.hid hsz
  have S0 := Lib.hid hst
  have HG0 := Lib.hid (HG.out.stay0 hst)
  have HSA := Lib.hid hsa
  obtain ⟨c0', c1'⟩ := hsz
  clear hst hsa
  go_wp2_with fail
  refine (new_good w0 k m H1.out H2.out).mono ?_
  rintro e w1 ⟨c, rfl, hcb, hc1, s1⟩
  have S1 := Lib.hid s1
  have C1 := Lib.hid hc1
  have c0' := s1.cell c0' (fun x => x)
  have c1' := s1.cell c1' (fun x => x)
  clear hcb hc1 s1
  go_wp2_with fail
  refine (rnew_good w1 k m H1.out H2.out).mono ?_
  rintro e w2' ⟨rfl, s2⟩
  unfold codeV
  clear c0' c1'
  go_wp2_with fail
  have hcd : (w2'.alloc (.cells #[.int .i64 (k : Int), .int .i64 (m : Int)] 31)).heap[w2'.heap.size]? = some (.cells #[.int .i64 (k : Int), .int .i64 (m : Int)] 31 (0, 0)) := heap_alloc_new w2' _
  have s2 := s2.trans (Stay.alloc w2' (.cells #[.int .i64 (k : Int), .int .i64 (m : Int)] 31))
  obtain ⟨ra, hra⟩ : ∃ ra, ra = w2'.heap.size := ⟨_, rfl⟩
  generalize w2'.alloc (.cells #[.int .i64 (k : Int), .int .i64 (m : Int)] 31) = w2 at hcd s2 ⊢
  simp only [← hra] at hcd ⊢
  clear hra
  have S2 := Lib.hid s2
  have HCD := Lib.hid (show CodeAt w2 ra k m from hcd)
  clear s2 hcd
  have hst2 := (S0.out.trans S1.out).trans S2.out
  have HST := Lib.hid hst2
  clear hst2
  refine (long_any w2 _ N (fun i => L (i + 1)) (fun i => D (i + 1)) (HXP.out.stay HST.out) HL.out).mono ?_
  rintro e w3 ⟨rfl, e3⟩
  cases e3
  rw [HB.out]
  go_wp2_with fail
  refine (num_nil w2).mono ?_
  rintro e w3 ⟨rfl, s3⟩
  have S3 := Lib.hid s3
  clear s3
  go_wp2_with fail
  refine (sure_any w3).mono ?_
  rintro e w5 ⟨rfl, s5⟩
  have S5 := Lib.hid s5
  clear s5
  go_wp2
  try go_ret
  exact ⟨rfl, (HST.out.trans S3.out).trans S5.out⟩
set_option maxHeartbeats 2000000 in
theorem texts_big_more (w : World) (k m : Nat) (z : Int) (a0 : Option Addr) (n c0 : Nat) (L : Nat → Nat) (D : Nat → Nat → UInt8) (hx : SM (fun _ => False) w (.slice a0 n c0) n L D) (hn : 0 < n) (hL : ∀ i, i < n → L i ≤ 140737488355328) (hb : longB (n - 1) (fun i => L (i + 1)) = false) (ht : 3000 < L 0) (hg : ErrCell w) (h1 : 1 ≤ k) (h2 : k + m ≤ 32) :
    Calls Tryd.prog 6 #[sizeV (k : Int) (m : Int), .slice a0 n c0, .int .i64 z] w fun e w' => e = .returned (.bool true) ∧ Stay (fun _ => False) w w' := by
  unfold sizeV
  have HG := Lib.hid hg
  clear hg
  have H1 := Lib.hid h1; have H2 := Lib.hid h2; clear h1 h2

  obtain ⟨b, o, ak, ck, rfl, cR, sR, hlk, hkm⟩ := hx.row hn
  rw [Nat.add_zero] at cR
  have HXP := Lib.hid (sm_tail hx hn)
  obtain ⟨_, _, e0, hnc, hcm, _⟩ := id hx
  cases e0
  have q1 : (0 : Int) < (n : Int) := by omega
  have q2 : (1 : Int) ≤ (n : Int) := by omega
  have q3 : 1 ≤ n := by omega
  have q4 : (n : Int) ≤ (c0 : Int) := by omega
  have SR := Lib.hid sR
  have HL := Lib.hid (show ∀ i, i < n - 1 → L (i + 1) ≤ 140737488355328 from fun i hi => hL (i + 1) (by omega))
  have qL : (L 0 : Int) ≤ 140737488355328 := by have := hL 0 (by omega); omega
  have HB := Lib.hid (show longB (n - 1) (fun i => L (i + 1)) = false from hb)
  have q6 : (3000 : Int) < (L 0 : Int) := by omega
  have q7 : ¬ (L 0 : Int) ≤ 3000 := by omega
  clear hb ht
  clear hx sR hL
  go_enter Tryd.func6, Tryd.ntmps6
  go_wp2
  have hst : Stay (fun _ => False) w (w.alloc (.cells #[.int .i64 (k : Int), .int .i64 (m : Int)] 23)) := Stay.alloc _ _
  have hsz := Sz.new w (k : Int) (m : Int)
  obtain ⟨sa, hsa⟩ : ∃ sa, sa = w.heap.size := ⟨_, rfl⟩
  generalize w.alloc (.cells #[.int .i64 (k : Int), .int .i64 (m : Int)] 23) = w0 at hst hsz ⊢
  simp only [← hsa] at hsz ⊢
  have k1 := ((cR.stay hst).stay (Stay.drew (X := fun _ => False))).now
  go_region_held3 (fun W => W.cell? ⟨b, o, none⟩ = some (.slice ak (L 0) ck)) (first | exact k1 | go_keep) (fail)
  clear k1
  obtain ⟨N, hN⟩ : ∃ N, N = n - 1 := ⟨_, rfl⟩
  obtain ⟨ap, hap⟩ : ∃ ap, ap = (if c0 = 1 then some (⟨b, o, none⟩ : Addr) else some ⟨b, o + 1, none⟩) := ⟨_, rfl⟩
  obtain ⟨cp, hcp⟩ : ∃ cp, cp = c0 - 1 := ⟨_, rfl⟩
  rw [← hap, ← hcp, ← hN]
  rw [← hap, ← hcp, ← hN] at HXP
  rw [← hN] at HL
  rw [← hN] at HB
  have hst := hst.trans (Stay.drew (X := fun _ => False))
  have hsz := hsz.stay0 (Stay.drew (X := fun _ => False))
  generalize w0.drew = w0 at hst hsz ⊢
  clear hap hcp hN cR
  have HSZ := Lib.hid hsz
  have S0 := Lib.hid hst
  have HG0 := Lib.hid (HG.out.stay0 hst)
  have HSA := Lib.hid hsa
  obtain ⟨c0', c1'⟩ := hsz
  clear hst hsa
  go_wp2_with fail
  refine (new_good w0 k m H1.out H2.out).mono ?_
  rintro e w1 ⟨c, rfl, hcb, hc1, s1⟩
  have S1 := Lib.hid s1
  have C1 := Lib.hid hc1
  have c0' := s1.cell c0' (fun x => x)
  have c1' := s1.cell c1' (fun x => x)
  clear hcb hc1 s1
  go_wp2_with fail
  refine (rnew_good w1 k m H1.out H2.out).mono ?_
  rintro e w2' ⟨rfl, s2⟩
  unfold codeV
  clear c0' c1'
  go_wp2_with fail
  have hcd : (w2'.alloc (.cells #[.int .i64 (k : Int), .int .i64 (m : Int)] 31)).heap[w2'.heap.size]? = some (.cells #[.int .i64 (k : Int), .int .i64 (m : Int)] 31 (0, 0)) := heap_alloc_new w2' _
  have s2 := s2.trans (Stay.alloc w2' (.cells #[.int .i64 (k : Int), .int .i64 (m : Int)] 31))
  obtain ⟨ra, hra⟩ : ∃ ra, ra = w2'.heap.size := ⟨_, rfl⟩
  generalize w2'.alloc (.cells #[.int .i64 (k : Int), .int .i64 (m : Int)] 31) = w2 at hcd s2 ⊢
  simp only [← hra] at hcd ⊢
  clear hra
  have S2 := Lib.hid s2
  have HCD := Lib.hid (show CodeAt w2 ra k m from hcd)
  clear s2 hcd
  have hst2 := (S0.out.trans S1.out).trans S2.out
  have HST := Lib.hid hst2
  clear hst2
  refine (long_any w2 _ N (fun i => L (i + 1)) (fun i => D (i + 1)) (HXP.out.stay HST.out) HL.out).mono ?_
  rintro e w3 ⟨rfl, e3⟩
  cases e3
  rw [HB.out]
  go_wp2_with fail
  refine (num_nil w2).mono ?_
  rintro e w3 ⟨rfl, s3⟩
  have S3 := Lib.hid s3
  clear s3
  go_wp2_with fail
  refine (sure_any w3).mono ?_
  rintro e w5 ⟨rfl, s5⟩
  have S5 := Lib.hid s5
  clear s5
  go_wp2
  try go_ret
  exact ⟨rfl, (HST.out.trans S3.out).trans S5.out⟩
set_option maxHeartbeats 2000000 in
theorem texts_good_more (w : World) (k m : Nat) (z : Int) (a0 : Option Addr) (n c0 : Nat) (L : Nat → Nat) (D : Nat → Nat → UInt8) (hx : SM (fun _ => False) w (.slice a0 n c0) n L D) (hn : 0 < n) (hL : ∀ i, i < n → L i ≤ 140737488355328) (hz : z ≤ 9223372036854775807) (hb : longB (n - 1) (fun i => L (i + 1)) = false) (ht : L 0 ≤ 3000) (hg : ErrCell w) (h1 : 1 ≤ k) (h2 : k + m ≤ 32) :
    Calls Tryd.prog 6 #[sizeV (k : Int) (m : Int), .slice a0 n c0, .int .i64 z] w fun e w' => e = .returned (.bool true) ∧ Stay (fun _ => False) w w' := by
  unfold sizeV
  have HG := Lib.hid hg
  clear hg
  have H1 := Lib.hid h1; have H2 := Lib.hid h2; clear h1 h2

  obtain ⟨b, o, ak, ck, rfl, cR, sR, hlk, hkm⟩ := hx.row hn
  rw [Nat.add_zero] at cR
  have HXP := Lib.hid (sm_tail hx hn)
  obtain ⟨_, _, e0, hnc, hcm, _⟩ := id hx
  cases e0
  have q1 : (0 : Int) < (n : Int) := by omega
  have q2 : (1 : Int) ≤ (n : Int) := by omega
  have q3 : 1 ≤ n := by omega
  have q4 : (n : Int) ≤ (c0 : Int) := by omega
  have SR := Lib.hid sR
  have HL := Lib.hid (show ∀ i, i < n - 1 → L (i + 1) ≤ 140737488355328 from fun i hi => hL (i + 1) (by omega))
  have qL : (L 0 : Int) ≤ 140737488355328 := by have := hL 0 (by omega); omega
  have HB := Lib.hid (show longB (n - 1) (fun i => L (i + 1)) = false from hb)
  have HTX := Lib.hid ht
  have HZ := Lib.hid hz
  have q6 : (L 0 : Int) ≤ 3000 := by omega
  have q7 : ¬ (3000 : Int) < (L 0 : Int) := by omega
  clear hb ht hz
  clear hx sR hL
  go_enter Tryd.func6, Tryd.ntmps6
  go_wp2
  have hst : Stay (fun _ => False) w (w.alloc (.cells #[.int .i64 (k : Int), .int .i64 (m : Int)] 23)) := Stay.alloc _ _
  have hsz := Sz.new w (k : Int) (m : Int)
  obtain ⟨sa, hsa⟩ : ∃ sa, sa = w.heap.size := ⟨_, rfl⟩
  generalize w.alloc (.cells #[.int .i64 (k : Int), .int .i64 (m : Int)] 23) = w0 at hst hsz ⊢
  simp only [← hsa] at hsz ⊢
  have k1 := ((cR.stay hst).stay (Stay.drew (X := fun _ => False))).now
  go_region_held3 (fun W => W.cell? ⟨b, o, none⟩ = some (.slice ak (L 0) ck)) (first | exact k1 | go_keep) (fail)
  clear k1
  obtain ⟨N, hN⟩ : ∃ N, N = n - 1 := ⟨_, rfl⟩
  obtain ⟨ap, hap⟩ : ∃ ap, ap = (if c0 = 1 then some (⟨b, o, none⟩ : Addr) else some ⟨b, o + 1, none⟩) := ⟨_, rfl⟩
  obtain ⟨cp, hcp⟩ : ∃ cp, cp = c0 - 1 := ⟨_, rfl⟩
  rw [← hap, ← hcp, ← hN]
  rw [← hap, ← hcp, ← hN] at HXP
  rw [← hN] at HL
  rw [← hN] at HB
  have hst := hst.trans (Stay.drew (X := fun _ => False))
  have hsz := hsz.stay0 (Stay.drew (X := fun _ => False))
  generalize w0.drew = w0 at hst hsz ⊢
  clear hap hcp hN cR
  have HSZ := Lib.hid hsz
  have S0 := Lib.hid hst
  have HG0 := Lib.hid (HG.out.stay0 hst)
  have HSA := Lib.hid hsa
  obtain ⟨c0', c1'⟩ := hsz
  clear hst hsa
  go_wp2_with fail
  refine (new_good w0 k m H1.out H2.out).mono ?_
  rintro e w1 ⟨c, rfl, hcb, hc1, s1⟩
  have S1 := Lib.hid s1
  have C1 := Lib.hid hc1
  have c0' := s1.cell c0' (fun x => x)
  have c1' := s1.cell c1' (fun x => x)
  clear hcb hc1 s1
  go_wp2_with fail
  refine (rnew_good w1 k m H1.out H2.out).mono ?_
  rintro e w2' ⟨rfl, s2⟩
  unfold codeV
  clear c0' c1'
  go_wp2_with fail
  have hcd : (w2'.alloc (.cells #[.int .i64 (k : Int), .int .i64 (m : Int)] 31)).heap[w2'.heap.size]? = some (.cells #[.int .i64 (k : Int), .int .i64 (m : Int)] 31 (0, 0)) := heap_alloc_new w2' _
  have s2 := s2.trans (Stay.alloc w2' (.cells #[.int .i64 (k : Int), .int .i64 (m : Int)] 31))
  obtain ⟨ra, hra⟩ : ∃ ra, ra = w2'.heap.size := ⟨_, rfl⟩
  generalize w2'.alloc (.cells #[.int .i64 (k : Int), .int .i64 (m : Int)] 31) = w2 at hcd s2 ⊢
  simp only [← hra] at hcd ⊢
  clear hra
  have S2 := Lib.hid s2
  have HCD := Lib.hid (show CodeAt w2 ra k m from hcd)
  clear s2 hcd
  have hst2 := (S0.out.trans S1.out).trans S2.out
  have HST := Lib.hid hst2
  clear hst2
  refine (long_any w2 _ N (fun i => L (i + 1)) (fun i => D (i + 1)) (HXP.out.stay HST.out) HL.out).mono ?_
  rintro e w3 ⟨rfl, e3⟩
  cases e3
  rw [HB.out]
  have HN := Lib.hid (longB_false HB.out)
  go_wp2_with fail
  refine (twins_any w2 _ N (fun i => L (i + 1)) (fun i => D (i + 1)) (HXP.out.stay HST.out) (by have := HN.out.1; omega) HL.out).mono ?_
  rintro e w3 ⟨vt, rfl, ht, s3⟩
  have HT := Lib.hid (ht.mono (Y := fun _ => False) (fun _ x => x.elim))
  have S3 := Lib.hid s3
  clear ht s3
  go_wp2_with fail
  have HSUM := Lib.hid (show k ≤ N → sumN (fun i => L (i + 1)) k ≤ 4000 from fun h => Nat.le_trans (sumN_le _ h) HN.out.2)
  refine (join_all (C1.out.stay0 (S2.out.trans S3.out)) HT.out z (fun h => by have := HSUM.out h; omega) HZ.out).mono ?_
  rintro e w4 ⟨vx, rfl, hx4, s4⟩
  have HX4 := Lib.hid hx4
  have S4 := Lib.hid s4
  clear hx4 s4
  have hst4 := (HST.out.trans S3.out).trans S4.out
  have HST4 := Lib.hid hst4
  have hcd := (HCD.out.stay0 S3.out).stay0 S4.out
  have HCD4 := Lib.hid hcd
  have r0 := hcd.c0
  have r1 := hcd.c1
  clear hst4 hcd
  go_wp2_with fail
  clear r0 r1
  refine (rjoin_all w4 k m N _ (fun i => L (i + 1)) (fun i => D (i + 1)) (HXP.out.stay HST4.out) z H2.out (fun h => by have := HSUM.out h; omega) HZ.out).mono ?_
  rintro e w5 ⟨vy, rfl, hy5, s5⟩
  have HY5 := Lib.hid hy5
  have S5 := Lib.hid s5
  clear hy5 s5
  have HST5 := Lib.hid (HST4.out.trans S5.out)
  go_wp2_with fail
  refine (split_any w5 c w0.heap.size k m (L 0) _ (D 0) (C1.out.stay0 (((S2.out.trans S3.out).trans S4.out).trans S5.out)) (SR.out.stay HST5.out) (by have := HTX.out; omega)).mono ?_
  rintro e w6 ⟨vp, rfl, hp6, s6⟩
  have HP6 := Lib.hid (hp6.mono (Y := fun _ => False) (fun _ x => x.elim))
  have S6 := Lib.hid s6
  clear hp6 s6
  go_wp2_with fail
  refine (join_back (C1.out.stay0 ((((S2.out.trans S3.out).trans S4.out).trans S5.out).trans S6.out)) HP6.out HTX.out).mono ?_
  rintro e w7 ⟨vb, rfl, hb7, s7⟩
  have S7 := Lib.hid s7
  have S57 := Lib.hid (S6.out.trans s7)
  obtain ⟨ax, cx, e1, _⟩ := (id HX4.out).form
  obtain ⟨ay, cy, e2, _⟩ := (id HY5.out).form
  obtain ⟨ab, cb, e3, _⟩ := hb7.form
  rw [length_lf] at e3
  subst e1
  subst e2
  subst e3
  have y1 := conv_slc ((HX4.out.stay S5.out).stay S57.out).now
  have y2 := conv_slc (HY5.out.stay S57.out).now
  have HB7 := Lib.hid hb7
  clear hb7 s7
  unfold strV at y1 y2
  generalize (⟨(joinL k N (fun i => L (i + 1)) (fun i => D (i + 1)) z).toArray⟩ : ByteArray) = ba at y1 y2
  have HG7 := Lib.hid (HG.out.stay0 (HST5.out.trans S57.out))
  go_wp2_with fail
  clear y1 y2
  refine (num_err _ w7 HG7.out).mono ?_
  rintro e w8 ⟨rfl, s8⟩
  have S8 := Lib.hid s8
  clear s8
  have hcd := ((HCD4.out.stay0 S5.out).stay0 S57.out).stay0 S8.out
  have r0 := hcd.c0
  have r1 := hcd.c1
  clear hcd
  go_wp2_with fail
  clear r0 r1
  have HST8 := Lib.hid ((HST5.out.trans S57.out).trans S8.out)
  refine (rsplit_any w8 k m (L 0) _ (D 0) (SR.out.stay HST8.out) H1.out H2.out (by have := HTX.out; omega)).mono ?_
  rintro e w9 ⟨vr, rfl, hr9, s9⟩
  have S9 := Lib.hid s9
  have HR9 := Lib.hid (hr9.mono (Y := fun _ => False) (fun _ x => x.elim))
  clear s9 hr9
  go_wp2_with fail
  refine (lists_same w9 _ _ k _ _ (((HP6.out.stay S7.out).stay S8.out).stay S9.out) HR9.out).mono ?_
  rintro e w10 ⟨rfl, s10⟩
  have S10 := Lib.hid s10
  clear s10
  have HST10 := Lib.hid ((HST8.out.trans S9.out).trans S10.out)
  have y1 := conv_slc (((HB7.out.stay S8.out).stay S9.out).stay S10.out).now
  have y2 := conv_slc (SR.out.stay HST10.out).now
  unfold strV at y1 y2
  generalize (⟨(lf (L 0) (D 0)).toArray⟩ : ByteArray) = ba2 at y1 y2
  go_wp2_with fail
  clear y1 y2
  refine (sure_any w10).mono ?_
  rintro e w11 ⟨rfl, s11⟩
  have S11 := Lib.hid s11
  clear s11
  go_wp2
  try go_ret
  exact ⟨rfl, HST10.out.trans S11.out⟩
set_option maxHeartbeats 2000000 in
theorem texts_bad_none (w : World) (K M z : Int) (a0 : Option Addr) (c0 : Nat) (L : Nat → Nat) (D : Nat → Nat → UInt8) (hx : SM (fun _ => False) w (.slice a0 0 c0) 0 L D) (hL : ∀ i, i < 0 → L i ≤ 140737488355328) (hK : K ≤ 9223372036854775807) (hM : M ≤ 9223372036854775807) (hg : ErrCell w) (h : K < 1 ∨ M < 0 ∨ 32 - M < K) :
    Calls Tryd.prog 6 #[sizeV K M, .slice a0 0 c0, .int .i64 z] w fun e w' => e = .returned (.bool true) ∧ Stay (fun _ => False) w w' := by
  unfold sizeV
  have HG := Lib.hid hg
  clear hg
  have H := Lib.hid h
  clear h
  have HXP := Lib.hid hx
  have HL := Lib.hid hL
  have SR := Lib.hid (slc_none (fun _ => False) w (fun _ => 0))
  clear hx hL
  go_enter Tryd.func6, Tryd.ntmps6
  go_wp2_with fail
  have hst : Stay (fun _ => False) w (w.alloc (.cells #[.int .i64 K, .int .i64 M] 23)) := Stay.alloc _ _
  have hsz := Sz.new w K M
  obtain ⟨sa, hsa⟩ : ∃ sa, sa = w.heap.size := ⟨_, rfl⟩
  generalize w.alloc (.cells #[.int .i64 K, .int .i64 M] 23) = w0 at hst hsz ⊢
  simp only [← hsa] at hsz ⊢
  have HSZ := Lib.hid hsz
  have S0 := Lib.hid hst
  have HG0 := Lib.hid (HG.out.stay0 hst)
  have HSA := Lib.hid hsa
  obtain ⟨c0', c1'⟩ := hsz
  clear hst hsa
  refine (new_bad w0 K M hM H.out).mono ?_
  rintro e w1 ⟨rfl, e1⟩
  cases e1
  go_wp2_with fail
  refine (rnew_bad w0 K M hK H.out).mono ?_
  rintro e w2' ⟨rfl, s2⟩
  unfold codeV
  clear c0' c1'
  go_wp2_with fail
  have s2 := s2.trans (Stay.alloc w2' (.cells #[.int .i64 0, .int .i64 0] 31))
  generalize w2'.alloc (.cells #[.int .i64 0, .int .i64 0] 31) = w2 at s2 ⊢
  have S2 := Lib.hid s2
  clear s2
  refine (num_errno 1 w2 (HG0.out.stay0 S2.out)).mono ?_
  rintro e w3 ⟨rfl, s3⟩
  have S3 := Lib.hid s3
  clear s3
  go_wp2_with fail
  refine (sure_any w3).mono ?_
  rintro e w5 ⟨rfl, s5⟩
  have S5 := Lib.hid s5
  clear s5
  go_wp2
  try go_ret
  exact ⟨rfl, ((S0.out.trans S2.out).trans S3.out).trans S5.out⟩
set_option maxHeartbeats 2000000 in
theorem texts_good_none (w : World) (k m : Nat) (z : Int) (a0 : Option Addr) (c0 : Nat) (L : Nat → Nat) (D : Nat → Nat → UInt8) (hx : SM (fun _ => False) w (.slice a0 0 c0) 0 L D) (hL : ∀ i, i < 0 → L i ≤ 140737488355328) (hz : z ≤ 9223372036854775807) (hb : longB 0 L = false) (hg : ErrCell w) (h1 : 1 ≤ k) (h2 : k + m ≤ 32) :
    Calls Tryd.prog 6 #[sizeV (k : Int) (m : Int), .slice a0 0 c0, .int .i64 z] w fun e w' => e = .returned (.bool true) ∧ Stay (fun _ => False) w w' := by
  unfold sizeV
  have HG := Lib.hid hg
  clear hg
  have H1 := Lib.hid h1; have H2 := Lib.hid h2; clear h1 h2

  have HXP := Lib.hid hx
  have HL := Lib.hid hL
  have SR := Lib.hid (slc_none (fun _ => False) w (fun _ => 0))
  have HB := Lib.hid hb
  have HTX := Lib.hid (show 0 ≤ 3000 by decide)
  have HZ := Lib.hid hz
  clear hb hz
  clear hx hL
  go_enter Tryd.func6, Tryd.ntmps6
  go_wp2_with fail
  have hst : Stay (fun _ => False) w (w.alloc (.cells #[.int .i64 (k : Int), .int .i64 (m : Int)] 23)) := Stay.alloc _ _
  have hsz := Sz.new w (k : Int) (m : Int)
  obtain ⟨sa, hsa⟩ : ∃ sa, sa = w.heap.size := ⟨_, rfl⟩
  generalize w.alloc (.cells #[.int .i64 (k : Int), .int .i64 (m : Int)] 23) = w0 at hst hsz ⊢
  simp only [← hsa] at hsz ⊢
  have HSZ := Lib.hid hsz
  have S0 := Lib.hid hst
  have HG0 := Lib.hid (HG.out.stay0 hst)
  have HSA := Lib.hid hsa
  obtain ⟨c0', c1'⟩ := hsz
  clear hst hsa
  refine (new_good w0 k m H1.out H2.out).mono ?_
  rintro e w1 ⟨c, rfl, hcb, hc1, s1⟩
  have S1 := Lib.hid s1
  have C1 := Lib.hid hc1
  have c0' := s1.cell c0' (fun x => x)
  have c1' := s1.cell c1' (fun x => x)
  clear hcb hc1 s1
  go_wp2_with fail
  refine (rnew_good w1 k m H1.out H2.out).mono ?_
  rintro e w2' ⟨rfl, s2⟩
  unfold codeV
  clear c0' c1'
  go_wp2_with fail
  have hcd : (w2'.alloc (.cells #[.int .i64 (k : Int), .int .i64 (m : Int)] 31)).heap[w2'.heap.size]? = some (.cells #[.int .i64 (k : Int), .int .i64 (m : Int)] 31 (0, 0)) := heap_alloc_new w2' _
  have s2 := s2.trans (Stay.alloc w2' (.cells #[.int .i64 (k : Int), .int .i64 (m : Int)] 31))
  obtain ⟨ra, hra⟩ : ∃ ra, ra = w2'.heap.size := ⟨_, rfl⟩
  generalize w2'.alloc (.cells #[.int .i64 (k : Int), .int .i64 (m : Int)] 31) = w2 at hcd s2 ⊢
  simp only [← hra] at hcd ⊢
  clear hra
  have S2 := Lib.hid s2
  have HCD := Lib.hid (show CodeAt w2 ra k m from hcd)
  clear s2 hcd
  have hst2 := (S0.out.trans S1.out).trans S2.out
  have HST := Lib.hid hst2
  clear hst2
  refine (long_any w2 _ 0 L D (HXP.out.stay HST.out) HL.out).mono ?_
  rintro e w3 ⟨rfl, e3⟩
  cases e3
  rw [HB.out]
  have HN := Lib.hid (longB_false HB.out)
  go_wp2_with fail
  refine (twins_any w2 _ 0 L D (HXP.out.stay HST.out) (by have := HN.out.1; omega) HL.out).mono ?_
  rintro e w3 ⟨vt, rfl, ht, s3⟩
  have HT := Lib.hid (ht.mono (Y := fun _ => False) (fun _ x => x.elim))
  have S3 := Lib.hid s3
  clear ht s3
  go_wp2_with fail
  have HSUM := Lib.hid (show k ≤ 0 → sumN L k ≤ 4000 from fun h => Nat.le_trans (sumN_le _ h) HN.out.2)
  refine (join_all (C1.out.stay0 (S2.out.trans S3.out)) HT.out z (fun h => by have := HSUM.out h; omega) HZ.out).mono ?_
  rintro e w4 ⟨vx, rfl, hx4, s4⟩
  have HX4 := Lib.hid hx4
  have S4 := Lib.hid s4
  clear hx4 s4
  have hst4 := (HST.out.trans S3.out).trans S4.out
  have HST4 := Lib.hid hst4
  have hcd := (HCD.out.stay0 S3.out).stay0 S4.out
  have HCD4 := Lib.hid hcd
  have r0 := hcd.c0
  have r1 := hcd.c1
  clear hst4 hcd
  go_wp2_with fail
  clear r0 r1
  refine (rjoin_all w4 k m 0 _ L D (HXP.out.stay HST4.out) z H2.out (fun h => by have := HSUM.out h; omega) HZ.out).mono ?_
  rintro e w5 ⟨vy, rfl, hy5, s5⟩
  have HY5 := Lib.hid hy5
  have S5 := Lib.hid s5
  clear hy5 s5
  have HST5 := Lib.hid (HST4.out.trans S5.out)
  go_wp2_with fail
  refine (split_any w5 c w0.heap.size k m 0 _ (fun _ => 0) (C1.out.stay0 (((S2.out.trans S3.out).trans S4.out).trans S5.out)) (SR.out.stay HST5.out) (by have := HTX.out; omega)).mono ?_
  rintro e w6 ⟨vp, rfl, hp6, s6⟩
  have HP6 := Lib.hid (hp6.mono (Y := fun _ => False) (fun _ x => x.elim))
  have S6 := Lib.hid s6
  clear hp6 s6
  go_wp2_with fail
  refine (join_back (C1.out.stay0 ((((S2.out.trans S3.out).trans S4.out).trans S5.out).trans S6.out)) HP6.out HTX.out).mono ?_
  rintro e w7 ⟨vb, rfl, hb7, s7⟩
  have S7 := Lib.hid s7
  have S57 := Lib.hid (S6.out.trans s7)
  obtain ⟨ax, cx, e1, _⟩ := (id HX4.out).form
  obtain ⟨ay, cy, e2, _⟩ := (id HY5.out).form
  obtain ⟨ab, cb, e3, _⟩ := hb7.form
  rw [length_lf] at e3
  subst e1
  subst e2
  subst e3
  have y1 := conv_slc ((HX4.out.stay S5.out).stay S57.out).now
  have y2 := conv_slc (HY5.out.stay S57.out).now
  have HB7 := Lib.hid hb7
  clear hb7 s7
  unfold strV at y1 y2
  generalize (⟨(joinL k 0 L D z).toArray⟩ : ByteArray) = ba at y1 y2
  have HG7 := Lib.hid (HG.out.stay0 (HST5.out.trans S57.out))
  go_wp2_with fail
  clear y1 y2
  refine (num_err _ w7 HG7.out).mono ?_
  rintro e w8 ⟨rfl, s8⟩
  have S8 := Lib.hid s8
  clear s8
  have hcd := ((HCD4.out.stay0 S5.out).stay0 S57.out).stay0 S8.out
  have r0 := hcd.c0
  have r1 := hcd.c1
  clear hcd
  go_wp2_with fail
  clear r0 r1
  have HST8 := Lib.hid ((HST5.out.trans S57.out).trans S8.out)
  refine (rsplit_any w8 k m 0 _ (fun _ => 0) (SR.out.stay HST8.out) H1.out H2.out (by have := HTX.out; omega)).mono ?_
  rintro e w9 ⟨vr, rfl, hr9, s9⟩
  have S9 := Lib.hid s9
  have HR9 := Lib.hid (hr9.mono (Y := fun _ => False) (fun _ x => x.elim))
  clear s9 hr9
  go_wp2_with fail
  refine (lists_same w9 _ _ k _ _ (((HP6.out.stay S7.out).stay S8.out).stay S9.out) HR9.out).mono ?_
  rintro e w10 ⟨rfl, s10⟩
  have S10 := Lib.hid s10
  clear s10
  have HST10 := Lib.hid ((HST8.out.trans S9.out).trans S10.out)
  have y1 := conv_slc (((HB7.out.stay S8.out).stay S9.out).stay S10.out).now
  have y2 := conv_slc (SR.out.stay HST10.out).now
  unfold strV at y1 y2
  generalize (⟨(lf 0 (fun _ => 0)).toArray⟩ : ByteArray) = ba2 at y1 y2
  go_wp2_with fail
  clear y1 y2
  refine (sure_any w10).mono ?_
  rintro e w11 ⟨rfl, s11⟩
  have S11 := Lib.hid s11
  clear s11
  go_wp2
  try go_ret
  exact ⟨rfl, HST10.out.trans S11.out⟩
theorem texts_walk (w : World) (K M' z : Int) (a0 : Option Addr) (n c0 : Nat) (L : Nat → Nat) (D : Nat → Nat → UInt8) (hx : SM (fun _ => False) w (.slice a0 n c0) n L D) (hL : ∀ i, i < n → L i ≤ 140737488355328) (hz : z ≤ 9223372036854775807) (hK : K ≤ 9223372036854775807) (hM : M' ≤ 9223372036854775807) (hg : ErrCell w) :
    Calls Tryd.prog 6 #[sizeV K M', .slice a0 n c0, .int .i64 z] w fun e w' => e = .returned (.bool true) ∧ Stay (fun _ => False) w w' := by
  by_cases hn : 0 < n
  · by_cases h : K < 1 ∨ M' < 0 ∨ 32 - M' < K
    · exact texts_bad_more w K M' z _ _ _ L D hx hn hL hK hM hg h
    · obtain ⟨k, m, rfl, rfl, h1, h2⟩ := size_any h
      by_cases hb : longB (n - 1) (fun i => L (i + 1)) = true
      · exact texts_long_more w k m z _ _ _ L D hx hn hL hb hg h1 h2
      · have hb : longB (n - 1) (fun i => L (i + 1)) = false := by simpa using hb
        by_cases ht : L 0 ≤ 3000
        · exact texts_good_more w k m z _ _ _ L D hx hn hL hz hb ht hg h1 h2
        · exact texts_big_more w k m z _ _ _ L D hx hn hL hb (by omega) hg h1 h2
  · obtain rfl : n = 0 := by omega
    by_cases h : K < 1 ∨ M' < 0 ∨ 32 - M' < K
    · exact texts_bad_none w K M' z _ _ L D hx hL hK hM hg h
    · obtain ⟨k, m, rfl, rfl, h1, h2⟩ := size_any h
      exact texts_good_none w k m z _ _ L D hx hL hz (longB_of (by omega) (by show 0 ≤ 4000; omega)) hg h1 h2
end Go.Proofs.YtaldpfamgfchoaaDoor.Rs
