/-
  delta's laws: DeltaParts, walked.
-/
import Derived.Test.YtnlknnhibnfhcaaDeW
namespace Go.Proofs.Ytnlknnhibnfhcaa.De
open Go.RowKit Pk
set_option maxRecDepth 100000

theorem parts_at {f : Pt → List UInt8} : ∀ (L : List Pt) (b : List UInt8) (k : Nat) (q : Pt), L.flatMap f = b → L[k]? = some q →
    (b.drop ((L.take k).flatMap f).length).take (f q).length = f q ∧ ((L.take k).flatMap f).length + (f q).length ≤ b.length ∧ ((L.take (k + 1)).flatMap f).length = ((L.take k).flatMap f).length + (f q).length := by
  intro L b k q h hq
  have e1 : L = L.take k ++ q :: L.drop (k + 1) := by rw [← drop_at hq, List.take_append_drop]
  have e2 : b = (L.take k).flatMap f ++ (f q ++ (L.drop (k + 1)).flatMap f) := by
    rw [← h]
    conv => lhs; rw [e1]
    rw [List.flatMap_append, List.flatMap_cons]
  refine ⟨?_, ?_, ?_⟩
  · rw [e2, List.drop_left' rfl, List.take_left' rfl]
  · conv => rhs; rw [e2]
    simp only [List.length_append]
    omega
  · rw [List.take_add_one, hq, List.flatMap_append, List.length_append]
    simp
theorem apart_prev : ∀ (L : List Pt) (told : Bool) (k : Nat) (p q : Pt), Apart told L → L[k]? = some p → L[k + 1]? = some q → q.cp = false → p.cp = true
  | [], _, _, _, _, _, h, _, _ => by simp at h
  | x :: r, told, 0, p, q, ha, h1, h2, hq => by
    cases r with
    | nil => simp at h2
    | cons y s =>
      simp at h1 h2
      subst h1 h2
      have := ha.2.1
      cases hx : x.cp with
      | true => rfl
      | false =>
        have h3 := this (by rw [hx]; rfl)
        rw [hq] at h3
        cases h3
  | x :: r, told, k + 1, p, q, ha, h1, h2, hq => apart_prev r _ k p q ha.2 (by simpa using h1) (by simpa using h2) hq

set_option maxHeartbeats 4000000 in
theorem parts_walk (w : World) (a b : List UInt8) (ha : a.length = 64) (hb : b.length = 64) :
    Calls Try.prog 5 #[arrV a, arrV b] w fun e w' => e = .returned (.bool true) ∧ Stay (fun _ => False) w w' := by
  have H1 := Lib.hid ((BAt.new w 23 a).stay0 (Stay.alloc _ (.cells (cellsB b).toArray 23)))
  have H2 := Lib.hid (BAt.new (w.alloc (.cells (cellsB a).toArray 23)) 23 b)
  have HS := Lib.hid ((Stay.alloc (X := fun _ => False) w (.cells (cellsB a).toArray 23)).trans (Stay.alloc _ (.cells (cellsB b).toArray 23)))
  have HA := Lib.hid ha
  have HB := Lib.hid hb
  have hm := made_ops ha hb
  have hol := ops_len ha hb
  have his : (opsN a b).flatMap (ptBytes a) = b := by rw [hm.is, List.take_of_length_le (by omega)]
  have HG := Lib.hid hm.good
  have HAP := Lib.hid hm.apart
  have HIS := Lib.hid his
  have HOL := Lib.hid hol.1
  obtain ⟨N, hN⟩ : ∃ N, N = opsN a b := ⟨_, rfl⟩
  rw [← hN] at HG HAP HIS HOL
  have HN := Lib.hid hN
  clear ha hb hm hol his hN
  unfold arrV
  go_enter Try.func5, Try.ntmps5
  go_wp2_with (first
    | (refine arr_64.load rfl (.tmp 2) rfl w.heap.size rfl a HA.out H1.out ?_)
    | (refine arr_64.load rfl (.tmp 3) rfl (w.heap.size + 1) rfl b HB.out (by simpa using H2.out) ?_))
  have H2' := H2.out
  rw [show (w.alloc (.cells (cellsB a).toArray 23)).heap.size = w.heap.size + 1 by simp] at H2'
  obtain ⟨w0, hw0⟩ : ∃ w0, (w.alloc (.cells (cellsB a).toArray 23)).alloc (.cells (cellsB b).toArray 23) = w0 := ⟨_, rfl⟩
  rw [hw0] at H1 HS H2' ⊢
  have K1 := Lib.hid H1.out
  have K2 := Lib.hid H2'
  clear H1 H2 H2' hw0
  refine (ops_any w0 a b HA.out HB.out).mono ?_
  rintro e w1 ⟨v, rfl, ⟨L, hL, hv⟩, hs1⟩
  rw [← HN.out] at hL
  have hlen : N.length = L.length := by rw [← hL, List.length_map]
  have HLEN := Lib.hid hlen
  have HL := Lib.hid hL
  have HV := Lib.hid hv
  obtain ⟨a0, c0, rfl, hc1, hc2, hcell⟩ := hv.ex
  have HC := Lib.hid hcell
  have K11 := Lib.hid (K1.out.stay0 hs1)
  have K21 := Lib.hid (K2.out.stay0 hs1)
  have HS1 := Lib.hid (HS.out.trans hs1)
  have hn64 : L.length ≤ 64 := by rw [← hlen]; exact HOL.out
  clear hs1 hL hv hcell hlen
  go_wp2
  go_loopw [6, 7] (fun p i wr => ∃ k : Nat, k ≤ L.length ∧ i = .int .i64 (k : Int) ∧ p = .int .i64 ((((N.take k).flatMap (ptBytes a)).length : Nat) : Int) ∧ Stay (fun _ => False) w1 wr) (fun _ i _ => L.length - (intOf i).toNat)
  case atStart => exact ⟨0, Nat.zero_le _, rfl, by simp, Stay.refl _ _⟩
  case round =>
    obtain ⟨k, hk, rfl, rfl, hst⟩ := hrel
    have HT := Lib.hid hst
    clear hst
    by_cases hlt : k < L.length
    · obtain ⟨⟨q, x⟩, hq⟩ : ∃ q, L[k]? = some q := ⟨_, List.getElem?_eq_getElem hlt⟩
      obtain ⟨g, o, rfl, hcl⟩ := HC.out (by omega)
      have hsl : Slc w1 x q.b := HV.out.slc _ (List.mem_of_getElem? hq)
      obtain ⟨xa, xc, rfl⟩ := Slc.form hsl
      have hNq : N[k]? = some q := by rw [← HL.out]; exact map_at hq
      have hgood := HG.out q (List.mem_of_getElem? hNq)
      obtain ⟨hp1, hp2, hp3⟩ := parts_at N b k q HIS.out hNq
      have hgl := (good_len HA.out hgood).1
      have hprev : 0 < k → q.cp = false → w1.cell? ⟨g, o + (k - 1) * 4, none⟩ = some (.bool true) := by
        intro h0 hqc
        obtain ⟨q2, hq2⟩ : ∃ q, L[k - 1]? = some q := ⟨_, List.getElem?_eq_getElem (by omega)⟩
        have h2 := apart_prev N false (k - 1) q2.p q HAP.out (by rw [← HL.out]; exact map_at hq2) (by rw [show k - 1 + 1 = k by omega]; exact hNq) hqc
        have := hcl (k - 1) q2 hq2 0 (.bool q2.p.cp) rfl
        rw [h2] at this
        exact this
      have HPV := Lib.hid hprev
      have ks := Lib.hid (pt_prog.run_load (w := wr) (g := g) (o := o + k * 4) (q := ⟨q, .slice xa q.b.length xc⟩) (fun j u hu => HT.out.cell (hcl k _ hq j u hu) (fun x => x)))
      have hs4 : Stay (fun _ => False) wr (wr.alloc (.cells (poC ⟨q, .slice xa q.b.length xc⟩).toArray 42)) := Stay.alloc _ _
      obtain ⟨w4, hw4⟩ : ∃ w4, wr.alloc (.cells #[.bool q.cp, .int .i64 q.f, .int .i64 q.n, .slice xa q.b.length xc] 42) = w4 := ⟨_, rfl⟩
      rw [show wr.alloc (.cells (poC ⟨q, .slice xa q.b.length xc⟩).toArray 42) = w4 from hw4] at hs4
      have HT4 := Lib.hid (HT.out.trans hs4)
      have HSL4 := Lib.hid (hsl.stay0 HT4.out)
      have K14 := Lib.hid (K11.out.stay0 HT4.out)
      have K24 := Lib.hid (K21.out.stay0 HT4.out)
      have W4 := Lib.hid hw4
      have HP3 := Lib.hid hp3
      rw [HB.out] at hp2
      generalize ((N.take k).flatMap (ptBytes a)).length = P at *
      clear hq hcl hsl hNq hs4 hw4 hp3 hprev
      obtain ⟨D, hDd⟩ : ∃ D : World → Prop, D = Stay (fun _ => False) w4 := ⟨_, rfl⟩
      have HD := Lib.hid (show ∀ W, D W → Stay (fun _ => False) w4 W by intro W h; rw [hDd] at h; exact h)
      have HDm := Lib.hid (show ∀ W, Stay (fun _ => False) w4 W → D W by intro W h; rw [hDd]; exact h)
      clear hDd
      have HN0 := Lib.hid (HDm.out w4.drew Stay.drew)
      haveI : Nonempty (InC D) := ⟨⟨_, HN0.out⟩⟩
      obtain ⟨cp, f, n, pb⟩ := q
      dsimp only at *
      rcases hgood with ⟨h1, h2, h3, h4, h5⟩ | ⟨h1, h2, h3, h4, h5⟩
      · dsimp only at h1 h2 h3 h4 h5
        subst h1 h5
        obtain ⟨f', rfl⟩ : ∃ f' : Nat, f = (f' : Int) := ⟨f.toNat, by omega⟩
        obtain ⟨n', rfl⟩ : ∃ n' : Nat, n = (n' : Int) := ⟨n.toNat, by omega⟩
        have e1 : ¬ ((n' : Int) < 4) := by omega
        have e2 : ¬ ((f' : Int) < 0) := by omega
        have e3 : ¬ ((64 : Int) < (n' : Int)) := by omega
        have e4 : ¬ ((64 : Int) - (n' : Int) < (f' : Int)) := by omega
        have hpb : ptBytes a ⟨true, (f' : Int), (n' : Int), []⟩ = (a.drop f').take n' := by
          unfold ptBytes
          rw [if_pos rfl, show ((f' : Int)).toNat = f' by omega, show ((n' : Int)).toNat = n' by omega]
        rw [hpb] at hp1 hp2 hgl HP3
        have hl : ((a.drop f').take n').length = n' := by rw [List.length_take, List.length_drop, HA.out]; omega
        rw [hl] at hp1 hp2 hgl HP3
        have kp := fun W => run_partN W w.heap.size f' n' (by omega) (by omega)
        have kq := fun q : InC D => run_partN q.w (w.heap.size + 1) P n' (by omega) (by omega)
        have cv1 := fun q : InC D => conv_slc ((K14.out.stay0 (HD.out _ q.h)).part (i := f') (n := n') (c := 64 - f') (by rw [HA.out]; omega) (by omega) (by omega))
        have cv2 := fun q : InC D => conv_slc ((K24.out.stay0 (HD.out _ q.h)).part (i := P) (n := n') (c := 64 - P) (by rw [HB.out]; omega) (by omega) (by omega))
        rw [hp1] at cv2
        unfold strV at cv1 cv2
        have e5 : ¬ ((64 : Int) - (P : Int) < (n' : Int)) := by omega
        go_wp2_with (refine wpList_load_run rfl 42 (.tmp 21) rfl ⟨g, o + k * 4, none⟩ rfl _ ks.out ?_; unfold poV poC)
        have e5d : decide ((64 : Int) - (P : Int) < (n' : Int)) = false := decide_eq_false (by omega)
        rw [List.length_nil] at W4
        rw [W4.out]
        refine wp_region_class D HN0.out (by kernel_rfl) (by kernel_rfl) ?_
        try go_frame
        repeat (go_big_quiet_step (fail))
        refine wpQuiet_nil ?_
        rintro W ⟨z, rfl⟩
        have hs := HD.out _ z.h
        clear kq cv1 cv2
        generalize z.w = w9 at *
        go_wp2
        refine ⟨⟨k + 1, by omega, by go_num, by rw [HP3.out]; go_num, HT4.out.trans hs⟩, by simp [intOf]; omega⟩
      · dsimp only at h1 h2 h3 h4 h5
        subst h1 h2 h3
        have hpb : ptBytes a ⟨false, 0, 0, pb⟩ = pb := rfl
        rw [hpb] at hp1 hp2 hgl HP3
        have hz : ((pb.length : Int) == 0) = false := beq_eq_false_iff_ne.2 (by omega)
        obtain ⟨n', hn'⟩ : ∃ n', n' = pb.length := ⟨_, rfl⟩
        have kq := fun q : InC D => run_partN q.w (w.heap.size + 1) P n' (by omega) (by omega)
        have cv1 := fun q : InC D => conv_slc (HSL4.out.stay0 (HD.out _ q.h))
        have cv2 := fun q : InC D => conv_slc ((K24.out.stay0 (HD.out _ q.h)).part (i := P) (n := n') (c := 64 - P) (by rw [HB.out]; omega) (by omega) (by omega))
        rw [hn', hp1] at cv2
        rw [hn'] at kq
        clear hn' n'
        unfold strV at cv1 cv2
        have e5 : ¬ ((64 : Int) - (P : Int) < (pb.length : Int)) := by omega
        have e5d : decide ((64 : Int) - (P : Int) < (pb.length : Int)) = false := decide_eq_false (by omega)
        have hk0 : (k = 0 ∧ True) ∨ ∃ j, k = j + 1 := by
          rcases Nat.eq_zero_or_pos k with h | h
          · exact .inl ⟨h, trivial⟩
          · exact .inr ⟨k - 1, by omega⟩
        rcases hk0 with ⟨rfl, _⟩ | ⟨j, rfl⟩
        · go_wp2_with (refine wpList_load_run rfl 42 (.tmp 21) rfl ⟨g, o + 0 * 4, none⟩ rfl _ ks.out ?_; unfold poV poC)
          rw [W4.out]
          refine wp_region_class D HN0.out (by kernel_rfl) (by kernel_rfl) ?_
          try go_frame
          repeat (go_big_quiet_step (fail))
          refine wpQuiet_nil ?_
          rintro W ⟨z, rfl⟩
          have hs := HD.out _ z.h
          clear kq cv1 cv2
          generalize z.w = w9 at *
          go_wp2
          refine ⟨⟨0 + 1, by omega, by go_num, by rw [HP3.out]; go_num, HT4.out.trans hs⟩, by simp [intOf]; omega⟩
        · have hpc := HT.out.cell (HPV.out (by omega) rfl) (fun x => x)
          rw [show j + 1 - 1 = j by omega] at hpc
          have hpa := (Stay.alloc (X := fun _ => False) wr (.cells #[.bool false, .int .i64 0, .int .i64 0, .slice xa pb.length xc] 42)).cell hpc (fun x => x)
          have hj0 : (0 : Int) < (j : Int) + 1 := by omega
          go_wp2_with (refine wpList_load_run rfl 42 (.tmp 21) rfl ⟨g, o + (j + 1) * 4, none⟩ rfl _ ks.out ?_; unfold poV poC)
          rw [W4.out]
          refine wp_region_class D HN0.out (by kernel_rfl) (by kernel_rfl) ?_
          try go_frame
          repeat (go_big_quiet_step (fail))
          refine wpQuiet_nil ?_
          rintro W ⟨z, rfl⟩
          have hs := HD.out _ z.h
          clear kq cv1 cv2
          generalize z.w = w9 at *
          go_wp2
          refine ⟨⟨j + 1 + 1, by omega, by go_num, by rw [HP3.out]; go_num, HT4.out.trans hs⟩, by simp [intOf]; omega⟩
    · obtain rfl : k = L.length := by omega
      have hall : ((N.take L.length).flatMap (ptBytes a)).length = 64 := by rw [List.take_of_length_le (by rw [HLEN.out]; exact Nat.le_refl _), HIS.out, HB.out]
      rw [hall]
      go_wp2_with fail
      refine (sure_any wr).mono ?_
      rintro e w6 ⟨rfl, hs6⟩
      go_wp2
      go_ret
      exact ⟨rfl, (HS1.out.trans HT.out).trans hs6⟩
end Go.Proofs.Ytnlknnhibnfhcaa.De
