/-
  index: Step.
-/
import Derived.Test.YtljlfdhjolcnaaaGreatIxVz
namespace Go.Proofs.YtljlfdhjolcnaaaGreat.Ix
open Go.RowKit Go.Maps Me Mg
set_option maxRecDepth 100000
set_option linter.unusedVariables false
set_option linter.unnecessarySimpa false

/-- One more taken. -/
theorem took_job {A AR : Nat → Prop} {w wa w6 : World} {j r : Nat} {J : Jb} {iv tv v' : Value} {e : En} (h1 : w.heap[j]? = some (.cells #[.pointer (some ⟨J.x, 0, none⟩), .int .i64 (J.lv : Int), iv, .pointer (some ⟨r, 0, none⟩), .bool J.d, tv] 92 (0, 0))) (h2 : CO 0 81 w iv (ptrs (J.Q.map (·.s)))) (h3 : RdS AR w r J.R J.N) (h4 : EnO 0 w tv J.K)
    (h5 : ∀ k, AR k → A k ∧ k < w.heap.size) (h6 : A j) (h7 : ∀ k, iv.ownBlock = some k → A k) (h8 : ∀ k, tv.ownBlock = some k → A k) (h9 : ∀ k, AR k → k ≠ j ∧ iv.ownBlock ≠ some k ∧ tv.ownBlock ≠ some k)
    (hs : Stay (fun _ => False) w wa) (ho : EnO 0 w6 v' (J.K ++ [e])) (hs6 : Stay (fun k => tv.ownBlock = some k) wa w6) (hb : v'.ownBlock = tv.ownBlock ∨ v'.ownBlock = some wa.heap.size) :
    JAt (fun k => A k ∨ w.heap.size ≤ k) (w6.setCell ⟨j, 5, none⟩ v') j { J with K := J.K ++ [e] } ∧ Stay A w (w6.setCell ⟨j, 5, none⟩ v') ∧ w6.heap[j]? = some (.cells #[.pointer (some ⟨J.x, 0, none⟩), .int .i64 (J.lv : Int), iv, .pointer (some ⟨r, 0, none⟩), .bool J.d, tv] 92 (0, 0)) := by
  have hjl := (Array.getElem?_eq_some_iff.1 h1).1
  have htj : Ty w j 92 := ⟨_, _, h1⟩
  have htt : ∀ k, tv.ownBlock = some k → Ty w k 42 := fun k hk => (Mg.EnO.ent h4).2 k hk
  have hst : Stay (fun k => tv.ownBlock = some k) w w6 := (hs.mono (fun _ x => x.elim)).trans hs6
  have hj6 := (hst.block j hjl (fun hx => absurd ((htt j hx).uniq htj) (by decide))).trans h1
  have hset : Stay (fun k => k = j) w6 (w6.setCell ⟨j, 5, none⟩ v') := Stay.setCell _ _ _ rfl
  have hjj := heap_setCell_same w6 j 5 _ _ v' hj6
  have htj6 : Ty w6 j 92 := ⟨_, _, hj6⟩
  refine ⟨⟨iv, v', r, AR, hjj, (h2.stay hst (fun k hk hx => absurd ((htt k hx).uniq (h2.ty k hk)) (by decide))).stay hset (fun k hk e => absurd (htj.uniq (e ▸ h2.ty k hk)) (by decide)), (h3.stay hst (fun k hk hx => (h9 k hk).2.2 hx)).stay hset (fun k hk e => (h9 k hk).1 e), ho.stay hset (fun k hk e => ?_), fun k hk => ⟨.inl (h5 k hk).1, Nat.lt_of_lt_of_le (h5 k hk).2 (Nat.le_trans hst.size hset.size)⟩, .inl h6, fun k hk => .inl (h7 k hk), fun k hk => ?_, fun k hk => ⟨(h9 k hk).1, (h9 k hk).2.1, fun e => ?_⟩⟩, (hst.mono (fun k hk => h8 k hk)).trans (hset.mono (fun k hk => hk ▸ h6)), hj6⟩
  · subst e
    exact absurd ((show Ty w6 k 42 from (Mg.EnO.ent ho).2 k hk).uniq htj6) (by decide)
  · rcases hb with hb | hb
    · exact .inl (h8 k (hb ▸ hk))
    · rw [hb] at hk
      cases hk
      exact .inr hs.size
  · rcases hb with hb | hb
    · exact (h9 k hk).2.2 (hb ▸ e)
    · rw [hb] at e
      cases e
      have := (h5 _ hk).2
      have := hs.size
      omega
/-- What a Step leaves: the job goes on, or it is ended. -/
def StepR (A AJ : Nat → Prop) (w w' : World) (x j n : Nat) (I : Im) (J : Jb) (y : Ending) : Prop :=
  (n ≤ (keepL J.d J.R).length ∧ y = .returned (.tuple #[.bool false, .nilIface]) ∧ Stay AJ w w' ∧ ∃ R', keepL J.d R' = (keepL J.d J.R).drop n ∧ JAt (fun k => AJ k ∨ w.heap.size ≤ k) w' j { J with R := R', K := J.K ++ (keepL J.d J.R).take n }) ∨
  ((keepL J.d J.R).length < n ∧ y = .returned (.tuple #[.bool true, .nilIface]) ∧ ∃ M k I2, EndR A AJ w w' x j I { J with K := J.K ++ keepL J.d J.R } M k I2)
set_option maxHeartbeats 2000000 in
theorem step_job {A AJ : Nat → Prop} (w : World) (x j n : Nat) (I : Im) (J : Jb) (h : IxAt A w x I) (hj : JAt AJ w j J) (hx : J.x = x) (hd : ∀ k, k < w.heap.size → A k → ¬ AJ k) (hn : 1 ≤ n) (hnm : n ≤ 1000000) (hN : J.N ≤ 10000) (hK : J.K.length + (keepL J.d J.R).length ≤ 1000) (ho : EndOk I { J with K := J.K ++ keepL J.d J.R }) :
    Calls Tryz.prog 14 #[.pointer (some ⟨j, 0, none⟩), .int .i64 (n : Int)] w fun y w' => StepR A AJ w w' x j n I J y := by
  have c0 : w.cell? ⟨j, 0, none⟩ = some (.pointer (some ⟨x, 0, none⟩)) := by
    obtain ⟨_, hr⟩ := hj.rd
    obtain ⟨_, _, _, h1, _⟩ := hr.ex
    rw [cell_of_row w j 0 _ _ _ h1, ← hx]
    rfl
  have hn1 : (1 : Int) ≤ (n : Int) := by omega
  have hn2 : ((n : Int) < 1) = False := by simp; omega
  have hnm1 : (n : Int) ≤ 1000000 := by omega
  obtain ⟨S, hS⟩ : ∃ S, S = keepL J.d J.R := ⟨_, rfl⟩
  have HSS := Lib.hid hS
  have HIX := Lib.hid (h.mono (A' := fun k => A k ∧ k < w.heap.size) (fun k hk ha => ⟨ha, hk⟩))
  have HJ0 := Lib.hid hj
  have HX := Lib.hid hx
  have HD := Lib.hid hd
  have HNN := Lib.hid hN
  have HKL := Lib.hid hK
  have HO := Lib.hid ho
  clear h hj hx hd hnm hN hK ho hS hn
  go_enter Tryz.func14, Tryz.ntmps14
  go_wp2_with fail
  clear c0
  go_loopw [22] (fun ii wr => ∃ (i : Nat) (R' : List En), ii = .int .i64 (i : Int) ∧ i ≤ n ∧ Hid (i ≤ S.length ∧ keepL J.d R' = S.drop i) ∧ Hid (JAt (fun k => (AJ k ∧ k < w.heap.size) ∨ w.heap.size ≤ k) wr j { J with R := R', K := J.K ++ S.take i }) ∧ Hid (Stay AJ w wr)) (fun ii _ => n - (intOf ii).toNat)
  case atStart =>
    refine ⟨0, J.R, rfl, Nat.zero_le _, Lib.hid ⟨Nat.zero_le _, HSS.out.symm⟩, Lib.hid ?_, Lib.hid (Stay.refl _ _)⟩
    rw [List.take_zero, List.append_nil]
    exact HJ0.out.mono (fun k hk h => .inl ⟨h, hk⟩)
  case round =>
    obtain ⟨i, R', rfl, hi, HI, HJ, HS⟩ := hrel
    by_cases hlt : i < n
    · have HNX := Lib.hid (next_job wr j _ HJ.out HNN.out)
      have hii : (i : Int) < (n : Int) := by omega
      go_wp2_with fail
      refine HNX.out.mono ?_
      rintro y w1 ⟨b, e, R2, rfl, hj1, hs1, hk1, hk2⟩
      have HBN := Lib.hid (Box.new w1 ⟨[], [], false⟩)
      have HA := Lib.hid (show Stay (fun _ => False) w1 (w1.alloc (.cells (enC ⟨[], [], false⟩).toArray 42)) from Stay.alloc _ _)
      have HJ1 := Lib.hid (hj1.mono (A' := fun k => (AJ k ∧ k < w.heap.size) ∨ (w.heap.size ≤ k ∧ k < w1.heap.size)) (fun k hk h => by
        have := HS.out.size
        rcases h with (h | h) | h
        · exact .inl h
        · exact .inr ⟨h, hk⟩
        · exact .inr ⟨by omega, hk⟩))
      have HS1 := Lib.hid (HS.out.andThen hs1 (fun k hk h => h.elim (fun h => h.1) (fun h => by omega)))
      have HK1 := Lib.hid hk1
      have HK2 := Lib.hid hk2
      obtain ⟨w2, hw2⟩ : ∃ w2, w1.alloc (.cells (enC ⟨[], [], false⟩).toArray 42) = w2 := ⟨_, rfl⟩
      rw [hw2] at HBN HA
      have W2 := Lib.hid hw2
      clear hw2 hj1 hs1 hk1 hk2 HNX
      cases b with
      | false =>
        go_wp2_with (first
          | (with_reducible refine alloc_en rfl rfl ?_; rw [W2.out])
          | (refine Box.store HBN.out rfl (.tmp 6) (.tmp 27) rfl rfl e rfl ?_
             intro w3 hb3 hs3
             have H3 := Lib.hid hb3
             have HX3 := Lib.hid (show ∀ k, ((AJ k ∧ k < w.heap.size) ∨ (w.heap.size ≤ k ∧ k < w1.heap.size)) → ¬ (k = w1.heap.size) from fun k hk e => by
               have := HS1.out.size
               rcases hk with hk | hk <;> omega)
             have HJ3 := Lib.hid ((HJ1.out.stay HA.out (fun _ _ x => x)).stay hs3 HX3.out)
             have HS3 := Lib.hid ((HS1.out.trans (HA.out.mono (fun _ x => x.elim))).andThen hs3 (fun k hk e => by have h1 : k = w1.heap.size := e; have := HS1.out.size; omega))
             clear hb3 hs3))
        have HSI := Lib.hid (show S.take i = S ∧ S.length = i ∧ keepL J.d R2 = [] from by
          have h1 := HI.out.2
          have h2 : keepL J.d R2 = [] := by simpa using HK2.out
          rw [HK1.out, h2] at h1
          have h3 : S.length ≤ i := by
            have h4 := congrArg List.length h1
            rw [List.length_drop] at h4
            simp at h4
            omega
          exact ⟨List.take_of_length_le h3, by have := HI.out.1; omega, h2⟩)
        have HIE := Lib.hid (HIX.out.stay HS3.out (fun k hk hx => HD.out k hk.2 hk.1 hx))
        have HEN := Lib.hid (end_job w3 x j I _ HIE.out HJ3.out HX.out (fun k hk ha hj => by
          rcases hj with hj | hj
          · exact HD.out k hj.2 ha.1 hj.1
          · have := ha.2
            omega) (by
          have ho := HO.out
          have e1 : J.K ++ S.take i = J.K ++ keepL J.d J.R := by rw [HSI.out.1, HSS.out]
          exact ⟨ho.lv, ho.n, ho.qt, ho.ql, ho.l9, ho.qn, ho.hc, ho.hd, ho.qd, fun hk => by
            have h1 := ho.kg
            show Tb.Good (J.K ++ S.take i) I.p I.q ∧ _
            rw [e1]
            exact h1 (by
              show J.K ++ keepL J.d J.R ≠ []
              rw [← e1]
              exact hk)⟩))
        refine HEN.out.mono ?_
        rintro y w7 ⟨rfl, M, k, I2, hr⟩
        have HRR := Lib.hid hr
        clear hr HEN
        go_wp2
        go_ret2
        refine .inr ⟨?_, rfl, M, k, I2, ?_⟩
        · rw [← HSS.out, HSI.out.2.1]
          exact hlt
        · have hr := HRR.out
          have e1 : J.K ++ S.take i = J.K ++ keepL J.d J.R := by rw [HSI.out.1, HSS.out]
          refine ⟨hr.jb, (HS3.out.mono (fun k hk => .inr hk)).andThen hr.st (fun k hk h => ?_), hr.tr, hr.ix.mono (fun k hk h => ?_), ?_⟩
          · rcases h with h | h | h
            · exact .inl h.1
            · exact .inr h.1
            · omega
          · rcases h with h | h
            · exact .inl h.1
            · exact .inr (Nat.le_trans HS3.out.size h)
          · have h1 := hr.md
            rw [show ({ J with R := R2, K := J.K ++ S.take i } : Jb).K = J.K ++ keepL J.d J.R from e1] at h1
            rcases h1 with h1 | ⟨h1, s, h2, h3⟩
            · exact .inl h1
            · exact .inr ⟨h1, s, Nat.le_trans HS3.out.size h2, h3⟩
      | true =>
        go_wp2_with (first
          | (with_reducible refine alloc_en rfl rfl ?_; rw [W2.out])
          | (refine Box.store HBN.out rfl (.tmp 6) (.tmp 27) rfl rfl e rfl ?_
             intro w3 hb3 hs3
             have H3 := Lib.hid hb3
             have HX3 := Lib.hid (show ∀ k, ((AJ k ∧ k < w.heap.size) ∨ (w.heap.size ≤ k ∧ k < w1.heap.size)) → ¬ (k = w1.heap.size) from fun k hk e => by
               have := HS1.out.size
               rcases hk with hk | hk <;> omega)
             have HJ3 := Lib.hid ((HJ1.out.stay HA.out (fun _ _ x => x)).stay hs3 HX3.out)
             have HS3 := Lib.hid ((HS1.out.trans (HA.out.mono (fun _ x => x.elim))).andThen hs3 (fun k hk e => by have h1 : k = w1.heap.size := e; have := HS1.out.size; omega))
             clear hb3 hs3))
        obtain ⟨iv, tv, r, AR, q1, q2, q3, q4, q5, q6, q7, q8, q9⟩ := HJ3.out.ex
        obtain ⟨kn, hkn⟩ : ∃ kn, kn = (J.K ++ S.take i).length := ⟨_, rfl⟩
        obtain ⟨ta, tc, htv⟩ : ∃ a c, tv = .slice a kn c := by obtain ⟨p, q, e⟩ := q4.form; exact ⟨p, q, by rw [e, hkn]⟩
        subst htv
        obtain ⟨g, hg⟩ : ∃ g, g = w1.heap.size := ⟨_, rfl⟩
        rw [← hg] at H3 ⊢
        have j5 : w3.cell? ⟨j, 5, none⟩ = some (.slice ta kn tc) := by rw [cell_of_row w3 j 5 _ _ _ q1]; rfl
        have fj5 : w3.frozen? ⟨j, 5, none⟩ = false := frozen_of_row w3 j 5 _ _ q1
        have e0 : w3.cell? ⟨g, 0, none⟩ = some (strV e.k) := H3.out.c (j := 0) rfl
        have e1 : w3.cell? ⟨g, 1, none⟩ = some (strV e.v) := H3.out.c (j := 1) rfl
        have e2 : w3.cell? ⟨g, 2, none⟩ = some (.bool e.g) := H3.out.c (j := 2) rfl
        have HKN := Lib.hid hkn
        have HQ := Lib.hid (show w3.heap[j]? = _ ∧ CO 0 _ w3 iv _ ∧ RdS AR w3 r R2 J.N ∧ EnO 0 w3 (.slice ta kn tc) (J.K ++ S.take i) ∧ _ ∧ _ ∧ _ ∧ _ ∧ _ from ⟨q1, q2, q3, q4, q5, q6, q7, q8, q9⟩)
        have j5b : (w3.alloc (.cells #[strV e.k, strV e.v, .bool e.g] 42)).cell? ⟨j, 5, none⟩ = some (.slice ta kn tc) := (Stay.alloc (X := fun _ => False) _ _).cell j5 (fun x => x)
        clear q1 q2 q3 q4 q5 q6 q7 q8 q9 hkn hg
        go_wp2
        have HEO := Lib.hid (fun W (hW : Stay (fun _ => False) w3 W) => HQ.out.2.2.2.1.stay0 hW)
        have HBB := Lib.hid (fun W (hb : Box W w3.heap.size e) => hb.one 1 (by decide) (by decide))
        have HLN := Lib.hid (show ((J.K ++ S.take i).length + [e].length) * 40 ≤ 140737488355328 by
          have h1 := HKL.out
          rw [← HSS.out] at h1
          rw [List.length_append, List.length_take, List.length_singleton]
          omega)
        have HTK := Lib.hid (fun wa w6 v' (hs : Stay (fun _ => False) w3 wa) (ho : EnO 0 w6 v' ((J.K ++ S.take i) ++ [e])) (hs6 : Stay (fun k => (Value.slice ta kn tc).ownBlock = some k) wa w6) (hb : v'.ownBlock = (Value.slice ta kn tc).ownBlock ∨ v'.ownBlock = some wa.heap.size) => took_job (J := { J with R := R2, K := J.K ++ S.take i }) HQ.out.1 HQ.out.2.1 HQ.out.2.2.1 HQ.out.2.2.2.1 HQ.out.2.2.2.2.1 HQ.out.2.2.2.2.2.1 HQ.out.2.2.2.2.2.2.1 HQ.out.2.2.2.2.2.2.2.1 HQ.out.2.2.2.2.2.2.2.2 hs ho hs6 hb)
        go_region_law ((refine step_append_en rfl (.tmp 40) (.tmp 42) 34 rfl Tryz.underlying34 rfl rfl (HEO.out _ ((Stay.alloc _ _).trans Stay.drew)) (HBB.out _ ((Box.new w3 e).stay0 Stay.drew)) HLN.out (Nat.zero_le _) ?_; intro v6 w6 ho6 hs6 hn6; have HT6 := Lib.hid (HTK.out _ w6 v6 ((Stay.alloc _ _).trans Stay.drew) ho6 hs6 hn6); obtain ⟨n6, hn6e⟩ : ∃ n6, n6 = ((J.K ++ S.take i) ++ [e]).length := ⟨_, rfl⟩; obtain ⟨a6, c6, rfl⟩ : ∃ a c, v6 = .slice a n6 c := (by obtain ⟨p, q, e6⟩ := ho6.form; exact ⟨p, q, by rw [e6, hn6e]⟩); have fj6 := frozen_of_row w6 j 5 _ _ HT6.out.2.2; have cj6 : w6.cell? ⟨j, 5, none⟩ = some (.slice ta kn tc) := (by rw [cell_of_row w6 j 5 _ _ _ HT6.out.2.2]; rfl); clear ho6 hs6 hn6 hn6e))
        all_goals
          have hk1 : keepL J.d R' = e :: keepL J.d R2 := by simpa using HK1.out
          have h2 : e :: keepL J.d R2 = S.drop i := hk1.symm.trans HI.out.2
          have h3 : S[i]? = some e := by
            have h4 := congrArg (fun L : List En => L[0]?) h2
            simpa using h4.symm
          have hz3 := HS3.out.size
          have HJ7 := Lib.hid (show JAt (fun k => (AJ k ∧ k < w.heap.size) ∨ w.heap.size ≤ k) (w6.setCell ⟨j, 5, none⟩ (.slice a6 n6 c6)) j { J with R := R2, K := J.K ++ S.take (i + 1) } from by
            have h1 := HT6.out.1
            have e7 : S.take (i + 1) = S.take i ++ [e] := by
              rw [List.take_add_one, h3]
              rfl
            rw [e7, ← List.append_assoc]
            refine h1.mono (fun k hk h => ?_)
            rcases h with (h | h) | h
            · exact .inl h
            · exact .inr h.1
            · exact .inr (by omega))
          have HS7 := Lib.hid (show Stay AJ w (w6.setCell ⟨j, 5, none⟩ (.slice a6 n6 c6)) from HS3.out.andThen HT6.out.2.1 (fun k hk h => by
            rcases h with h | h
            · exact h.1
            · omega))
          have HI7 := Lib.hid (show i + 1 ≤ S.length ∧ keepL J.d R2 = S.drop (i + 1) from ⟨(List.getElem?_eq_some_iff.1 h3).1, by
            rw [← List.tail_drop, ← h2]
            rfl⟩)
          generalize w6.setCell ⟨j, 5, none⟩ (.slice a6 n6 c6) = w7 at *
          clear hk1 h2 h3 hz3 fj6 cj6 HT6
          go_wp2
          exact ⟨⟨i + 1, R2, by go_num, hlt, HI7, HJ7, HS7⟩, by simp [intOf]; omega⟩
    · obtain rfl : i = n := by omega
      go_wp2_with fail
      go_ret2
      refine .inl ⟨by rw [← HSS.out]; exact HI.out.1, rfl, HS.out, R', by rw [← HSS.out]; exact HI.out.2, ?_⟩
      rw [← HSS.out]
      exact HJ.out.mono (fun k _ h => h.elim (fun h => .inl h.1) .inr)
end Go.Proofs.YtljlfdhjolcnaaaGreat.Ix
