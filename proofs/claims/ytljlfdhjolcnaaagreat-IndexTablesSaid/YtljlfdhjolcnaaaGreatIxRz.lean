/-
  index: a job's next entry.
-/
import Derived.Test.YtljlfdhjolcnaaaGreatIxQz
namespace Go.Proofs.YtljlfdhjolcnaaaGreat.Ix
open Go.RowKit Go.Maps Me Mg
set_option maxRecDepth 100000
set_option linter.unusedVariables false
set_option linter.unnecessarySimpa false

/-- A job, its reader named. -/
structure JR (A : Nat → Prop) (w : World) (j : Nat) (J : Jb) (r : Nat) : Prop where
  ex : ∃ (iv tv : Value) (AR : Nat → Prop), w.heap[j]? = some (.cells #[.pointer (some ⟨J.x, 0, none⟩), .int .i64 (J.lv : Int), iv, .pointer (some ⟨r, 0, none⟩), .bool J.d, tv] 92 (0, 0)) ∧ CO 0 81 w iv (ptrs (J.Q.map (·.s))) ∧ RdS AR w r J.R J.N ∧ EnO 0 w tv J.K ∧
    (∀ k, AR k → A k ∧ k < w.heap.size) ∧ A j ∧ (∀ k, iv.ownBlock = some k → A k) ∧ (∀ k, tv.ownBlock = some k → A k) ∧ ∀ k, AR k → k ≠ j ∧ iv.ownBlock ≠ some k ∧ tv.ownBlock ≠ some k
section
variable {A A' X : Nat → Prop} {w w' : World} {j r : Nat} {J : Jb}
theorem JAt.rd (h : JAt A w j J) : ∃ r, JR A w j J r := by
  obtain ⟨iv, tv, r, AR, h⟩ := h.ex
  exact ⟨r, iv, tv, AR, h⟩
theorem JR.at (h : JR A w j J r) : JAt A w j J := by
  obtain ⟨iv, tv, AR, h⟩ := h.ex
  exact ⟨iv, tv, r, AR, h⟩
theorem JR.stay (h : JR A w j J r) (hs : Stay X w w') (hX : ∀ k, A k → ¬ X k) : JR A w' j J r := by
  obtain ⟨iv, tv, AR, h1, h2, h3, h4, h5, h6, h7, h8, h9⟩ := h.ex
  exact ⟨iv, tv, AR, (hs.block j (Array.getElem?_eq_some_iff.1 h1).1 (hX j h6)).trans h1, h2.stay hs (fun k hk => hX k (h7 k hk)), h3.stay hs (fun k hk => hX k (h5 k hk).1), h4.stay hs (fun k hk => hX k (h8 k hk)), fun k hk => ⟨(h5 k hk).1, Nat.lt_of_lt_of_le (h5 k hk).2 hs.size⟩, h6, h7, h8, h9⟩
theorem JR.stay0 (h : JR A w j J r) (hs : Stay (fun _ => False) w w') : JR A w' j J r := h.stay hs (fun _ _ x => x)
theorem JR.mono (h : JR A w j J r) (hA : ∀ k, k < w.heap.size → A k → A' k) : JR A' w j J r := by
  obtain ⟨iv, tv, AR, h1, h2, h3, h4, h5, h6, h7, h8, h9⟩ := h.ex
  exact ⟨iv, tv, AR, h1, h2, h3, h4, fun k hk => ⟨hA k (h5 k hk).2 (h5 k hk).1, (h5 k hk).2⟩, hA j (Array.getElem?_eq_some_iff.1 h1).1 h6, fun k hk => hA k (h2.lt k hk).2 (h7 k hk), fun k hk => hA k (h4.lt k hk).2 (h8 k hk), h9⟩
theorem JR.c3 (h : JR A w j J r) : w.cell? ⟨j, 3, none⟩ = some (.pointer (some ⟨r, 0, none⟩)) := by
  obtain ⟨iv, tv, AR, h1, _⟩ := h.ex
  rw [cell_of_row w j 3 _ _ _ h1]
  rfl
theorem JR.c4 (h : JR A w j J r) : w.cell? ⟨j, 4, none⟩ = some (.bool J.d) := by
  obtain ⟨iv, tv, AR, h1, _⟩ := h.ex
  rw [cell_of_row w j 4 _ _ _ h1]
  rfl
theorem JR.lt (h : JR A w j J r) : j < w.heap.size := by
  obtain ⟨iv, tv, AR, h1, _⟩ := h.ex
  exact (Array.getElem?_eq_some_iff.1 h1).1
/-- Its reader goes on. -/
theorem JR.next (h : JR A w j J r) (hN : J.N ≤ 10000) :
    Calls Tryz.prog 76 #[.pointer (some ⟨r, 0, none⟩)] w fun y w' => ∃ b x, y = .returned (.tuple #[enV x, .bool b]) ∧ JR (fun k => A k ∨ w.heap.size ≤ k) w' j { J with R := J.R.tail } r ∧ Stay A w w' ∧ leftW w' r + (if b then 1 else 0) ≤ leftW w r ∧ J.R = (if b then [x] else []) ++ J.R.tail := by
  obtain ⟨iv, tv, AR, h1, h2, h3, h4, h5, h6, h7, h8, h9⟩ := h.ex
  refine (Mg.next_any AR w r J.N J.R h3 hN).mono ?_
  rintro y w' ⟨b, x, hy, hr, hs, hl, he, _⟩
  have hjl := (Array.getElem?_eq_some_iff.1 h1).1
  refine ⟨b, x, hy, ⟨iv, tv, fun k => (AR k ∨ w.heap.size ≤ k) ∧ k < w'.heap.size, (hs.block j hjl (fun h => (h9 j h).1 rfl)).trans h1, h2.stay hs (fun k hk h => (h9 k h).2.1 hk), hr.mono (fun k hk h => ⟨h, hk⟩), h4.stay hs (fun k hk h => (h9 k h).2.2 hk), fun k hk => ⟨hk.1.imp (fun h => (h5 k h).1) id, hk.2⟩, .inl h6, fun k hk => .inl (h7 k hk), fun k hk => .inl (h8 k hk), fun k hk => ?_⟩, hs.mono (fun k hk => (h5 k hk).1), hl, he⟩
  rcases hk.1 with hk1 | hk1
  · exact h9 k hk1
  · exact ⟨by omega, fun e => by have := (h2.lt k e).2; omega, fun e => by have := (h4.lt k e).2; omega⟩
end
theorem JR.left {A X : Nat → Prop} {w w' : World} {j r : Nat} {J : Jb} (h : JR A w j J r) (hs : Stay X w w') (hX : ∀ k, A k → ¬ X k) : leftW w' r = leftW w r := by
  obtain ⟨iv, tv, AR, h1, h2, h3, h4, h5, _⟩ := h.ex
  obtain ⟨H, k1, _⟩ := h3.ex
  rw [k1.left, (k1.stay hs (fun k hk => hX k (h5 k hk).1)).left]
theorem nil_tail {R : List En} (h : R = R.tail) : R.tail = [] := by
  cases R with
  | nil => rfl
  | cons e r =>
    have h1 := congrArg List.length h
    simp at h1
theorem keep_cons (d : Bool) (x : En) (R : List En) : keepL d (x :: R) = if d && x.g then keepL d R else x :: keepL d R := by
  unfold keepL
  cases d with
  | false => rfl
  | true =>
    cases h : x.g with
    | true => simp [h]
    | false => simp [h]
/-- What a job's next leaves. -/
def Nxt (A : Nat → Prop) (w w' : World) (j : Nat) (J : Jb) (y : Ending) : Prop := ∃ b e R', y = .returned (.tuple #[enV e, .bool b]) ∧ JAt (fun k => A k ∨ w.heap.size ≤ k) w' j { J with R := R' } ∧ Stay A w w' ∧ keepL J.d J.R = (if b then [e] else []) ++ keepL J.d R' ∧ (b = false → keepL J.d R' = [])
set_option maxHeartbeats 2000000 in
theorem next_job {A : Nat → Prop} (w : World) (j : Nat) (J : Jb) (h : JAt A w j J) (hN : J.N ≤ 10000) :
    Calls Tryz.prog 40 #[.pointer (some ⟨j, 0, none⟩)] w fun y w' => Nxt A w w' j J y := by
  obtain ⟨r, hr⟩ := h.rd
  have hb0 := Box.new w ⟨[], [], false⟩
  have hs0 : Stay (fun _ => False) w (w.alloc (.cells (enC ⟨[], [], false⟩).toArray 42)) := Stay.alloc _ _
  obtain ⟨w0, hw0⟩ : ∃ w0, w.alloc (.cells (enC ⟨[], [], false⟩).toArray 42) = w0 := ⟨_, rfl⟩
  rw [hw0] at hb0 hs0
  obtain ⟨b, hb⟩ : ∃ b, b = w.heap.size := ⟨_, rfl⟩
  rw [← hb] at hb0
  have W0 := Lib.hid hw0
  have HB := Lib.hid hb
  have HB0 := Lib.hid hb0
  have HS0 := Lib.hid hs0
  have HJ0 := Lib.hid ((hr.mono (A' := fun k => A k ∧ k < w.heap.size) (fun k hk ha => ⟨ha, hk⟩)).stay0 hs0)
  have d3 := HJ0.out.c3
  have HN := Lib.hid hN
  have HNX := Lib.hid (HJ0.out.next HN.out)
  clear hw0 hb0 hs0 hb h hr hN
  go_enter Tryz.func40, Tryz.ntmps40
  go_wp2_with (with_reducible refine alloc_en rfl rfl ?_; rw [W0.out, ← HB.out])
  refine HNX.out.mono ?_
  rintro y w1 ⟨t0, e0, rfl, hj1, hs1, hl1, hr1⟩
  have HB1 := Lib.hid (HB0.out.stay hs1 (fun hx => by have := hx.2; have := HB.out; omega))
  have HBN := Lib.hid (Box.new w1 ⟨[], [], false⟩)
  have HA := Lib.hid (show Stay (fun _ => False) w1 (w1.alloc (.cells (enC ⟨[], [], false⟩).toArray 42)) from Stay.alloc _ _)
  have HZ := Lib.hid (show b < w1.heap.size from HB1.out.lt)
  have HJ1 := Lib.hid hj1
  have HS1 := Lib.hid hs1
  have HL1 := Lib.hid hl1
  have HR1 := Lib.hid hr1
  obtain ⟨w2, hw2⟩ : ∃ w2, w1.alloc (.cells (enC ⟨[], [], false⟩).toArray 42) = w2 := ⟨_, rfl⟩
  rw [hw2] at HBN HA
  have W2 := Lib.hid hw2
  clear hs1 hw2 hj1 hl1 hr1 d3 HNX
  obtain ⟨A2, hA2⟩ : ∃ A2 : Nat → Prop, A2 = fun k => (A k ∧ k < w.heap.size) ∨ (w.heap.size ≤ k ∧ k ≠ w1.heap.size ∧ k ≠ b) := ⟨_, rfl⟩
  have HA2 := Lib.hid hA2
  have HW0 := Lib.hid (show w0.heap.size = w.heap.size + 1 by rw [← W0.out]; simp)
  have HJ2 := Lib.hid ((HJ1.out.mono (A' := A2) (fun k hk h => by
    rw [hA2]
    have := HW0.out
    have := HB.out
    rcases h with h | h
    · exact .inl h
    · exact .inr ⟨by omega, by omega, by omega⟩)).stay0 HA.out)
  clear hA2
  go_wp2_with (first
    | (with_reducible refine alloc_en rfl rfl ?_; rw [W2.out])
    | (refine Box.store HBN.out rfl (.tmp 4) (.tmp 12) rfl rfl e0 rfl ?_
       intro w3 hb3 hs3
       have H3 := Lib.hid hb3
       have HB3 := Lib.hid ((HB1.out.stay0 HA.out).stay hs3 (fun e => by have h1 : b = w1.heap.size := e; have := HZ.out; omega))
       have HJ3 := Lib.hid (HJ2.out.stay hs3 (fun k hk e => by rw [HA2.out] at hk; have h1 : k = w1.heap.size := e; have := HS0.out.size; have := HS1.out.size; rcases hk with hk | hk <;> omega))
       have HS3 := Lib.hid (show Stay A w w3 from ((((HS0.out.mono (Y := A) (fun _ x => x.elim)).trans (HS1.out.mono (fun k hk => hk.1))).trans (HA.out.mono (fun _ x => x.elim)))).andThen hs3 (fun k hk e => by have h1 : k = w1.heap.size := e; have := HS0.out.size; have := HS1.out.size; omega))
       clear hb3 hs3))
  obtain ⟨g, hgd⟩ : ∃ g, g = w1.heap.size := ⟨_, rfl⟩
  rw [← hgd] at H3 ⊢
  have HGW := Lib.hid (show w.heap.size ≤ g ∧ b < g from ⟨by rw [hgd]; exact Nat.le_trans HS0.out.size HS1.out.size, by rw [hgd]; exact HZ.out⟩)
  have HA3 := Lib.hid (show A2 = fun k => (A k ∧ k < w.heap.size) ∨ (w.heap.size ≤ k ∧ k ≠ g ∧ k ≠ b) by rw [HA2.out, hgd])
  clear hgd HBN W2 HA HB1 HB0 HA2 HJ2 HJ1
  go_wp2_with fail
  go_loopw [5] (fun t wr => ∃ (tb : Bool) (e : En) (R' : List En), t = .bool tb ∧ Hid (Box wr g e) ∧ Hid (Box wr b ⟨[], [], false⟩) ∧ Hid (JR A2 wr j { J with R := R' } r) ∧ Hid (Stay A w wr) ∧ Hid (keepL J.d J.R = keepL J.d ((if tb then [e] else []) ++ R') ∧ (tb = false → R' = []))) (fun t wr => leftW wr r + tN t)
  case atStart => exact ⟨t0, e0, J.R.tail, rfl, H3, HB3, HJ3, HS3, Lib.hid ⟨by rw [← HR1.out], fun h => nil_tail (by have h1 := HR1.out; rw [h] at h1; simpa using h1)⟩⟩
  case round =>
    obtain ⟨tb, ⟨ek, ev, eg⟩, R', rfl, HBX, HBB, HJ, HS, HK⟩ := hrel
    have c2 := HBX.out.c (j := 2) rfl
    have c3 := HJ.out.c3
    have c4 := HJ.out.c4
    obtain ⟨jd, hjd⟩ : ∃ jd, jd = J.d := ⟨_, rfl⟩
    have HD := Lib.hid hjd
    by_cases hgo : tb = true ∧ eg = true ∧ jd = true
    · obtain ⟨rfl, rfl, rfl⟩ := hgo
      have c4' : wr.cell? ⟨j, 4, none⟩ = some (.bool true) := by rw [hjd]; exact c4
      have HNX := Lib.hid (HJ.out.next HN.out)
      clear hjd c4
      go_wp2_with (first
        | (go_at_call 76
           refine HNX.out.mono ?_
           rintro y w5 ⟨t5, e5, rfl, hj5, hs5, hl5, hr5⟩
           have HZ5 := Lib.hid (show g < wr.heap.size ∧ b < wr.heap.size from ⟨HBX.out.lt, HBB.out.lt⟩)
           have HB5 := Lib.hid (HBX.out.stay hs5 (fun hk => by rw [HA3.out] at hk; have := HGW.out.1; rcases hk with hk | hk <;> omega))
           have HBB5 := Lib.hid (HBB.out.stay hs5 (fun hk => by rw [HA3.out] at hk; have := HB.out; rcases hk with hk | hk <;> omega))
           have HJ5 := Lib.hid (hj5.mono (A' := A2) (fun k hk h => by
             rcases h with h | h
             · exact h
             · have := HZ5.out
               have := HS.out.size
               rw [HA3.out]
               exact .inr ⟨by omega, by omega, by omega⟩))
           have HS5 := Lib.hid (HS.out.andThen hs5 (fun k hk h => by rw [HA3.out] at h; exact h.elim (fun h => h.1) (fun h => by omega)))
           have HL5 := Lib.hid hl5
           have HR5 := Lib.hid hr5
           clear hj5 hs5 hl5 hr5)
        | (refine Box.store HB5.out rfl (.tmp 4) (.tmp 31) rfl rfl e5 rfl ?_
           intro w6 hb6 hs6
           have H6 := Lib.hid hb6
           have HBB6 := Lib.hid (HBB5.out.stay hs6 (fun e => by have h1 : b = g := e; have := HGW.out.2; omega))
           have HX6 := Lib.hid (show ∀ k, A2 k → ¬ (k = g) from fun k hk e => by rw [HA3.out] at hk; have := HGW.out.1; rcases hk with hk | hk <;> omega)
           have HL6 := Lib.hid (HJ5.out.left hs6 HX6.out)
           have HJ6 := Lib.hid (HJ5.out.stay hs6 HX6.out)
           have HS6 := Lib.hid (HS5.out.andThen hs6 (fun k hk e => by have h1 : k = g := e; have := HGW.out.1; omega))
           clear hb6 hs6))
      refine ⟨⟨t5, e5, R'.tail, rfl, H6, HBB6, HJ6, HS6, Lib.hid ⟨?_, fun h => nil_tail (by have h1 := HR5.out; rw [h] at h1; simpa using h1)⟩⟩, ?_⟩
      · rw [HK.out.1, ← HR5.out]
        show keepL J.d (⟨ek, ev, true⟩ :: R') = _
        rw [keep_cons, ← HD.out]
        rfl
      · have h1 := HL6.out
        have h2 := HL5.out
        show leftW w6 r + tN (.bool t5) < leftW wr r + tN (.bool true)
        cases t5 <;> simp [tN] at h2 ⊢ <;> omega
    · have hc : (tb && eg && jd) = false := by
        cases tb <;> cases eg <;> cases jd <;> simp at hgo ⊢
      have c4' : wr.cell? ⟨j, 4, none⟩ = some (.bool jd) := by rw [hjd]; exact c4
      have hcs : tb = false ∨ (tb = true ∧ eg = false) ∨ (tb = true ∧ eg = true ∧ jd = false) := by
        cases tb <;> cases eg <;> cases jd <;> simp at hgo ⊢
      have HFN := Lib.hid (show keepL J.d J.R = (if tb then [⟨ek, ev, eg⟩] else []) ++ keepL J.d R' ∧ (tb = false → keepL J.d R' = []) by
        rw [HK.out.1]
        cases tb with
        | false => exact ⟨rfl, fun h => by rw [HK.out.2 h]; unfold keepL; simp⟩
        | true =>
          refine ⟨?_, fun h => by cases h⟩
          show keepL J.d (⟨ek, ev, eg⟩ :: R') = _
          rw [keep_cons, if_neg]
          · rfl
          · rw [← HD.out]
            intro h
            cases jd <;> cases eg <;> simp at h hc)
      clear hjd c4 hgo hc
      rcases hcs with rfl | ⟨rfl, rfl⟩ | ⟨rfl, rfl, rfl⟩
      all_goals
        go_wp2_with (first
          | (refine wpList_load_run (by rfl) 42 (.tmp 4) rfl ⟨g, 0, none⟩ rfl _ HBX.out.run_load ?_)
          | (refine Box.store HBB.out rfl (.tmp 2) (.tmp 33) rfl rfl ⟨ek, ev, _⟩ rfl ?_
             intro w6 hb6 hs6
             have H6 := Lib.hid hb6
             have hX6 : ∀ k, A2 k → ¬ (k = b) := fun k hk e => by
               rw [HA3.out] at hk
               have := HB.out
               rcases hk with hk | hk <;> omega
             have HJ6 := Lib.hid (HJ.out.stay hs6 hX6)
             have HS6 := Lib.hid (HS.out.andThen hs6 (fun k hk e => by have h1 : k = b := e; have := HB.out; omega))
             clear hb6 hs6 hX6))
        have hld := H6.out.run_load
        first
          | refine bodyPost_ret (v := .tuple #[enV ⟨ek, ev, eg⟩, .bool false]) (by simp [results, Tryz.results40, asAddr, hld]) rfl ⟨false, ⟨ek, ev, eg⟩, R', rfl, HJ6.out.at.mono (fun k hk h => ?_), HS6.out, by simpa using HFN.out.1, by simpa using HFN.out.2⟩
          | refine bodyPost_ret (v := .tuple #[enV ⟨ek, ev, false⟩, .bool true]) (by simp [results, Tryz.results40, asAddr, hld]) rfl ⟨true, ⟨ek, ev, false⟩, R', rfl, HJ6.out.at.mono (fun k hk h => ?_), HS6.out, by simpa using HFN.out.1, by simpa using HFN.out.2⟩
          | refine bodyPost_ret (v := .tuple #[enV ⟨ek, ev, true⟩, .bool true]) (by simp [results, Tryz.results40, asAddr, hld]) rfl ⟨true, ⟨ek, ev, true⟩, R', rfl, HJ6.out.at.mono (fun k hk h => ?_), HS6.out, by simpa using HFN.out.1, by simpa using HFN.out.2⟩
        rw [HA3.out] at h
        exact h.elim (fun h => .inl h.1) (fun h => .inr h.1)
end Go.Proofs.YtljlfdhjolcnaaaGreat.Ix
