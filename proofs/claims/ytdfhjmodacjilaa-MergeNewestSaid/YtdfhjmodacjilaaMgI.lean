/-
  merge: the next entry of a reader.
-/
import Derived.Test.YtdfhjmodacjilaaMgG
namespace Go.Proofs.Ytdfhjmodacjilaa.Mg
open Go.RowKit Go.Maps Me
set_option maxRecDepth 100000
set_option linter.unusedVariables false

/-- How many entries are left, as memory tells it. -/
def odLen (w : World) (v : Value) : Nat := match v with
  | .pointer (some ad) => match w.cell? ad with
    | some (.slice _ m _) => m
    | _ => 0
  | _ => 0
def leftW (w : World) (r : Nat) : Nat := match w.cell? ⟨r, 0, none⟩ with
  | some (.slice (some ad) n _) => ((List.range n).map fun j => match w.cell? (ad.add j) with | some v => odLen w v | none => 0).sum
  | _ => 0
theorem RdAt.left {A : Nat → Prop} {w : World} {r : Nat} {H : List Od} (h : RdAt A w r H) : leftW w r = leftO H := by
  by_cases h0 : H.length = 0
  · have : H = [] := List.eq_nil_of_length_eq_zero h0
    subst this
    obtain ⟨v, h1, h2, _⟩ := h.ex
    have c0 : w.cell? ⟨r, 0, none⟩ = some v := by rw [cell_of_row w r 0 _ _ _ h1]; rfl
    obtain ⟨a, c, rfl⟩ := h2.form
    unfold leftW
    rw [c0]
    cases a <;> simp [leftO]
  · obtain ⟨g, c, h1, h2, _⟩ := h.row (by omega)
    have c0 : w.cell? ⟨r, 0, none⟩ = some (.slice (some ⟨g, 0, none⟩) H.length c) := by rw [cell_of_row w r 0 _ _ _ h1]; rfl
    unfold leftW
    rw [c0]
    unfold leftO
    dsimp only
    congr 1
    apply List.ext_getElem
    · simp
    · intro j hj1 hj2
      have hj : j < H.length := by simpa using hj2
      have ho : H[j]? = some H[j] := List.getElem?_eq_getElem hj
      have hc := h2.cell ho
      have hod := (h.at ho).1
      have c1 := hod.c0
      obtain ⟨a0, c', hv⟩ := hod.e.1.form
      rw [hv] at c1
      simp only [List.getElem_map, List.getElem_range, add_at, Nat.zero_add]
      rw [hc]
      simp only [odLen, c1]

/-- A reader of which these entries come. -/
structure RdS (A : Nat → Prop) (w : World) (r : Nat) (L : List En) (N : Nat) : Prop where
  ex : ∃ H, RdAt A w r H ∧ HF H 0 H.length ∧ Good H ∧ Tells (hasO H) L ∧ H.length ≤ N
/-- Behind a key that came. -/
structure RdK (A : Nat → Prop) (w : World) (r : Nat) (k : List UInt8) (L : List En) (N : Nat) (H : List Od) : Prop where
  r : RdAt A w r H
  f : HF H 0 H.length
  g : Good H
  a : Above k (hasO H) L
  n : H.length ≤ N
theorem RdS.stay {A X : Nat → Prop} {w w' : World} {r N : Nat} {L : List En} (h : RdS A w r L N) (hs : Stay X w w') (hx : ∀ k, A k → ¬ X k) : RdS A w' r L N := by
  obtain ⟨H, h1, h2⟩ := h.ex
  exact ⟨H, h1.stay hs hx, h2⟩
theorem RdS.stay0 {A : Nat → Prop} {w w' : World} {r N : Nat} {L : List En} (h : RdS A w r L N) (hs : Stay (fun _ => False) w w') : RdS A w' r L N := h.stay hs (fun _ _ x => x)
theorem RdS.mono {A A' : Nat → Prop} {w : World} {r N : Nat} {L : List En} (h : RdS A w r L N) (hb : ∀ k, k < w.heap.size → A k → A' k) : RdS A' w r L N := by
  obtain ⟨H, h1, h2⟩ := h.ex
  exact ⟨H, h1.mono hb, h2⟩
theorem RdK.stay {A X : Nat → Prop} {w w' : World} {r N : Nat} {k : List UInt8} {L : List En} {H : List Od} (h : RdK A w r k L N H) (hs : Stay X w w') (hx : ∀ k, A k → ¬ X k) : RdK A w' r k L N H := ⟨h.r.stay hs hx, h.f, h.g, h.a, h.n⟩
theorem RdK.mono {A A' : Nat → Prop} {w : World} {r N : Nat} {k : List UInt8} {L : List En} {H : List Od} (h : RdK A w r k L N H) (hb : ∀ k, k < w.heap.size → A k → A' k) : RdK A' w r k L N H := ⟨h.r.mono hb, h.f, h.g, h.a, h.n⟩
theorem Box.set1 {w : World} {g : Nat} {x : En} (h : Box w g x) : Box (w.setCell ⟨g, 1, none⟩ (.string ⟨#[]⟩)) g ⟨x.k, [], x.g⟩ := by
  unfold Box
  rw [heap_setCell_same w g 1 _ _ _ h]
  rfl
theorem good_len {H : List Od} {x : Od} {n : Nat} (h : H.length ≤ n + 1) (h0 : H[0]? = some x) : ∃ m, H.length = m + 1 ∧ m ≤ n := ⟨H.length - 1, by have := (List.getElem?_eq_some_iff.1 h0).1; omega, by omega⟩
theorem took_len {A : Nat → Prop} {w w' : World} {r : Nat} {H H' : List Od} {o : Od} {x : En} {t : List En} (h : Took A w w' r H H' o x t) : H'.length ≤ H.length := by
  obtain ⟨H3, o', h1, _, _, h2⟩ := h.ex
  rw [h1.length_eq, h2.length_eq]
  split <;> simp
theorem took_all {A : Nat → Prop} {w w' : World} {r : Nat} {H H' : List Od} {o : Od} {x : En} {t : List En} (h : Took A w w' r H H' o x t) (hg : Good H) :
    hasO H' = less1 (hasO H) o.n x ∧ Good H' ∧ leftO H' + 1 = leftO H ∧ hasO H o.n x ∧ ∀ n' y, hasO H n' y → ltB y.k x.k = false ∧ (y.k = x.k → o.n ≤ n') := by
  obtain ⟨H3, o', h1, h2, h3, h4⟩ := h.ex
  have hg' := hg.perm h1.symm
  obtain ⟨k1, k2, k3⟩ := took_has hg' h.l h2 h3 h4
  rw [has_perm h1.symm] at k1
  rw [left_perm h1.symm] at k3
  have := first_min hg (h1.mem_iff.2 (by simp)) h.l h.min
  exact ⟨k1, k2, k3, this⟩
/-- The first of a heap is not below any that is left. -/
theorem root_key {H : List Od} {o : Od} {y : En} {t : List En} (hf : HF H 0 H.length) (hg : Good H) (h0 : H[0]? = some o) (hl : o.l = y :: t) : hasO H o.n y ∧ ∀ n' z, hasO H n' z → ltB z.k y.k = false ∧ (z.k = y.k → o.n ≤ n') :=
  first_min hg (List.mem_of_getElem? h0) hl (fun b hb => by
    obtain ⟨i, hi, rfl⟩ := List.getElem_of_mem hb
    exact hf.min h0 i _ hi (Nat.le_refl _) (List.getElem?_eq_getElem hi))

set_option maxHeartbeats 1200000 in
theorem next_nil (w : World) : Calls Try.prog 12 #[.pointer none] w fun e w' => e = .returned (.tuple #[enV ⟨[], [], false⟩, .bool false]) ∧ Stay (fun _ => False) w w' := by
  have HBX := Lib.hid (Box.new w ⟨[], [], false⟩)
  have HA := Lib.hid (show Stay (fun _ => False) w (w.alloc (.cells (enC ⟨[], [], false⟩).toArray 28)) from Stay.alloc _ _)
  obtain ⟨w0, hw0⟩ : ∃ w0, w.alloc (.cells (enC ⟨[], [], false⟩).toArray 28) = w0 := ⟨_, rfl⟩
  rw [hw0] at HBX HA
  have W0 := Lib.hid hw0
  clear hw0
  go_enter Try.func12, Try.ntmps12
  go_wp2_with (first
    | (with_reducible refine alloc_en rfl rfl ?_; rw [W0.out])
    | (refine Box.store HBX.out rfl (.tmp 2) (.tmp 15) rfl rfl ⟨[], [], false⟩ rfl ?_
       intro w6 hb6 hs6
       have H6 := Lib.hid hb6
       have HS6 := Lib.hid (stay_seal (HA.out.mono (fun _ x => x.elim) |>.trans hs6) (fun k hk => by have hk' : k = w.heap.size := hk; omega))
       clear hb6 hs6))
  try go_frame
  have hld := H6.out.run_load
  refine bodyPost_ret (v := .tuple #[enV ⟨[], [], false⟩, .bool false]) (by simp [results, Try.results12, asAddr, hld]) rfl ⟨rfl, HS6.out⟩

set_option maxHeartbeats 1200000 in
theorem next_done (A : Nat → Prop) (w : World) (r N : Nat) (h : RdS A w r [] N) : Calls Try.prog 12 #[.pointer (some ⟨r, 0, none⟩)] w fun e w' => e = .returned (.tuple #[enV ⟨[], [], false⟩, .bool false]) ∧ Stay (fun _ => False) w w' := by
  obtain ⟨H, h1, _, hg, ht, _⟩ := h.ex
  have hH : H = [] := by
    cases H with
    | nil => rfl
    | cons o r =>
      obtain ⟨x, t, hl⟩ := List.exists_cons_of_ne_nil (hg.ne o (by simp))
      obtain ⟨e, he, _⟩ := ht.all o.n x ⟨o, by simp, rfl, by rw [hl]; simp⟩
      cases he
  subst hH
  obtain ⟨v, hr, hP, _⟩ := h1.ex
  obtain ⟨a, c, rfl⟩ := hP.form
  have c0 : w.cell? ⟨r, 0, none⟩ = some (.slice a 0 c) := by rw [cell_of_row w r 0 _ _ _ hr]; rfl
  have HBX := Lib.hid (Box.new w ⟨[], [], false⟩)
  have HA := Lib.hid (show Stay (fun _ => False) w (w.alloc (.cells (enC ⟨[], [], false⟩).toArray 28)) from Stay.alloc _ _)
  obtain ⟨w0, hw0⟩ : ∃ w0, w.alloc (.cells (enC ⟨[], [], false⟩).toArray 28) = w0 := ⟨_, rfl⟩
  rw [hw0] at HBX HA
  have W0 := Lib.hid hw0
  have d0 := HA.out.cell c0 (fun x => x)
  clear hw0 h h1 hr hP hg ht c0
  go_enter Try.func12, Try.ntmps12
  go_wp2_with (first
    | (with_reducible refine alloc_en rfl rfl ?_; rw [W0.out])
    | (refine Box.store HBX.out rfl (.tmp 2) (.tmp 15) rfl rfl ⟨[], [], false⟩ rfl ?_
       intro w6 hb6 hs6
       have H6 := Lib.hid hb6
       have HS6 := Lib.hid (stay_seal (HA.out.mono (fun _ x => x.elim) |>.trans hs6) (fun k hk => by have hk' : k = w.heap.size := hk; omega))
       clear hb6 hs6))
  try go_frame
  have hld := H6.out.run_load
  refine bodyPost_ret (v := .tuple #[enV ⟨[], [], false⟩, .bool false]) (by simp [results, Try.results12, asAddr, hld]) rfl ⟨rfl, HS6.out⟩

set_option maxHeartbeats 4000000 in
theorem next_some (A : Nat → Prop) (w : World) (r N : Nat) (e0 : En) (L : List En) (h : RdS A w r (e0 :: L) N) (hN : N ≤ 10000) : Calls Try.prog 12 #[.pointer (some ⟨r, 0, none⟩)] w fun e w' => e = .returned (.tuple #[enV e0, .bool true]) ∧ RdS (fun k => A k ∨ w.heap.size ≤ k) w' r L N ∧ Stay A w w' ∧ leftW w' r < leftW w r := by
  obtain ⟨H, h1, hf, hg, ht, hn⟩ := h.ex
  have hlw := h1.left
  have hH : H ≠ [] := by
    rintro rfl
    obtain ⟨n, x, ⟨o, ho, _⟩, _⟩ := ht.frm e0 (by simp)
    cases ho
  obtain ⟨o0, r0, rfl⟩ := List.exists_cons_of_ne_nil hH
  have HLW := Lib.hid hlw
  clear hlw
  obtain ⟨m, hm⟩ : ∃ m, m = r0.length := ⟨_, rfl⟩
  obtain ⟨g, c, hr, hP, _⟩ := h1.row (by simp)
  have c0 : w.cell? ⟨r, 0, none⟩ = some (.slice (some ⟨g, 0, none⟩) (m + 1) c) := by rw [cell_of_row w r 0 _ _ _ hr, hm]; rfl
  have HBX := Lib.hid (Box.new w ⟨[], [], false⟩)
  have HA := Lib.hid (show Stay (fun _ => False) w (w.alloc (.cells (enC ⟨[], [], false⟩).toArray 28)) from Stay.alloc _ _)
  have HSZ := Lib.hid (show (w.alloc (.cells (enC ⟨[], [], false⟩).toArray 28)).heap.size = w.heap.size + 1 by simp)
  obtain ⟨w0, hw0⟩ : ∃ w0, w.alloc (.cells (enC ⟨[], [], false⟩).toArray 28) = w0 := ⟨_, rfl⟩
  rw [hw0] at HBX HA HSZ
  have W0 := Lib.hid hw0
  have d0 := HA.out.cell c0 (fun x => x)
  have HTK := Lib.hid (take_any _ w0 r m (o0 :: r0) (h1.trim.stay0 HA.out) (by rw [List.length_cons, hm]) hf (by rw [List.length_cons, ← hm] at hn; omega))
  have HG := Lib.hid hg
  have HTT := Lib.hid ht
  have HNN := Lib.hid hn
  clear hw0 h h1 hr hP hg ht c0 hf hn hH hm
  go_enter Try.func12, Try.ntmps12
  go_wp2_with (with_reducible refine alloc_en rfl rfl ?_; rw [W0.out])
  refine HTK.out.mono ?_
  rintro e w1 ⟨o, x, t, H1, rfl, hT⟩
  have HS1 := Lib.hid hT.st
  have HL1 := Lib.hid (took_len hT)
  obtain ⟨k1, k2, k3, k4, k5⟩ := took_all hT HG.out
  obtain ⟨L', hLL, habv⟩ := head_of HTT.out HG.out.uniq k4 k5
  rw [← k1] at habv
  obtain ⟨rfl, rfl⟩ : e0 = norm x ∧ L = L' := by cases hLL; exact ⟨rfl, rfl⟩
  have HK1 := Lib.hid (show RdK _ w1 r x.k L N H1 from ⟨hT.rd.trim, hT.heap, k2, habv, Nat.le_trans (took_len hT) HNN.out⟩)
  have HLT1 := Lib.hid (show leftO H1 < leftW w r from by rw [HLW.out]; omega)
  have HBX1 := Lib.hid (HBX.out.stay hT.st (fun hk => Nat.lt_irrefl _ hk.2))
  have HBN := Lib.hid (Box.new w1 ⟨[], [], false⟩)
  have HA2 := Lib.hid (show Stay (fun _ => False) w1 (w1.alloc (.cells (enC ⟨[], [], false⟩).toArray 28)) from Stay.alloc _ _)
  have HSZ2 := Lib.hid (show (w1.alloc (.cells (enC ⟨[], [], false⟩).toArray 28)).heap.size = w1.heap.size + 1 by simp)
  obtain ⟨w2, hw2⟩ : ∃ w2, w1.alloc (.cells (enC ⟨[], [], false⟩).toArray 28) = w2 := ⟨_, rfl⟩
  rw [hw2] at HBN HA2 HSZ2
  have W2 := Lib.hid hw2
  clear hT k1 k2 k3 k4 k5 hLL habv hw2 HTK
  go_wp2_with (first
    | (with_reducible refine alloc_en rfl rfl ?_; rw [W2.out])
    | (refine Box.store HBN.out rfl (.tmp 4) (.tmp 17) rfl rfl x rfl ?_
       intro w3 hb3 hs3
       have H3 := Lib.hid hb3
       have HS3 := Lib.hid ((HA2.out.mono (Y := (· = w1.heap.size)) (fun _ x => x.elim)).trans hs3)
       have HZ3 := Lib.hid (show w1.heap.size < w3.heap.size from by have h1 := hs3.size; have h2 := HSZ2.out; omega)
       clear hb3 hs3))
  have HK3 := Lib.hid (show RdK (fun k => (((A k ∧ k < w.heap.size) ∨ w0.heap.size ≤ k) ∧ k < w1.heap.size) ∨ w3.heap.size ≤ k) w3 r x.k L N H1 from (HK1.out.stay HS3.out (fun k hk e => by have h1 := hk.2; have h2 : k = w1.heap.size := e; omega)).mono (fun k _ hk => .inl hk))
  have HBX3 := Lib.hid (HBX1.out.stay HS3.out (fun e => by have h1 : w.heap.size = w1.heap.size := e; have h2 := HSZ.out; have h3 := HS1.out.size; omega))
  clear HBX1 HBN HL1
  obtain ⟨AL, hAL⟩ : ∃ AL : Nat → Prop, AL = (fun k => (((A k ∧ k < w.heap.size) ∨ w0.heap.size ≤ k) ∧ k < w1.heap.size) ∨ w3.heap.size ≤ k) := ⟨_, rfl⟩
  have HNB := Lib.hid (show ¬ AL w1.heap.size ∧ ¬ AL w.heap.size ∧ (∀ k, k < w.heap.size → AL k → A k) ∧ (∀ k, w3.heap.size ≤ k → AL k) ∧ ∀ k, AL k → A k ∨ w.heap.size ≤ k from by
    rw [hAL]
    have h1 := HZ3.out
    have h2 := HSZ.out
    have h3 := HS1.out.size
    refine ⟨fun h => ?_, fun h => ?_, fun k hk h => ?_, fun k hk => .inr hk, fun k h => ?_⟩
    · rcases h with h | h
      · exact Nat.lt_irrefl _ h.2
      · omega
    · rcases h with h | h
      · rcases h.1 with h | h
        · exact Nat.lt_irrefl _ h.2
        · omega
      · omega
    · rcases h with h | h
      · rcases h.1 with h | h
        · exact h.1
        · omega
      · omega
    · rcases h with h | h
      · exact h.1.imp (fun h => h.1) (fun h => by omega)
      · exact .inr (by omega))
  rw [← hAL] at HK3
  have HST3 := Lib.hid (show Stay A w w3 from ((HA.out.mono (fun _ x => x.elim)).andThen HS1.out (fun k _ hk => hk.1)).andThen HS3.out (fun k hk e => by have h2 : k = w1.heap.size := e; have h3 := HSZ.out; have h4 := HS1.out.size; omega))
  have HLT := Lib.hid (show w.heap.size < w1.heap.size from by have h3 := HSZ.out; have h4 := HS1.out.size; omega)
  clear hAL HK1 HS1 HS3 HA HA2 d0 HTT HG HNN
  go_frame
  go_loopw [] (fun wr => ∃ H' : List Od, Hid (RdK AL wr r x.k L N H') ∧ Hid (leftO H' < leftW w r) ∧ Hid (Stay AL w3 wr)) (fun wr => leftW wr r)
  case atStart => exact ⟨H1, HK3, HLT1, Lib.hid (Stay.refl _ _)⟩
  case round =>
    obtain ⟨H', HK', HLE, HS'⟩ := hrel
    have HMS := Lib.hid HK'.out.r.left
    have HB4 := Lib.hid (H3.out.stay HS'.out HNB.out.1)
    have HB2 := Lib.hid (HBX3.out.stay HS'.out HNB.out.2.1)
    have HRA := Lib.hid (show ∃ H9, RdAt AL wr r H9 ∧ leftO H9 < leftW w r from ⟨H', HK'.out.r, HLE.out⟩)
    by_cases hH : H' = []
    · subst hH
      have HTL := Lib.hid (show RdS AL wr r L N from ⟨[], HK'.out.r, HK'.out.f, HK'.out.g, HK'.out.a.tells (fun n y hy => by obtain ⟨o, ho, _⟩ := hy; cases ho), HK'.out.n⟩)
      obtain ⟨v', hr', hP', _⟩ := HK'.out.r.ex
      obtain ⟨a', c', rfl⟩ := hP'.form
      have d0 : wr.cell? ⟨r, 0, none⟩ = some (.slice a' 0 c') := by rw [cell_of_row wr r 0 _ _ _ hr']; rfl
      clear hr' hP'
      go_wp2
      go_quiet (fail)
      have HQ := Lib.hid (stay_drewN (X := fun _ => False) wr nq)
      have HB5 := Lib.hid (HB4.out.stay0 HQ.out)
      have HX5 := Lib.hid (HB2.out.stay0 HQ.out)
      have HT5 := Lib.hid (HTL.out.stay0 HQ.out)
      have HS5 := Lib.hid (show Stay AL w3 (wr.drewN nq) from HS'.out.trans (HQ.out.mono (fun _ x => x.elim)))
      generalize wr.drewN nq = w5 at *
      have hb2 := HB5.out.c (j := 2) rfl
      cases hg : x.g with
      | true =>
        have HN := Lib.hid (show norm x = ⟨x.k, [], x.g⟩ from by unfold norm; rw [if_pos hg, hg])
        rw [hg] at hb2
        have hb1 := HB5.out.c (j := 1) rfl
        have hf1 := HB5.out.fr 1
        have HB6 := Lib.hid (Mg.Box.set1 HB5.out)
        have HS56 := Lib.hid (show Stay (· = w1.heap.size) w5 (w5.setCell ⟨w1.heap.size, 1, none⟩ (.string ⟨#[]⟩)) from Stay.setCell _ _ _ rfl)
        have HX6 := Lib.hid (HX5.out.stay HS56.out (fun e => by have h1 : w.heap.size = w1.heap.size := e; have h2 := HLT.out; omega))
        clear hg
        go_wp2_with (first
          | (refine wpList_load_run (by rfl) 28 (.tmp 4) rfl ⟨w1.heap.size, 0, none⟩ rfl _ HB6.out.run_load ?_)
          | (refine Box.store HX6.out rfl (.tmp 2) (.tmp 46) rfl rfl ⟨x.k, [], x.g⟩ rfl ?_
             intro w6 hb6 hs6
             have H6 := Lib.hid hb6
             have HS6 := Lib.hid hs6
             clear hb6 hs6))
        try go_frame
        have hld := H6.out.run_load
        refine bodyPost_ret (v := .tuple #[enV ⟨x.k, [], x.g⟩, .bool true]) (by simp [results, Try.results12, asAddr, hld]) rfl ?_
        refine ⟨by rw [HN.out], ?_, ?_, ?_⟩
        · refine ((HT5.out.stay HS56.out (fun k hk e => HNB.out.1 (by have h2 : k = w1.heap.size := e; rwa [← h2]))).stay HS6.out (fun k hk e => HNB.out.2.1 (by have h2 : k = w.heap.size := e; rwa [← h2]))).mono (fun k _ hk => HNB.out.2.2.2.2 k hk)
        · exact ((HST3.out.andThen HS5.out (fun k hk h => HNB.out.2.2.1 k hk h)).andThen HS56.out (fun k hk e => by have h2 : k = w1.heap.size := e; have h3 := HLT.out; omega)).andThen HS6.out (fun k hk e => by have h2 : k = w.heap.size := e; omega)
        · obtain ⟨H9, h9, h8⟩ := HRA.out
          rw [(((h9.stay0 HQ.out).stay HS56.out (fun k hk e => HNB.out.1 (by have h2 : k = w1.heap.size := e; rwa [← h2]))).stay HS6.out (fun k hk e => HNB.out.2.1 (by have h2 : k = w.heap.size := e; rwa [← h2]))).left]
          exact h8
      | false =>
        have HN := Lib.hid (show norm x = x from by unfold norm; rw [if_neg (by rw [hg]; simp)])
        rw [hg] at hb2
        clear hg
        go_wp2_with (first
          | (refine wpList_load_run (by rfl) 28 (.tmp 4) rfl ⟨w1.heap.size, 0, none⟩ rfl _ HB5.out.run_load ?_)
          | (refine Box.store HX5.out rfl (.tmp 2) (.tmp 46) rfl rfl x rfl ?_
             intro w6 hb6 hs6
             have H6 := Lib.hid hb6
             have HS6 := Lib.hid hs6
             clear hb6 hs6))
        try go_frame
        have hld := H6.out.run_load
        refine bodyPost_ret (v := .tuple #[enV x, .bool true]) (by simp [results, Try.results12, asAddr, hld]) rfl ?_
        refine ⟨by rw [HN.out], ?_, ?_, ?_⟩
        · exact (HT5.out.stay HS6.out (fun k hk e => HNB.out.2.1 (by have h2 : k = w.heap.size := e; rwa [← h2]))).mono (fun k _ hk => HNB.out.2.2.2.2 k hk)
        · exact (HST3.out.andThen HS5.out (fun k hk h => HNB.out.2.2.1 k hk h)).andThen HS6.out (fun k hk e => by have h2 : k = w.heap.size := e; omega)
        · obtain ⟨H9, h9, h8⟩ := HRA.out
          rw [((h9.stay0 HQ.out).stay HS6.out (fun k hk e => HNB.out.2.1 (by have h2 : k = w.heap.size := e; rwa [← h2]))).left]
          exact h8
    · obtain ⟨o, r1, rfl⟩ := List.exists_cons_of_ne_nil hH
      obtain ⟨m1, hm1⟩ : ∃ m1, m1 = r1.length := ⟨_, rfl⟩
      obtain ⟨g1, c1, hr1, hP1, _⟩ := HK'.out.r.row (by simp)
      have d0 : wr.cell? ⟨r, 0, none⟩ = some (.slice (some ⟨g1, 0, none⟩) (m1 + 1) c1) := by rw [cell_of_row wr r 0 _ _ _ hr1, hm1]; rfl
      have d1 := hP1.cell (j := 0) (o := o) rfl
      obtain ⟨hod, _, hne, _⟩ := HK'.out.r.at (j := 0) (o := o) rfl
      obtain ⟨y, t1, hl1⟩ := List.exists_cons_of_ne_nil hne
      obtain ⟨ga, oa, na, hv1, _, e0, _⟩ := hod.first hl1
      have d2 := hod.c0
      rw [hv1] at d2
      have e1 := HB4.out.c (j := 0) rfl
      obtain ⟨q1, q2⟩ := root_key HK'.out.f HK'.out.g (o := o) rfl hl1
      have HLEN := Lib.hid (show m1 + 1 ≤ N from by have h1 := HK'.out.n; rw [List.length_cons, ← hm1] at h1; exact h1)
      have HM1 := Lib.hid hm1
      have HQ1 := Lib.hid q1
      have HQ2 := Lib.hid q2
      generalize o.p = op at *
      clear hr1 hP1 hod hne hl1 hv1 hH hm1 q1 q2
      by_cases hkk : y.k = x.k
      · rw [hkk] at e0
        have HTK := Lib.hid (fun W (hs : Stay (fun _ => False) wr W) => take_any AL W r m1 (o :: r1) (HK'.out.r.stay0 hs) (by rw [List.length_cons, HM1.out]) HK'.out.f (by have := HLEN.out; omega))
        have HKK := Lib.hid hkk
        clear hkk
        go_wp2
        go_quiet (fail)
        have HQ := Lib.hid (stay_drewN (X := fun _ => False) wr nq)
        have HTK2 := Lib.hid (HTK.out _ HQ.out)
        clear d0 d1 d2 e0 e1 HTK
        go_wp2_with fail
        refine HTK2.out.mono ?_
        rintro e w6 ⟨o2, x2, t2, H2, rfl, hT⟩
        have HT := Lib.hid hT
        clear hT HTK2
        go_wp2
        obtain ⟨k1, k2, k3, k4, k5⟩ := took_all HT.out HK'.out.g
        have hx2 : x2.k = x.k := by
          refine (lt_one ?_ ?_)
          · have h1 := (k5 _ _ HQ1.out).1
            rw [HKK.out] at h1
            exact HK'.out.a.low _ _ k4
          · have h1 := (k5 _ _ HQ1.out).1
            rw [HKK.out] at h1
            exact h1
        have hab := HK'.out.a.skip (n := o2.n) hx2
        rw [← k1] at hab
        refine ⟨⟨H2, Lib.hid ⟨HT.out.rd.mono (fun k _ hk => ?_), HT.out.heap, k2, hab, Nat.le_trans (took_len HT.out) HK'.out.n⟩, Lib.hid (by have := HLE.out; omega), Lib.hid ((HS'.out.trans (HQ.out.mono (fun _ x => x.elim))).andThen HT.out.st (fun k _ hk => hk))⟩, ?_⟩
        · rcases hk with hk | hk
          · exact hk
          · exact HNB.out.2.2.2.1 k (Nat.le_trans (HS'.out.trans (HQ.out.mono (fun _ x => x.elim))).size hk)
        · rw [HMS.out, HT.out.rd.left]
          omega
      · have hne : (y.k == x.k) = false := by simpa using hkk
        have HTL := Lib.hid (show RdS AL wr r L N from ⟨o :: r1, HK'.out.r, HK'.out.f, HK'.out.g, HK'.out.a.tells (fun n z hz hzk => by
          have h1 := (HQ2.out n z hz).1
          have h2 := HK'.out.a.low _ _ HQ1.out
          rw [hzk] at h1
          exact hkk (lt_one h2 h1)), HK'.out.n⟩)
        clear hkk
        go_wp2
        go_quiet (fail)
        have HQ := Lib.hid (stay_drewN (X := fun _ => False) wr nq)
        have HB5 := Lib.hid (HB4.out.stay0 HQ.out)
        have HX5 := Lib.hid (HB2.out.stay0 HQ.out)
        have HT5 := Lib.hid (HTL.out.stay0 HQ.out)
        have HS5 := Lib.hid (show Stay AL w3 (wr.drewN nq) from HS'.out.trans (HQ.out.mono (fun _ x => x.elim)))
        generalize wr.drewN nq = w5 at *
        have hb2 := HB5.out.c (j := 2) rfl
        cases hg : x.g with
        | true =>
          have HN := Lib.hid (show norm x = ⟨x.k, [], x.g⟩ from by unfold norm; rw [if_pos hg, hg])
          rw [hg] at hb2
          have hb1 := HB5.out.c (j := 1) rfl
          have hf1 := HB5.out.fr 1
          have HB6 := Lib.hid (Mg.Box.set1 HB5.out)
          have HS56 := Lib.hid (show Stay (· = w1.heap.size) w5 (w5.setCell ⟨w1.heap.size, 1, none⟩ (.string ⟨#[]⟩)) from Stay.setCell _ _ _ rfl)
          have HX6 := Lib.hid (HX5.out.stay HS56.out (fun e => by have h1 : w.heap.size = w1.heap.size := e; have h2 := HLT.out; omega))
          clear hg
          go_wp2_with (first
            | (refine wpList_load_run (by rfl) 28 (.tmp 4) rfl ⟨w1.heap.size, 0, none⟩ rfl _ HB6.out.run_load ?_)
            | (refine Box.store HX6.out rfl (.tmp 2) (.tmp 46) rfl rfl ⟨x.k, [], x.g⟩ rfl ?_
               intro w6 hb6 hs6
               have H6 := Lib.hid hb6
               have HS6 := Lib.hid hs6
               clear hb6 hs6))
          try go_frame
          have hld := H6.out.run_load
          refine bodyPost_ret (v := .tuple #[enV ⟨x.k, [], x.g⟩, .bool true]) (by simp [results, Try.results12, asAddr, hld]) rfl ?_
          refine ⟨by rw [HN.out], ?_, ?_, ?_⟩
          · refine ((HT5.out.stay HS56.out (fun k hk e => HNB.out.1 (by have h2 : k = w1.heap.size := e; rwa [← h2]))).stay HS6.out (fun k hk e => HNB.out.2.1 (by have h2 : k = w.heap.size := e; rwa [← h2]))).mono (fun k _ hk => HNB.out.2.2.2.2 k hk)
          · exact ((HST3.out.andThen HS5.out (fun k hk h => HNB.out.2.2.1 k hk h)).andThen HS56.out (fun k hk e => by have h2 : k = w1.heap.size := e; have h3 := HLT.out; omega)).andThen HS6.out (fun k hk e => by have h2 : k = w.heap.size := e; omega)
          · obtain ⟨H9, h9, h8⟩ := HRA.out
            rw [(((h9.stay0 HQ.out).stay HS56.out (fun k hk e => HNB.out.1 (by have h2 : k = w1.heap.size := e; rwa [← h2]))).stay HS6.out (fun k hk e => HNB.out.2.1 (by have h2 : k = w.heap.size := e; rwa [← h2]))).left]
            exact h8
        | false =>
          have HN := Lib.hid (show norm x = x from by unfold norm; rw [if_neg (by rw [hg]; simp)])
          rw [hg] at hb2
          clear hg
          go_wp2_with (first
            | (refine wpList_load_run (by rfl) 28 (.tmp 4) rfl ⟨w1.heap.size, 0, none⟩ rfl _ HB5.out.run_load ?_)
            | (refine Box.store HX5.out rfl (.tmp 2) (.tmp 46) rfl rfl x rfl ?_
               intro w6 hb6 hs6
               have H6 := Lib.hid hb6
               have HS6 := Lib.hid hs6
               clear hb6 hs6))
          try go_frame
          have hld := H6.out.run_load
          refine bodyPost_ret (v := .tuple #[enV x, .bool true]) (by simp [results, Try.results12, asAddr, hld]) rfl ?_
          refine ⟨by rw [HN.out], ?_, ?_, ?_⟩
          · exact (HT5.out.stay HS6.out (fun k hk e => HNB.out.2.1 (by have h2 : k = w.heap.size := e; rwa [← h2]))).mono (fun k _ hk => HNB.out.2.2.2.2 k hk)
          · exact (HST3.out.andThen HS5.out (fun k hk h => HNB.out.2.2.1 k hk h)).andThen HS6.out (fun k hk e => by have h2 : k = w.heap.size := e; omega)
          · obtain ⟨H9, h9, h8⟩ := HRA.out
            rw [((h9.stay0 HQ.out).stay HS6.out (fun k hk e => HNB.out.2.1 (by have h2 : k = w.heap.size := e; rwa [← h2]))).left]
            exact h8
end Go.Proofs.Ytdfhjmodacjilaa.Mg
