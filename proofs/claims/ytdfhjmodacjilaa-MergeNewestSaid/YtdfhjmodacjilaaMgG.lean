/-
  merge: the first entry taken off a reader.
-/
import Derived.Test.YtdfhjmodacjilaaMgF
namespace Go.Proofs.Ytdfhjmodacjilaa.Mg
open Go.RowKit Go.Maps Me
set_option maxRecDepth 100000
set_option linter.unusedVariables false

theorem RdAt.trim {A : Nat → Prop} {w : World} {r : Nat} {H : List Od} (h : RdAt A w r H) : RdAt (fun k => A k ∧ k < w.heap.size) w r H := h.mono (fun k hk hA => ⟨hA, hk⟩)
theorem EnT.cut1 {w : World} {g a c : Nat} {x : En} {t : List En} (h : EnT w (.slice (some ⟨g, a, none⟩) (t.length + 1) c) (x :: t)) (hc : ¬ c = 1) : EnT w (.slice (some ⟨g, a + 3, none⟩) t.length (c - 1)) t := by
  have h1 := h.1.cut (i := 1) (by simp)
  rw [if_neg hc, Option.map_some, add_at] at h1
  exact ⟨h1, fun k hk => h.2 k hk⟩
theorem EnT.lt {w : World} {v : Value} {L : List En} (h : EnT w v L) : ∀ k, v.ownBlock = some k → k < w.heap.size := fun k hk => by
  obtain ⟨cs, fr, hg⟩ := h.2 k hk
  exact (Array.getElem?_eq_some_iff.1 hg).1
theorem OdAt.turn {w w' : World} {o : Od} {v : Value} {L : List En} (h : OdAt w o) (hw : w' = w.setCell ⟨o.p, 0, none⟩ v) (he : EnT w v L) : OdAt w' ⟨o.p, v, o.n, L⟩ := by
  subst hw
  refine ⟨?_, he.stay (Stay.setCell (X := (· = o.p)) _ _ _ (by rfl)) (fun k hk => ?_)⟩
  · show (w.setCell ⟨o.p, 0, none⟩ v).heap[o.p]? = _
    rw [heap_setCell_same w o.p 0 _ _ _ h.g]
    rfl
  · obtain ⟨cs, fr, hg⟩ := he.2 k hk
    exact ne_ty hg h.g (by decide)
theorem RdAt.wo {A : Nat → Prop} {w : World} {r : Nat} {H : List Od} {o : Od} (h : RdAt A w r H) (ho : OdAt w o) (hnd : ∀ q ∈ H, q.p ≠ o.p) : RdAt (fun k => A k ∧ k ≠ o.p) w r H := by
  obtain ⟨v, h1, h2, h3⟩ := h.ex
  refine ⟨⟨v, h1, h2, fun k hk => ⟨h3 k hk, ?_⟩⟩, fun q hq => ?_, h.nd, h.rr, ne_ty h1 ho.g (by decide)⟩
  · obtain ⟨cs, fr, hg⟩ := h2.tyb k hk
    exact ne_ty hg ho.g (by decide)
  · obtain ⟨h4, h5, h6, h7⟩ := h.od q hq
    refine ⟨h4, ⟨h5, hnd q hq⟩, h6, fun k hk => ⟨h7 k hk, ?_⟩⟩
    obtain ⟨cs, fr, hg⟩ := h4.e.2 k hk
    exact ne_ty hg ho.g (by decide)
/-- What taking the first entry leaves. -/
structure Took (A : Nat → Prop) (w w' : World) (r : Nat) (H H' : List Od) (o : Od) (x : En) (t : List En) : Prop where
  l : o.l = x :: t
  ex : ∃ H3 o', H.Perm (o :: H3) ∧ o'.n = o.n ∧ o'.l = t ∧ H'.Perm (if t = [] then H3 else o' :: H3)
  min : ∀ b ∈ H, lessO b o = false
  heap : HF H' 0 H'.length
  rd : RdAt (fun k => A k ∨ w.heap.size ≤ k) w' r H'
  st : Stay A w w'

set_option maxHeartbeats 4000000 in
theorem take_any (A : Nat → Prop) (w : World) (r n : Nat) (H : List Od) (h : RdAt A w r H) (hn : H.length = n + 1) (hf : HF H 0 H.length) (hlen : n ≤ 10000) :
    Calls Try.prog 17 #[.pointer (some ⟨r, 0, none⟩)] w fun e w' => ∃ o x t H', e = .returned (enV x) ∧ Took A w w' r H H' o x t := by
  have HBX := Lib.hid (Box.new w ⟨[], [], false⟩)
  have HA := Lib.hid (show Stay (fun _ => False) w (w.alloc (.cells (enC ⟨[], [], false⟩).toArray 28)) from Stay.alloc _ _)
  have HR0 := Lib.hid (h.trim.stay0 HA.out)
  have HSZ := Lib.hid (show (w.alloc (.cells (enC ⟨[], [], false⟩).toArray 28)).heap.size = w.heap.size + 1 by simp)
  obtain ⟨w0, hw0⟩ : ∃ w0, w.alloc (.cells (enC ⟨[], [], false⟩).toArray 28) = w0 := ⟨_, rfl⟩
  rw [hw0] at HBX HA HR0 HSZ
  have W0 := Lib.hid hw0
  have HPOP := Lib.hid (hpop_any _ w0 r n H HR0.out hn hf (by omega))
  have HN := Lib.hid hn
  have HB := Lib.hid hlen
  have hta := fun (W : World) p => run_ta W p
  clear h hn hf hw0 hlen
  go_enter Try.func17, Try.ntmps17
  go_wp2_with (with_reducible refine alloc_en rfl rfl ?_; rw [W0.out])
  unfold hv at HPOP
  refine HPOP.out.mono ?_
  rintro e w1 ⟨o, H1, rfl, hP⟩
  have HP := Lib.hid hP
  have HBX1 := Lib.hid (HBX.out.stay hP.st (fun hk => Nat.lt_irrefl _ hk.2))
  obtain ⟨x, t, hl⟩ := List.exists_cons_of_ne_nil hP.ok.2.1
  have HL := Lib.hid hl
  obtain ⟨g, a, c, hv1, hg, k0, k1, k2⟩ := hP.od.first hl
  have HV1 := Lib.hid hv1
  have c0 := hP.od.c0
  rw [hv1] at c0
  obtain ⟨hc1, hc2⟩ : t.length + 1 ≤ c ∧ c ≤ 9223372036854775807 := by
    obtain ⟨a0', c', e1, h1, h2, _⟩ := hP.od.e.1
    rw [hv1, hl] at e1
    rw [hl] at h1
    cases e1
    exact ⟨h1, h2⟩
  have kl := Lib.hid (run_load_at k0 k1 k2)
  have HBN := Lib.hid (Box.new w1 ⟨[], [], false⟩)
  have HA2 := Lib.hid (show Stay (fun _ => False) w1 (w1.alloc (.cells (enC ⟨[], [], false⟩).toArray 28)) from Stay.alloc _ _)
  obtain ⟨w2, hw2⟩ : ∃ w2, w1.alloc (.cells (enC ⟨[], [], false⟩).toArray 28) = w2 := ⟨_, rfl⟩
  rw [hw2] at HBN HA2
  have W2 := Lib.hid hw2
  have hI1 : (1 : Int) ≤ (t.length : Int) + 1 := by omega
  clear hP hl hv1 k0 k1 k2 hw2 HPOP
  have HB2 := Lib.hid (show w.heap.size < w1.heap.size from by have := HP.out.st.size; have := HSZ.out; omega)
  have HOP := Lib.hid (show o.p < w.heap.size from HP.out.ok.1.2)
  have HND := Lib.hid (show ∀ q ∈ H1, q.p ≠ o.p from fun q hq e => by
    have h1 := (HP.out.perm.map (·.p)).nodup_iff.1 HR0.out.nd
    rw [List.map_cons, List.nodup_cons] at h1
    exact h1.1 (List.mem_map.2 ⟨q, hq, e⟩))
  have HA7 := Lib.hid (show RdAt (fun k => ((A k ∧ k < w.heap.size) ∨ w0.heap.size ≤ k) ∧ k < w1.heap.size) w1 r H1 from HP.out.rd.trim)
  by_cases hce : c = 1
  · subst hce
    have ht0 : t = [] := List.eq_nil_of_length_eq_zero (by omega)
    have HT0 := Lib.hid ht0
    have htl : t.length = 0 := by rw [ht0]; rfl
    clear ht0
    go_wp2_with (first
      | (with_reducible refine alloc_en rfl rfl ?_; rw [W2.out])
      | (refine wpList_load_run (by rfl) 28 (.tmp 15) rfl ⟨g, a, none⟩ rfl _ kl.out ?_)
      | (refine Box.store HBN.out rfl (.tmp 4) (.tmp 16) rfl rfl x rfl ?_
         intro w3 hb3 hs3
         have hs13 : Stay (· = w1.heap.size) w1 w3 := (HA2.out.mono (fun _ x => x.elim)).trans hs3
         have hod3 := HP.out.od.stay hs13 (fun hk => Nat.lt_irrefl _ (hk ▸ HP.out.od.lt)) (fun k hk hx => Nat.lt_irrefl _ (hx ▸ HP.out.od.e.lt k hk))
         have d0 := hod3.c0
         rw [HV1.out] at d0
         have f0 := hod3.fr 0
         have HS3 := Lib.hid hs13
         have HO3 := Lib.hid hod3
         have HS34 := Lib.hid (show Stay (· = o.p) w3 (w3.setCell ⟨o.p, 0, none⟩ (.slice (some ⟨g, a, none⟩) 0 0)) from Stay.setCell _ _ _ rfl)
         have H4 := Lib.hid (hb3.stay HS34.out (fun e => by have h1 := HP.out.od.lt; have h2 : w1.heap.size = o.p := e; omega))
         have HBX4 := Lib.hid ((HBX1.out.stay hs13 (fun e => by have h1 := HB2.out; have h2 : w.heap.size = w1.heap.size := e; omega)).stay HS34.out (fun e => by have h1 := HOP.out; have h2 : w.heap.size = o.p := e; omega))
         have HA3 := Lib.hid (HA7.out.stay hs13 (fun k hk e => by have h1 := hk.2; have h2 : k = w1.heap.size := e; omega))
         have HA4 := Lib.hid (((HA3.out.wo hod3 HND.out).stay HS34.out (fun k hk e => hk.2 e)).mono (fun k _ hk => hk.1) : RdAt (fun k => ((A k ∧ k < w.heap.size) ∨ w0.heap.size ≤ k) ∧ k < w1.heap.size) _ _ _)
         have HST4 := Lib.hid (show Stay A w (w3.setCell ⟨o.p, 0, none⟩ (.slice (some ⟨g, a, none⟩) 0 0)) from by
           refine (((HA.out.mono (fun _ x => x.elim)).andThen HP.out.st (fun k _ hk => hk.1)).andThen hs13 (fun k hk e => ?_)).andThen HS34.out (fun k hk e => ?_)
           · have h1 := HB2.out; have h2 : k = w1.heap.size := e; omega
           · have h2 : k = o.p := e; subst h2; exact HP.out.ok.1.1)
         clear hb3 hs3 hs13 hod3)
      | (refine wpList_load_run (by rfl) 28 (.tmp 4) rfl ⟨w1.heap.size, 0, none⟩ rfl _ H4.out.run_load ?_)
      | (refine Box.store HBX4.out rfl (.tmp 2) (.tmp 38) rfl rfl x rfl ?_
         intro w6 hb6 hs6
         have H6 := Lib.hid hb6
         have HS6 := Lib.hid hs6
         clear hb6 hs6))
    go_frame
    have hld := H6.out.run_load
    refine bodyPost_ret (v := enV x) (by simp [results, Try.results17, asAddr, hld]) rfl ?_
    refine ⟨o, x, t, H1, rfl, HL.out, ⟨H1, ⟨o.p, o.v, o.n, t⟩, HP.out.perm, rfl, rfl, by rw [if_pos HT0.out]⟩, HP.out.min, HP.out.heap, ?_, ?_⟩
    · exact ((HA4.out.stay HS6.out (fun k hk e => by have h2 : k = w.heap.size := e; have h3 := HSZ.out; rcases hk.1 with h | h <;> omega)).mono (fun k _ hk => hk.1.imp (fun h => h.1) (fun h => by have h3 := HSZ.out; omega)))
    · exact HST4.out.andThen HS6.out (fun k hk e => by have h2 : k = w.heap.size := e; omega)
  · by_cases ht : t = []
    · have HT0 := Lib.hid ht
      have htl : t.length = 0 := by rw [ht]; rfl
      clear ht
      go_wp2_with (first
        | (with_reducible refine alloc_en rfl rfl ?_; rw [W2.out])
        | (refine wpList_load_run (by rfl) 28 (.tmp 15) rfl ⟨g, a, none⟩ rfl _ kl.out ?_)
        | (refine Box.store HBN.out rfl (.tmp 4) (.tmp 16) rfl rfl x rfl ?_
           intro w3 hb3 hs3
           have hs13 : Stay (· = w1.heap.size) w1 w3 := (HA2.out.mono (fun _ x => x.elim)).trans hs3
           have hod3 := HP.out.od.stay hs13 (fun hk => Nat.lt_irrefl _ (hk ▸ HP.out.od.lt)) (fun k hk hx => Nat.lt_irrefl _ (hx ▸ HP.out.od.e.lt k hk))
           have d0 := hod3.c0
           rw [HV1.out] at d0
           have f0 := hod3.fr 0
           have HS3 := Lib.hid hs13
           have HO3 := Lib.hid hod3
           have HS34 := Lib.hid (show Stay (· = o.p) w3 (w3.setCell ⟨o.p, 0, none⟩ (.slice (some ⟨g, a + 3, none⟩) 0 (c - 1))) from Stay.setCell _ _ _ rfl)
           have H4 := Lib.hid (hb3.stay HS34.out (fun e => by have h1 := HP.out.od.lt; have h2 : w1.heap.size = o.p := e; omega))
           have HBX4 := Lib.hid ((HBX1.out.stay hs13 (fun e => by have h1 := HB2.out; have h2 : w.heap.size = w1.heap.size := e; omega)).stay HS34.out (fun e => by have h1 := HOP.out; have h2 : w.heap.size = o.p := e; omega))
           have HA3 := Lib.hid (HA7.out.stay hs13 (fun k hk e => by have h1 := hk.2; have h2 : k = w1.heap.size := e; omega))
           have HA4 := Lib.hid (((HA3.out.wo hod3 HND.out).stay HS34.out (fun k hk e => hk.2 e)).mono (fun k _ hk => hk.1) : RdAt (fun k => ((A k ∧ k < w.heap.size) ∨ w0.heap.size ≤ k) ∧ k < w1.heap.size) _ _ _)
           have HST4 := Lib.hid (show Stay A w (w3.setCell ⟨o.p, 0, none⟩ (.slice (some ⟨g, a + 3, none⟩) 0 (c - 1))) from by
             refine (((HA.out.mono (fun _ x => x.elim)).andThen HP.out.st (fun k _ hk => hk.1)).andThen hs13 (fun k hk e => ?_)).andThen HS34.out (fun k hk e => ?_)
             · have h1 := HB2.out; have h2 : k = w1.heap.size := e; omega
             · have h2 : k = o.p := e; subst h2; exact HP.out.ok.1.1)
           clear hb3 hs3 hs13 hod3)
        | (refine wpList_load_run (by rfl) 28 (.tmp 4) rfl ⟨w1.heap.size, 0, none⟩ rfl _ H4.out.run_load ?_)
        | (refine Box.store HBX4.out rfl (.tmp 2) (.tmp 38) rfl rfl x rfl ?_
           intro w6 hb6 hs6
           have H6 := Lib.hid hb6
           have HS6 := Lib.hid hs6
           clear hb6 hs6))
      go_frame
      have hld := H6.out.run_load
      refine bodyPost_ret (v := enV x) (by simp [results, Try.results17, asAddr, hld]) rfl ?_
      refine ⟨o, x, t, H1, rfl, HL.out, ⟨H1, ⟨o.p, o.v, o.n, t⟩, HP.out.perm, rfl, rfl, by rw [if_pos HT0.out]⟩, HP.out.min, HP.out.heap, ?_, ?_⟩
      · exact ((HA4.out.stay HS6.out (fun k hk e => by have h2 : k = w.heap.size := e; have h3 := HSZ.out; rcases hk.1 with h | h <;> omega)).mono (fun k _ hk => hk.1.imp (fun h => h.1) (fun h => by have h3 := HSZ.out; omega)))
      · exact HST4.out.andThen HS6.out (fun k hk e => by have h2 : k = w.heap.size := e; omega)
    · have HT := Lib.hid ht
      have htl : (0 : Int) < (t.length : Int) := by have := List.length_pos_iff.2 ht; omega
      have HCE := Lib.hid hce
      clear ht
      go_wp2_with (first
        | (with_reducible refine alloc_en rfl rfl ?_; rw [W2.out])
        | (refine wpList_load_run (by rfl) 28 (.tmp 15) rfl ⟨g, a, none⟩ rfl _ kl.out ?_)
        | (refine Box.store HBN.out rfl (.tmp 4) (.tmp 16) rfl rfl x rfl ?_
           intro w3 hb3 hs3
           have hs13 : Stay (· = w1.heap.size) w1 w3 := (HA2.out.mono (fun _ x => x.elim)).trans hs3
           have hod3 := HP.out.od.stay hs13 (fun hk => Nat.lt_irrefl _ (hk ▸ HP.out.od.lt)) (fun k hk hx => Nat.lt_irrefl _ (hx ▸ HP.out.od.e.lt k hk))
           have d0 := hod3.c0
           rw [HV1.out] at d0
           have f0 := hod3.fr 0
           have HS3 := Lib.hid hs13
           have HO3 := Lib.hid hod3
           have HS34 := Lib.hid (show Stay (· = o.p) w3 (w3.setCell ⟨o.p, 0, none⟩ (.slice (some ⟨g, a + 3, none⟩) t.length (c - 1))) from Stay.setCell _ _ _ rfl)
           have H4 := Lib.hid (hb3.stay HS34.out (fun e => by have h1 := HP.out.od.lt; have h2 : w1.heap.size = o.p := e; omega))
           have HBX4 := Lib.hid ((HBX1.out.stay hs13 (fun e => by have h1 := HB2.out; have h2 : w.heap.size = w1.heap.size := e; omega)).stay HS34.out (fun e => by have h1 := HOP.out; have h2 : w.heap.size = o.p := e; omega))
           have HA3 := Lib.hid (HA7.out.stay hs13 (fun k hk e => by have h1 := hk.2; have h2 : k = w1.heap.size := e; omega))
           have HA4 := Lib.hid (((HA3.out.wo hod3 HND.out).stay HS34.out (fun k hk e => hk.2 e)).mono (fun k _ hk => hk.1) : RdAt (fun k => ((A k ∧ k < w.heap.size) ∨ w0.heap.size ≤ k) ∧ k < w1.heap.size) _ _ _)
           have HST4 := Lib.hid (show Stay A w (w3.setCell ⟨o.p, 0, none⟩ (.slice (some ⟨g, a + 3, none⟩) t.length (c - 1))) from by
             refine (((HA.out.mono (fun _ x => x.elim)).andThen HP.out.st (fun k _ hk => hk.1)).andThen hs13 (fun k hk e => ?_)).andThen HS34.out (fun k hk e => ?_)
             · have h1 := HB2.out; have h2 : k = w1.heap.size := e; omega
             · have h2 : k = o.p := e; subst h2; exact HP.out.ok.1.1)
           have HO4 := Lib.hid (hod3.turn (v := .slice (some ⟨g, a + 3, none⟩) t.length (c - 1)) (L := t) rfl (EnT.cut1 (by have h1 := hod3.e; rw [HV1.out, HL.out] at h1; exact h1) HCE.out))
           have HPUSH := Lib.hid (hpush_any (fun k => ((A k ∧ k < w.heap.size) ∨ w0.heap.size ≤ k) ∧ k < w1.heap.size) _ r H1 ⟨o.p, .slice (some ⟨g, a + 3, none⟩) t.length (c - 1), o.n, t⟩ HA4.out HP.out.heap HO4.out ⟨.inl HP.out.ok.1, HP.out.od.lt⟩ HT.out (fun k hk => ⟨.inl (HP.out.ok.2.2 k (by rw [HV1.out]; exact hk)), HP.out.od.e.lt k (by rw [HV1.out]; exact hk)⟩) HND.out (by have h1 := HP.out.perm.length_eq; rw [HN.out, List.length_cons] at h1; have := HB.out; omega))
           clear hb3 hs3 hs13 hod3)
        | (go_at_call 20
           refine HPUSH.out.mono ?_
           rintro e w5 ⟨H2, rfl, hp5, hf5, hr5, hs5⟩
           have HP5 := Lib.hid hp5
           have HF5 := Lib.hid hf5
           have HR5 := Lib.hid hr5
           have HS5 := Lib.hid hs5
           have H5 := Lib.hid (H4.out.stay hs5 (fun h => Nat.lt_irrefl _ h.2))
           have HBX5 := Lib.hid (HBX4.out.stay hs5 (fun h => by have h3 := HSZ.out; rcases h.1 with h | h <;> omega))
           clear hp5 hf5 hr5 hs5)
        | (refine wpList_load_run (by rfl) 28 (.tmp 4) rfl ⟨w1.heap.size, 0, none⟩ rfl _ H5.out.run_load ?_)
        | (refine Box.store HBX5.out rfl (.tmp 2) (.tmp 38) rfl rfl x rfl ?_
           intro w6 hb6 hs6
           have H6 := Lib.hid hb6
           have HS6 := Lib.hid hs6
           clear hb6 hs6))
      go_frame
      have hld := H6.out.run_load
      refine bodyPost_ret (v := enV x) (by simp [results, Try.results17, asAddr, hld]) rfl ?_
      refine ⟨o, x, t, H2, rfl, HL.out, ⟨H1, ⟨o.p, .slice (some ⟨g, a + 3, none⟩) t.length (c - 1), o.n, t⟩, HP.out.perm, rfl, rfl, by rw [if_neg HT.out]; exact HP5.out⟩, HP.out.min, HF5.out, ?_, ?_⟩
      · have hsz : w1.heap.size ≤ (w3.setCell ⟨o.p, 0, none⟩ (.slice (some ⟨g, a + 3, none⟩) t.length (c - 1))).heap.size := Nat.le_trans HS3.out.size HS34.out.size
        refine ((HR5.out.stay HS6.out (fun k hk e => ?_)).mono (fun k _ hk => ?_))
        · have h2 : k = w.heap.size := e
          have h3 := HSZ.out
          have h4 := HB2.out
          rcases hk with hk | hk
          · rcases hk.1 with h | h <;> omega
          · omega
        · have h3 := HSZ.out
          have h4 := HB2.out
          rcases hk with hk | hk
          · exact hk.1.imp (fun h => h.1) (fun h => by omega)
          · exact .inr (by omega)
      · refine (HST4.out.andThen HS5.out (fun k hk h => ?_)).andThen HS6.out (fun k hk e => by have h2 : k = w.heap.size := e; omega)
        have h3 := HSZ.out
        rcases h.1 with h | h
        · exact h.1
        · omega
end Go.Proofs.Ytdfhjmodacjilaa.Mg
