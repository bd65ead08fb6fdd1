/-
  mem: a key's entry; those of a range; all.
-/
import Derived.Test.YtnhcnikickihgaaMeD
namespace Go.Proofs.Ytnhcnikickihgaa.Me
open Go.RowKit Go.Maps
set_option maxRecDepth 100000
set_option linter.unusedVariables false

/-- What Get answers: the entry, or nothing. -/
def entOf : Option En → En
  | some e => e
  | none => ⟨[], [], false⟩

set_option maxHeartbeats 4000000 in
theorem get_any (w : World) (pv : Value) (L : List En) (k : List UInt8) (h : MR w pv L) (hs : Sorted L) (hl : L.length ≤ 1000000) :
    Calls Try.prog 10 #[pv, strV k] w fun e w' => e = .returned (.tuple #[enV (entOf (getL L k)), .bool (getL L k).isSome]) ∧ Stay (fun _ => False) w w' := by
  have H := Lib.hid h
  have HS := Lib.hid hs
  obtain ⟨p0, rfl⟩ := h.ptr
  have HBX := Lib.hid (Box.new w ⟨[], [], false⟩)
  have HA := Lib.hid (show Stay (fun _ => False) w (w.alloc (.cells (enC ⟨[], [], false⟩).toArray 27)) from Stay.alloc _ _)
  have H1 := Lib.hid (H.out.stay0 HA.out)
  obtain ⟨w0, hw0⟩ : ∃ w0, w.alloc (.cells (enC ⟨[], [], false⟩).toArray 27) = w0 := ⟨_, rfl⟩
  rw [hw0] at HBX HA H1
  have W0 := Lib.hid hw0
  have hg := getL_sorted hs k
  clear h hs hw0
  go_enter Try.func10, Try.ntmps10
  go_wp2_with (first
    | (with_reducible refine alloc_en rfl rfl ?_; rw [W0.out]))
  refine (place_any w0 _ L k H1.out HS.out hl).mono ?_
  rintro e w1 ⟨rfl, s1⟩
  have HB1 := Lib.hid (HBX.out.stay0 s1)
  have HT := Lib.hid (HA.out.trans s1)
  have hm := H1.out.stay0 s1
  clear s1
  by_cases hb : hasB L k = true
  · obtain ⟨e, he, hek⟩ := hasB_at hb
    rw [if_pos hb, he] at hg
    have HG := Lib.hid hg
    have hlt := hasB_lt hb
    rw [hb]
    rcases hm with ⟨_, rfl⟩ | ⟨p, v, hpp, hc, hx⟩
    · simp at hlt
    · cases hpp
      have HX := Lib.hid hx
      obtain ⟨a0, c, rfl, hnc, hcm, _⟩ := id hx
      obtain ⟨g, o, rfl, _, hcs⟩ := hx.at (by omega)
      obtain ⟨h0, h1, h2⟩ := hcs _ e he
      have kl := Lib.hid (run_load_at h0 h1 h2)
      clear he hcs h0 h1 h2 hb hg hx
      generalize posN L k = i at *
      go_wp2_with (first
        | (refine wpList_load_run (by rfl) 27 (.tmp 22) rfl ⟨g, o + i * 3, none⟩ rfl _ kl.out ?_)
        | (refine Box.store HB1.out rfl (.tmp 4) (.tmp 23) rfl rfl e rfl ?_
           intro w3 hb3 hs3
           have H3 := Lib.hid hb3
           have HS3 := Lib.hid (stay_seal (HT.out.mono (fun _ x => x.elim) |>.trans hs3) (fun k hk => by have hk' : k = w.heap.size := hk; omega))
           clear hb3 hs3))
      have hld := H3.out.run_load
      refine bodyPost_ret (v := .tuple #[enV e, .bool true]) (by simp [results, Try.results10, asAddr, hld]) rfl ⟨by rw [HG.out]; rfl, HS3.out⟩
  · rw [if_neg hb] at hg
    have HG := Lib.hid hg
    have hb' : hasB L k = false := by simpa using hb
    rw [hb']
    clear hb hb' hg hm
    go_wp2_with (first
      | (refine Box.store HB1.out rfl (.tmp 4) (.tmp 16) rfl rfl ⟨[], [], false⟩ rfl ?_
         intro w3 hb3 hs3
         have H3 := Lib.hid hb3
         have HS3 := Lib.hid (stay_seal (HT.out.mono (fun _ x => x.elim) |>.trans hs3) (fun k hk => by have hk' : k = w.heap.size := hk; omega))
         clear hb3 hs3))
    have hld := H3.out.run_load
    refine bodyPost_ret (v := .tuple #[enV ⟨[], [], false⟩, .bool false]) (by simp [results, Try.results10, asAddr, hld]) rfl ⟨by rw [HG.out]; rfl, HS3.out⟩

set_option maxHeartbeats 4000000 in
/-- slices.Clone of entries. -/
theorem clone_en (w : World) (x : Value) (L : List En) (hx : EnS w x L) (hlen : L.length ≤ 1000000) :
    Calls Try.prog 25 #[x] w fun e w' => ∃ v, e = .returned v ∧ EnO w.heap.size w' v L ∧ Stay (fun _ => False) w w' := by
  have hq := @Lib.run_eql_slice_nil
  have HX := Lib.hid (hx.stay0 (Stay.alloc w (.cells #[] 27)))
  have how := Lib.hid (EnO.empty w.heap.size w (Nat.le_refl _))
  obtain ⟨a0, c, rfl, hnc, hcm, hn, hr⟩ := hx
  cases a0 with
  | none =>
    obtain rfl := hn rfl
    have hL : L = [] := List.eq_nil_of_length_eq_zero (by omega)
    subst hL
    clear HX how hn hr
    go_enter Try.func25, Try.ntmps25
    go_wp2
    go_ret
    exact ⟨_, rfl, EnO.nil _ _, Stay.refl _ _⟩
  | some ad =>
    clear hn hr
    go_enter Try.func25, Try.ntmps25
    go_wp2_with (at_builtin; refine wpList_append_en rfl (.tmp 5) (.tmp 6) 22 rfl Try.underlying22 (v := .slice (some ⟨w.heap.size, 0, none⟩) 0 0) rfl rfl how.out HX.out (by simp; omega) (by simp) ?_; intro v' w1 hown hgr hnn)
    go_ret
    exact ⟨v', rfl, by simpa using hown, (Stay.alloc (X := fun _ => False) w _).andThen (hgr.mono (Y := fun k => k = w.heap.size) (fun k hk => by simpa [Value.ownBlock] using hk.symm)) (fun k hk e => by omega)⟩

/-- What lies between two places of a slice. -/
theorem EnS.part {w : World} {a0 : Option Addr} {n c i j : Nat} {L : List En} (h : EnS w (.slice a0 n c) L) (hi : i ≤ j) (hj : j ≤ L.length) : EnS w (.slice (if c = i then a0 else a0.map (·.add (i * 3))) (j - i) (c - i)) ((L.drop i).take (j - i)) := by
  have h1 := h.cut (i := i) (by omega)
  exact h1.first (by rw [List.length_drop]; omega)
theorem EnS.part_cap {w : World} {ad : Addr} {n c i m : Nat} {L : List En} (h : EnS w (.slice (some ad) n c) L) (hc : c = i) (hi : i ≤ m) (hm : m ≤ L.length) : EnS w (.slice (some ad) 0 0) ((L.drop i).take (m - i)) := by
  have h1 := h.part hi hm
  obtain ⟨_, c1, e, hnc, _⟩ := h
  cases e
  have e1 : m - i = 0 := by omega
  rw [if_pos hc, e1, hc, Nat.sub_self] at h1
  rw [e1]
  exact h1
theorem EnS.part_in {w : World} {ad : Addr} {n c i m : Nat} {L : List En} (h : EnS w (.slice (some ad) n c) L) (hc : ¬ c = i) (hi : i ≤ m) (hm : m ≤ L.length) : EnS w (.slice (some (ad.add (i * 3))) (m - i) (c - i)) ((L.drop i).take (m - i)) := by
  have h1 := h.part hi hm
  rw [if_neg hc] at h1
  exact h1
theorem EnS.part_no {w : World} {ad : Addr} {n c i m : Nat} {L : List En} (h : EnS w (.slice (some ad) n c) L) (hc : ¬ c = i) (hi : i = m) (hm : m ≤ L.length) : EnS w (.slice (some (ad.add (i * 3))) 0 (c - i)) ((L.drop i).take (m - i)) := by
  have h1 := h.part_in hc (Nat.le_of_eq hi) hm
  have e1 : m - i = 0 := by omega
  rw [e1] at h1 ⊢
  exact h1
theorem drop_nil {L : List En} (h : L.length = 0) (i m : Nat) : (L.drop i).take m = [] := by
  rw [List.eq_nil_of_length_eq_zero h]
  simp
set_option maxHeartbeats 4000000 in
theorem range_any (w : World) (pv : Value) (L : List En) (a b : List UInt8) (h : MR w pv L) (hs : Sorted L) (hl : L.length ≤ 1000000) :
    Calls Try.prog 18 #[pv, strV a, strV b] w fun e w' => ∃ v, e = .returned v ∧ EnO w.heap.size w' v (rangeL L a b) ∧ Stay (fun _ => False) w w' := by
  have H := Lib.hid h
  have HS := Lib.hid hs
  obtain ⟨j, hj⟩ : ∃ j, j = (if b = [] then L.length else posN L b) := ⟨_, rfl⟩
  have hr := range_sorted a b hs
  rw [← hj] at hr
  have hjl : j ≤ L.length := by
    rw [hj]
    have := posN_le b L
    split <;> omega
  have hla := posN_le a L
  obtain ⟨m, hm⟩ : ∃ m, m = max (posN L a) j := ⟨_, rfl⟩
  rw [← hm] at hr
  have hmi : posN L a ≤ m := by omega
  have hml : m ≤ L.length := by omega
  have HR := Lib.hid hr
  have HM := Lib.hid hm
  have HJ := Lib.hid hj
  obtain ⟨p0, rfl⟩ := h.ptr
  clear h hs hr hm hj
  go_enter Try.func18, Try.ntmps18
  go_wp2_with fail
  refine (place_any w _ L a H.out HS.out hl).mono ?_
  rintro e w1 ⟨rfl, s1⟩
  have H1 := Lib.hid (H.out.stay0 s1)
  have HT1 := Lib.hid s1
  clear s1
  generalize posN L a = i at *
  go_wp2_with fail
  refine (len_any w1 _ L H1.out).mono ?_
  rintro e w1 ⟨rfl, rfl⟩
  by_cases hb : b = []
  · obtain rfl : j = L.length := by rw [HJ.out, if_pos hb]
    subst hb
    clear HJ
    go_wp2_with fail
    refine (all_any w1 _ L H1.out).mono ?_
    rintro e w1 ⟨x, rfl, hx, rfl⟩
    have HX := Lib.hid hx
    obtain ⟨a0, c, rfl, hnc, hcm, hn, _⟩ := hx
    cases a0 with
    | none =>
      obtain rfl := hn rfl
      obtain rfl : i = 0 := by omega
      have h0 : L.length = 0 := by omega
      have HE := Lib.hid (show EnS w1 (.slice none 0 0) ((L.drop 0).take (m - 0)) by rw [drop_nil h0]; exact EnS.nil _)
      have hJ0 : L.length = 0 := by omega
      rw [h0]
      skip
      go_wp2_with fail
      refine (clone_en w1 _ _ HE.out (by simp only [List.length_take, List.length_drop]; omega)).mono ?_
      rintro e w2 ⟨v, rfl, ho, s2⟩
      have HO := Lib.hid ho
      have HT2 := Lib.hid (HT1.out.trans s2)
      have HSZ := Lib.hid HT1.out.size
      clear ho s2
      go_wp2
      go_ret
      exact ⟨_, rfl, by rw [HR.out]; exact HO.out.rebase (fun k hk => by have := (HO.out.lt k hk).1; have := HSZ.out; omega), HT2.out⟩
    | some ad =>
      clear hn
      by_cases hci : c = i
      · have HE := Lib.hid (HX.out.part_cap hci hmi hml)
        subst hci
        go_wp2_with fail
        refine (clone_en w1 _ _ HE.out (by simp only [List.length_take, List.length_drop]; omega)).mono ?_
        rintro e w2 ⟨v, rfl, ho, s2⟩
        have HO := Lib.hid ho
        have HT2 := Lib.hid (HT1.out.trans s2)
        have HSZ := Lib.hid HT1.out.size
        clear ho s2
        go_wp2
        go_ret
        exact ⟨_, rfl, by rw [HR.out]; exact HO.out.rebase (fun k hk => by have := (HO.out.lt k hk).1; have := HSZ.out; omega), HT2.out⟩
      · by_cases hlt : i < L.length
        · obtain rfl : m = L.length := by have := HM.out; omega
          have HE := Lib.hid (HX.out.part_in hci hmi hml)
          go_wp2_with fail
          refine (clone_en w1 _ _ HE.out (by simp only [List.length_take, List.length_drop]; omega)).mono ?_
          rintro e w2 ⟨v, rfl, ho, s2⟩
          have HO := Lib.hid ho
          have HT2 := Lib.hid (HT1.out.trans s2)
          have HSZ := Lib.hid HT1.out.size
          clear ho s2
          go_wp2
          go_ret
          exact ⟨_, rfl, by rw [HR.out]; exact HO.out.rebase (fun k hk => by have := (HO.out.lt k hk).1; have := HSZ.out; omega), HT2.out⟩
        · obtain rfl : m = i := by have := HM.out; omega
          have HE := Lib.hid (HX.out.part_no hci rfl hml)
          go_wp2_with fail
          refine (clone_en w1 _ _ HE.out (by simp only [List.length_take, List.length_drop]; omega)).mono ?_
          rintro e w2 ⟨v, rfl, ho, s2⟩
          have HO := Lib.hid ho
          have HT2 := Lib.hid (HT1.out.trans s2)
          have HSZ := Lib.hid HT1.out.size
          clear ho s2
          go_wp2
          go_ret
          exact ⟨_, rfl, by rw [HR.out]; exact HO.out.rebase (fun k hk => by have := (HO.out.lt k hk).1; have := HSZ.out; omega), HT2.out⟩
  · have hj := HJ.out
    rw [if_neg hb] at hj
    obtain ⟨b0, br, rfl⟩ : ∃ b0 br, b = b0 :: br := by
      cases b with
      | nil => exact absurd rfl hb
      | cons b0 br => exact ⟨b0, br, rfl⟩
    clear HJ hb
    go_wp2_with fail
    refine (place_any w1 _ L (b0 :: br) H1.out HS.out hl).mono ?_
    rintro e w2 ⟨rfl, s1⟩
    rw [← hj]
    replace H1 := Lib.hid (H1.out.stay0 s1)
    replace HT1 := Lib.hid (HT1.out.trans s1)
    clear s1 hj
    obtain ⟨w1, rfl⟩ : ∃ w1, w1 = w2 := ⟨_, rfl⟩
    go_wp2_with fail
    refine (all_any w1 _ L H1.out).mono ?_
    rintro e w1 ⟨x, rfl, hx, rfl⟩
    have HX := Lib.hid hx
    obtain ⟨a0, c, rfl, hnc, hcm, hn, _⟩ := hx
    cases a0 with
    | none =>
      obtain rfl := hn rfl
      obtain rfl : i = 0 := by omega
      have h0 : L.length = 0 := by omega
      have HE := Lib.hid (show EnS w1 (.slice none 0 0) ((L.drop 0).take (m - 0)) by rw [drop_nil h0]; exact EnS.nil _)
      have hJ0 : j = 0 := by omega
      rw [h0]
      rw [hJ0]
      go_wp2_with fail
      refine (clone_en w1 _ _ HE.out (by simp only [List.length_take, List.length_drop]; omega)).mono ?_
      rintro e w2 ⟨v, rfl, ho, s2⟩
      have HO := Lib.hid ho
      have HT2 := Lib.hid (HT1.out.trans s2)
      have HSZ := Lib.hid HT1.out.size
      clear ho s2
      go_wp2
      go_ret
      exact ⟨_, rfl, by rw [HR.out]; exact HO.out.rebase (fun k hk => by have := (HO.out.lt k hk).1; have := HSZ.out; omega), HT2.out⟩
    | some ad =>
      clear hn
      by_cases hci : c = i
      · have HE := Lib.hid (HX.out.part_cap hci hmi hml)
        subst hci
        go_wp2_with fail
        refine (clone_en w1 _ _ HE.out (by simp only [List.length_take, List.length_drop]; omega)).mono ?_
        rintro e w2 ⟨v, rfl, ho, s2⟩
        have HO := Lib.hid ho
        have HT2 := Lib.hid (HT1.out.trans s2)
        have HSZ := Lib.hid HT1.out.size
        clear ho s2
        go_wp2
        go_ret
        exact ⟨_, rfl, by rw [HR.out]; exact HO.out.rebase (fun k hk => by have := (HO.out.lt k hk).1; have := HSZ.out; omega), HT2.out⟩
      · by_cases hlt : i < j
        · obtain rfl : m = j := by have := HM.out; omega
          have HE := Lib.hid (HX.out.part_in hci hmi hml)
          go_wp2_with fail
          refine (clone_en w1 _ _ HE.out (by simp only [List.length_take, List.length_drop]; omega)).mono ?_
          rintro e w2 ⟨v, rfl, ho, s2⟩
          have HO := Lib.hid ho
          have HT2 := Lib.hid (HT1.out.trans s2)
          have HSZ := Lib.hid HT1.out.size
          clear ho s2
          go_wp2
          go_ret
          exact ⟨_, rfl, by rw [HR.out]; exact HO.out.rebase (fun k hk => by have := (HO.out.lt k hk).1; have := HSZ.out; omega), HT2.out⟩
        · obtain rfl : m = i := by have := HM.out; omega
          have HE := Lib.hid (HX.out.part_no hci rfl hml)
          go_wp2_with fail
          refine (clone_en w1 _ _ HE.out (by simp only [List.length_take, List.length_drop]; omega)).mono ?_
          rintro e w2 ⟨v, rfl, ho, s2⟩
          have HO := Lib.hid ho
          have HT2 := Lib.hid (HT1.out.trans s2)
          have HSZ := Lib.hid HT1.out.size
          clear ho s2
          go_wp2
          go_ret
          exact ⟨_, rfl, by rw [HR.out]; exact HO.out.rebase (fun k hk => by have := (HO.out.lt k hk).1; have := HSZ.out; omega), HT2.out⟩
set_option maxHeartbeats 1000000 in
theorem range_nil (L : List En) : rangeL L [] [] = L := by
  unfold rangeL
  rw [List.filter_eq_self]
  intro e _
  simp [lt_nil]
theorem entries_any (w : World) (pv : Value) (L : List En) (h : MR w pv L) (hs : Sorted L) (hl : L.length ≤ 1000000) :
    Calls Try.prog 13 #[pv] w fun e w' => ∃ v, e = .returned v ∧ EnO w.heap.size w' v L ∧ Stay (fun _ => False) w w' := by
  have hr := range_any w pv L [] [] h hs hl
  rw [range_nil] at hr
  have HR := Lib.hid hr
  obtain ⟨p0, rfl⟩ := h.ptr
  clear h hs hr
  go_enter Try.func13, Try.ntmps13
  go_wp2_with fail
  refine HR.out.mono ?_
  rintro e w1 ⟨v, rfl, ho, s1⟩
  have HO := Lib.hid ho
  clear ho
  go_wp2
  go_ret
  exact ⟨_, rfl, HO.out, s1⟩
end Go.Proofs.Ytnhcnikickihgaa.Me
