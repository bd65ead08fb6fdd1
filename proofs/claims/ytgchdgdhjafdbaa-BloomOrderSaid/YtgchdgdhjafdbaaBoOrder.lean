/-
  BloomOrder's walk.
-/
import Derived.Test.YtgchdgdhjafdbaaBoSz
namespace Go.Proofs.Ytgchdgdhjafdbaa.Bo
open Go.RowKit Pk
set_option maxRecDepth 100000

/-- The keys that are laid in in the other order, and the first one again and again. -/
def otherK (ks : List (List UInt8)) (n : Nat) : Nat → List (List UInt8)
  | 0 => []
  | j + 1 => otherK ks n j ++ [ks.getD (n - 1 - j) [], ks.getD 0 []]
theorem getD_key {ks : List (List UInt8)} {i : Nat} {k : List UInt8} (h : ks[i]? = some k) : ks.getD i [] = k := by rw [List.getD_eq_getElem?_getD, h]; rfl
theorem other_in {ks : List (List UInt8)} {n : Nat} (hn : n ≤ ks.length) : ∀ j, j ≤ n → ∀ k ∈ otherK ks n j, k ∈ ks.take n
  | 0, _, k, hk => by cases hk
  | j + 1, hj, k, hk => by
    unfold otherK at hk
    rcases List.mem_append.1 hk with hk | hk
    · exact other_in hn j (by omega) k hk
    · have hi : ∀ i, i < n → ks.getD i [] ∈ ks.take n := fun i hi => by
        have e : (ks.take n)[i]? = some (ks.getD i []) := by
          rw [List.getElem?_take_of_lt hi, List.getD_eq_getElem?_getD, List.getElem?_eq_getElem (by omega)]
          rfl
        exact List.mem_of_getElem? e
      rcases List.mem_cons.1 hk with rfl | hk
      · exact hi _ (by omega)
      · rcases List.mem_cons.1 hk with rfl | hk
        · exact hi _ (by omega)
        · cases hk
theorem other_has {ks : List (List UInt8)} {n : Nat} : ∀ j, j ≤ n → ∀ i, n - j ≤ i → i < n → ks.getD i [] ∈ otherK ks n j
  | 0, _, i, h1, h2 => by omega
  | j + 1, hj, i, h1, h2 => by
    unfold otherK
    by_cases e : i = n - 1 - j
    · subst e
      exact List.mem_append_right _ (List.mem_cons_self ..)
    · exact List.mem_append_left _ (other_has j (by omega) i (by omega) h2)
theorem other_same {q : Nat} {B : List Bool} (hB : 0 < B.length) {ks : List (List UInt8)} {n : Nat} (hn : n ≤ ks.length) : addAll q B (otherK ks n n) = addAll q B (ks.take n) := by
  refine addAll_same hB (other_in hn n (Nat.le_refl _)) (fun k hk => ?_)
  obtain ⟨i, hi⟩ := List.mem_iff_getElem?.1 hk
  have hin : i < n := by
    have := (List.getElem?_eq_some_iff.1 hi).1
    rw [List.length_take] at this
    omega
  rw [List.getElem?_take_of_lt hin] at hi
  rw [← getD_key hi]
  exact other_has n (Nat.le_refl _) i (by omega) hin

set_option maxHeartbeats 4000000 in
theorem order_walk (w : World) (x0 x1 : Int) (a0 : Option Addr) (c : Nat) (ks : List (List UInt8)) (hx : Keys w a0 ks) (hk : ∀ k ∈ ks, k.length ≤ 140737488351232) :
    Calls Try.prog 4 #[.agg #[.int .i64 x0, .int .i64 x1], .slice a0 ks.length c] w fun e w' => e = .returned (.bool true) ∧ Stay (fun _ => False) w w' := by
  have HX := Lib.hid hx
  have HK := Lib.hid hk
  have hkl := hx.1
  have hkl2 : (ks.length : Int) ≤ 9223372036854775807 := by omega
  obtain ⟨s, hs, hs1, hs2⟩ := small_300 x0
  obtain ⟨q, hq, hq1, hq2⟩ := small_16 x1
  obtain ⟨w0, hw0⟩ : ∃ w0, w0 = w.alloc (.cells #[.int .i64 x0, .int .i64 x1] 23) := ⟨_, rfl⟩
  have HZ0 := Lib.hid (show SzAt w0 w.heap.size x0 x1 from hw0 ▸ heap_alloc_new w _)
  have HS0 := Lib.hid (show Stay (fun _ => False) w w0 from hw0 ▸ Stay.alloc w _)
  have hz0 : w0.heap.size = w.heap.size + 1 := by rw [hw0]; simp
  have HW0 := Lib.hid hw0
  obtain ⟨n, hn⟩ : ∃ n : Nat, n = min ks.length 30 := ⟨_, rfl⟩
  have hn30 : n ≤ 30 := by omega
  have hnk : n ≤ ks.length := by omega
  have HN := Lib.hid hn
  clear hx hk hw0 hn
  go_enter Try.func4, Try.ntmps4
  go_wp2_with fail
  rw [← HW0.out]
  refine (new_any s q w0 hs1 (by omega) hq1 hq2).mono ?_
  rintro e w1 ⟨p, g, rfl, hp, hg, hf, hst⟩
  have HB := Lib.hid (show SzAt w1 w.heap.size x0 x1 from HZ0.out.stay0 hst)
  have HT1 := Lib.hid (HS0.out.trans hst)
  have hgl := hf.glt
  have hpl := hf.plt
  have HF1 := Lib.hid hf
  have hgw : w.heap.size < g := by omega
  have hpw : w.heap.size < p := by omega
  have b0 := HB.out.c0
  have b1 := HB.out.c1
  clear hf hst hp hg
  go_wp2_with fail
  refine (new_any s q w1 hs1 (by omega) hq1 hq2).mono ?_
  rintro e w2 ⟨p2, g2, rfl, hp2, hg2, hf2, hst2⟩
  have HF := Lib.hid (HF1.out.stay0 hst2)
  have HG := Lib.hid hf2
  have HT2 := Lib.hid (HT1.out.trans hst2)
  have n1 : p ≠ g2 := by omega
  have n2 : g ≠ g2 := by omega
  have n3 : p2 ≠ g := by omega
  have n4 : w.heap.size < g2 := by omega
  clear hf2 hst2 hp2 hg2 b0 b1 hgl hpl HF1 HT1 HB HZ0
  go_wp2
  all_goals
    first
      | rw [show (30 : Int) = (n : Int) by have := HN.out; omega]
      | rw [show (ks.length : Int) = (n : Int) by have := HN.out; omega]
    go_loopw [10] (fun i wr => ∃ j : Nat, j ≤ n ∧ i = .int .i64 (j : Int) ∧ FAt wr p g q (addAll q (List.replicate s false) (ks.take j)) ∧ FAt wr p2 g2 q (addAll q (List.replicate s false) (otherK ks n j)) ∧ Stay (fun i => i = g ∨ i = g2) w2 wr) (fun i _ => n - (intOf i).toNat)
    case atStart => exact ⟨0, Nat.zero_le _, rfl, HF.out, HG.out, Stay.refl _ _⟩
    case round =>
      obtain ⟨j, hj, rfl, hf, hg, hst⟩ := hrel
      have hww : Stay (fun k => w.heap.size ≤ k) w wr := (HT2.out.mono (fun _ x => x.elim)).trans (hst.mono (fun i e => by rcases e with e | e <;> omega))
      by_cases hlt : j < n
      · obtain ⟨B, hB⟩ : ∃ B, B = addAll q (List.replicate s false) (ks.take j) := ⟨_, rfl⟩
        obtain ⟨D, hD⟩ : ∃ D, D = addAll q (List.replicate s false) (otherK ks n j) := ⟨_, rfl⟩
        rw [← hB] at hf
        rw [← hD] at hg
        obtain ⟨k, hk⟩ : ∃ k, ks[j]? = some k := ⟨_, List.getElem?_eq_getElem (by omega)⟩
        obtain ⟨k2, hk2⟩ : ∃ k2, ks[n - 1 - j]? = some k2 := ⟨_, List.getElem?_eq_getElem (by omega)⟩
        obtain ⟨k3, hk3⟩ : ∃ k3, ks[0]? = some k3 := ⟨_, List.getElem?_eq_getElem (by omega)⟩
        have hkb := HK.out k (List.mem_of_getElem? hk)
        have hkb2 := HK.out k2 (List.mem_of_getElem? hk2)
        have hkb3 := HK.out k3 (List.mem_of_getElem? hk3)
        obtain ⟨lb, lo, rfl, hlb, hc⟩ := HX.out.at (by omega)
        have HC := Lib.hid (fun W (h : Stay (fun k => w.heap.size ≤ k) w W) => hc W _ h (by omega) j k hk)
        have HC2 := Lib.hid (fun W (h : Stay (fun k => w.heap.size ≤ k) w W) => hc W _ h (by omega) (n - 1 - j) k2 hk2)
        have HC3 := Lib.hid (fun W (h : Stay (fun k => w.heap.size ≤ k) w W) => show W.cell? ⟨lb, lo, none⟩ = some (strV k3) from hc W _ h (by omega) 0 k3 hk3)
        have HSN := Lib.hid (show addAll q (List.replicate s false) (ks.take (j + 1)) = addK q B k by rw [List.take_add_one, hk, hB]; exact addAll_snoc _ _ _ _)
        have HSO := Lib.hid (show addAll q (List.replicate s false) (otherK ks n (j + 1)) = addK q (addK q D k2) k3 by rw [otherK, getD_key hk2, getD_key hk3, hD]; exact addAll_two _ _ _ _ _)
        have hjk : j < ks.length := by omega
        have hjm : ((n : Int) - 1 - (j : Int)) = ((n - 1 - j : Nat) : Int) := by omega
        have hjk2 : n - 1 - j < ks.length := by omega
        have hk0 : 0 < ks.length := by omega
        have HST := Lib.hid hst
        have HWW := Lib.hid hww
        have kc := HC.out wr hww
        clear hc hk hk2 hk3 hst hB hD hww
        go_wp2_with fail
        refine (add_any wr p g q B k hf (by omega)).mono ?_
        rintro e w3 ⟨rfl, hf3, hs3⟩
        have hg3 := hg.stay hs3 (fun e => n3 e) (fun e => n2 e.symm)
        have HW3 := Lib.hid (HWW.out.trans (hs3.mono (fun i (e : i = g) => by omega)))
        have HT3 := Lib.hid (HST.out.trans (hs3.mono (fun i (e : i = g) => .inl e)))
        have kc2 := HC2.out w3 HW3.out
        clear kc hs3 hf hg
        go_wp2_with fail
        refine (add_any w3 p2 g2 q D k2 hg3 (by omega)).mono ?_
        rintro e w4 ⟨rfl, hg4, hs4⟩
        have hf4 := hf3.stay hs4 (fun e => n1 e) (fun e => n2 e)
        have HW4 := Lib.hid (HW3.out.trans (hs4.mono (fun i (e : i = g2) => by omega)))
        have HT4 := Lib.hid (HT3.out.trans (hs4.mono (fun i (e : i = g2) => .inr e)))
        have kc3 := HC3.out w4 HW4.out
        clear kc2 hs4 hf3 hg3
        go_wp2_with fail
        refine (add_any w4 p2 g2 q _ k3 hg4 (by omega)).mono ?_
        rintro e w5 ⟨rfl, hg5, hs5⟩
        have HF5 := Lib.hid (hf4.stay hs5 (fun e => n1 e) (fun e => n2 e))
        have HG5 := Lib.hid hg5
        have HT5 := Lib.hid (HT4.out.trans (hs5.mono (fun i (e : i = g2) => .inr e)))
        clear kc3 hs5 hf4 hg4 hg5
        go_wp2
        refine ⟨⟨j + 1, hlt, by go_num, ?_, ?_, HT5.out⟩, by simp [intOf]; omega⟩
        · rw [HSN.out]
          exact HF5.out
        · rw [HSO.out]
          exact HG5.out
      · obtain rfl : j = n := by omega
        obtain ⟨E, hE⟩ : ∃ E, E = addAll q (List.replicate s false) (ks.take j) := ⟨_, rfl⟩
        rw [other_same (by rw [List.length_replicate]; exact hs1) hnk] at hg
        rw [← hE] at hf hg
        obtain ⟨EN, hEN⟩ : ∃ EN, EN = encB q E := ⟨_, rfl⟩
        have HEN := Lib.hid hEN
        have HFZ := Lib.hid hf
        have HGZ := Lib.hid hg
        have HWZ := Lib.hid (show Stay (fun _ => False) w wr from stay_seal hww (fun k hk => hk))
        clear hf hg hst hww hE hEN
        generalize wr = wz at *
        go_wp2
        refine wp_region_held (S := Stay (fun _ => False) wz.drew) (by kernel_rfl) ?_
        change wpAnyH _ _ _ _ _ _ _ _ (World.drew _)
        have hst : Stay (fun _ => False) wz wz.drew := Stay.drew
        refine wpAnyH_takeL (i := 0) (v := .pointer (some ⟨p, 0, none⟩)) #[true, false, false, false, false, false, false, false, false, false, false] rfl (by kernel_rfl) (by kernel_rfl) (by kernel_rfl) (fun _ _ _ h => h) (by kernel_rfl) (Stay.refl _ _) (Or.inl ⟨by rfl, fun W hW => ?_⟩) ?_
        · go_simp
        conv => arg 8; simp [Act.put]
        refine wpAnyH_takeL (i := 3) (v := .pointer (some ⟨p2, 0, none⟩)) #[true, false, false, true, false, false, false, false, false, false, false] rfl (by kernel_rfl) (by kernel_rfl) (by kernel_rfl) (fun _ _ _ h => h) (by kernel_rfl) (Stay.refl _ _) (Or.inl ⟨by rfl, fun W hW => ?_⟩) ?_
        · go_simp
        conv => arg 8; simp [Act.put]
        refine wpAnyH_one #[true, true, false, true, false, false, false, false, false, false, false] (i := 1) rfl (by kernel_rfl) (by kernel_rfl) (fun K hK => ?_)
        go_simp
        go_wp2_with (go_at_call 9; refine (encode_any wz.drew p g q E (HFZ.out.stay0 hst)).mono ?_; rintro e z1 ⟨x5, rfl, how5, s⟩; rw [← HEN.out] at how5; obtain ⟨a5, c5, rfl⟩ := how5.form; have HO5 := Lib.hid how5.slc; clear how5)
        replace hst := hst.trans s
        refine hK _ _ s ?_
        clear hK
        conv => arg 8; simp [Act.put]
        refine wpAnyH_narrow (S' := Stay (fun _ => False) z1) (fun _ h => s.trans h) _ _ _ _ ?_
        clear s
        refine wpAnyH_takeL (i := 2) (v := .string ⟨EN.toArray⟩) #[true, true, true, true, false, false, false, false, false, false, false] rfl (by kernel_rfl) (by kernel_rfl) (by kernel_rfl) (fun _ _ _ h => h) (by kernel_rfl) (Stay.refl _ _) (Or.inl ⟨by rfl, fun W hW => ?_⟩) ?_
        · have cv := conv_slc (HO5.out.stay0 hW)
          unfold strV at cv
          go_simp
        conv => arg 8; simp [Act.put]
        refine wpAnyH_one #[true, true, true, true, true, false, false, false, false, false, false] (i := 4) rfl (by kernel_rfl) (by kernel_rfl) (fun K hK => ?_)
        go_simp
        go_wp2_with (go_at_call 9; refine (encode_any z1 p2 g2 q E (HGZ.out.stay0 hst)).mono ?_; rintro e z2 ⟨x6, rfl, how6, s⟩; rw [← HEN.out] at how6; obtain ⟨a6, c6, rfl⟩ := how6.form; have HO6 := Lib.hid how6.slc; clear how6)
        replace hst := hst.trans s
        refine hK _ _ s ?_
        clear hK
        conv => arg 8; simp [Act.put]
        refine wpAnyH_narrow (S' := Stay (fun _ => False) z2) (fun _ h => s.trans h) _ _ _ _ ?_
        clear s
        refine wpAnyH_takeL (i := 5) (v := .string ⟨EN.toArray⟩) #[true, true, true, true, true, true, false, false, false, false, false] rfl (by kernel_rfl) (by kernel_rfl) (by kernel_rfl) (fun _ _ _ h => h) (by kernel_rfl) (Stay.refl _ _) (Or.inl ⟨by rfl, fun W hW => ?_⟩) ?_
        · have cv := conv_slc (HO6.out.stay0 hW)
          unfold strV at cv
          go_simp
        conv => arg 8; simp [Act.put]
        refine wpAnyH_takeL (i := 6) (v := .bool true) #[true, true, true, true, true, true, true, false, false, false, false] rfl (by kernel_rfl) (by kernel_rfl) (by kernel_rfl) (fun _ _ _ h => h) (by kernel_rfl) (Stay.refl _ _) (Or.inl ⟨by rfl, fun W hW => ?_⟩) ?_
        · go_simp
        conv => arg 8; simp [Act.put]
        refine wpAnyH_takeL (i := 7) (v := .bool true) #[true, true, true, true, true, true, true, true, false, false, false] rfl (by kernel_rfl) (by kernel_rfl) (by kernel_rfl) (fun _ _ _ h => h) (by kernel_rfl) (Stay.refl _ _) (Or.inl ⟨by rfl, fun W hW => ?_⟩) ?_
        · go_simp
        conv => arg 8; simp [Act.put]
        refine wpAnyH_one #[true, true, true, true, true, true, true, true, true, false, false] (i := 8) rfl (by kernel_rfl) (by kernel_rfl) (fun K hK => ?_)
        go_simp
        go_wp2_with (go_at_call 11; refine (sure_any z2).mono ?_; rintro e z3 ⟨rfl, s⟩)
        replace hst := hst.trans s
        refine hK _ _ s ?_
        clear hK
        conv => arg 8; simp [Act.put]
        refine wpAnyH_narrow (S' := Stay (fun _ => False) z3) (fun _ h => s.trans h) _ _ _ _ ?_
        clear s
        refine wpAnyH_takeL (i := 9) (v := .bool true) #[true, true, true, true, true, true, true, true, true, true, false] rfl (by kernel_rfl) (by kernel_rfl) (by kernel_rfl) (fun _ _ _ h => h) (by kernel_rfl) (Stay.refl _ _) (Or.inl ⟨by rfl, fun W hW => ?_⟩) ?_
        · go_simp
        conv => arg 8; simp [Act.put]
        refine wpAnyH_takeL (i := 10) (v := .bool true) #[true, true, true, true, true, true, true, true, true, true, true] rfl (by kernel_rfl) (by kernel_rfl) (by kernel_rfl) (fun _ _ _ h => h) (by kernel_rfl) (Stay.refl _ _) (Or.inl ⟨by rfl, fun W hW => ?_⟩) ?_
        · go_simp
        conv => arg 8; simp [Act.put]
        refine wpAnyH_done (by kernel_rfl) ?_ _
        go_wp2
        go_ret
        exact ⟨rfl, HWZ.out.trans hst⟩

end Go.Proofs.Ytgchdgdhjafdbaa.Bo

