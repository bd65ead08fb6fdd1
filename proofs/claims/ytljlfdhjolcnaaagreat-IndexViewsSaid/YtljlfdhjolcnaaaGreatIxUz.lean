/-
  index: what was made in place of what it was made of.
-/
import Derived.Test.YtljlfdhjolcnaaaGreatIxSz
namespace Go.Proofs.YtljlfdhjolcnaaaGreat.Ix
open Go.RowKit Go.Maps Me Mg
set_option maxRecDepth 100000
set_option linter.unusedVariables false
set_option linter.unnecessarySimpa false

section
variable {B F : Nat → Prop} {w w' : World} {x a : Nat} {I : Im} {v v' : Value} {vs : List Value}
/-- One level more, empty. -/
theorem IxC.snoc (h : IxC B F w x I a v vs) (hs : Stay (fun k => v.ownBlock = some k) w w') (ho : CO 0 85 w' v' (vs ++ [.slice none 0 0])) (hblk : ∀ k, v'.ownBlock = some k → v.ownBlock = some k ∨ ¬ F k) :
    IxC (fun k => B k ∨ v'.ownBlock = some k) F (w'.setCell ⟨x, 5, none⟩ v') x { I with LS := I.LS ++ [[]] } a v' (vs ++ [.slice none 0 0]) ∧ Stay (fun k => v.ownBlock = some k ∨ k = x) w (w'.setCell ⟨x, 5, none⟩ v') := by
  have hl : vs.length = I.LS.length := by rw [h.lv.len]; simp [lvs]
  refine h.outer hs ho (by simp [hl]) (fun i l u h1 h2 => ?_) (fun i j u u' k h1 h2 h3 h4 => ?_) hblk (fun l hl q hq => ?_)
  · by_cases hi : i < vs.length
    · rw [List.getElem?_append_left (by omega)] at h1
      rw [List.getElem?_append_left hi] at h2
      exact ⟨h.lv.row i _ u (lvs_at h1) h2, fun k hk => h.lv.bi u (List.mem_of_getElem? h2) k hk⟩
    · have hlt := (List.getElem?_eq_some_iff.1 h1).1
      simp at hlt
      obtain rfl : i = vs.length := by omega
      rw [List.getElem?_append_right (Nat.le_refl _), Nat.sub_self] at h2
      rw [hl, List.getElem?_append_right (Nat.le_refl _), Nat.sub_self] at h1
      cases h1
      cases h2
      exact ⟨CO.nil _ _ _, fun k hk => by cases hk⟩
  · by_cases hi : i < vs.length
    · rw [List.getElem?_append_left hi] at h1
      by_cases hj : j < vs.length
      · rw [List.getElem?_append_left hj] at h2
        exact h.lv.dif i j u u' k h1 h2 h3 h4
      · have hlt := (List.getElem?_eq_some_iff.1 h2).1
        simp at hlt
        obtain rfl : j = vs.length := by omega
        rw [List.getElem?_append_right (Nat.le_refl _), Nat.sub_self] at h2
        cases h2
        cases h4
    · have hlt := (List.getElem?_eq_some_iff.1 h1).1
      simp at hlt
      obtain rfl : i = vs.length := by omega
      rw [List.getElem?_append_right (Nat.le_refl _), Nat.sub_self] at h1
      cases h1
      cases h3
  · rcases List.mem_append.1 hl with hl | hl
    · exact h.sub l hl q hq
    · rw [List.mem_singleton.1 hl] at hq
      cases hq
end
/-- The first levels alone. -/
theorem IxC.cut {B F : Nat → Prop} {w : World} {x a : Nat} {I : Im} {vs : List Value} {go n c k : Nat} (h : IxC B F w x I a (.slice (some ⟨go, 0, none⟩) n c) vs) (hk : k ≤ vs.length) :
    IxC B F (w.setCell ⟨x, 5, none⟩ (.slice (some ⟨go, 0, none⟩) k c)) x { I with LS := I.LS.take k } a (.slice (some ⟨go, 0, none⟩) k c) (vs.take k) := by
  have hl : vs.length = I.LS.length := by rw [h.lv.len]; simp [lvs]
  have hgo := h.lv.bo go rfl
  have e : (fun k9 => B k9 ∨ (Value.slice (some ⟨go, 0, none⟩) k c).ownBlock = some k9) = B := by
    funext k9
    apply propext
    refine ⟨fun h => ?_, .inl⟩
    rcases h with h | h
    · exact h
    · cases h
      exact hgo
  have := (h.outer (v' := .slice (some ⟨go, 0, none⟩) k c) (vs' := vs.take k) (LS' := I.LS.take k) (Stay.refl _ _) (h.lv.out.take hk) (by rw [List.length_take, List.length_take, hl]) (fun i l u h1 h2 => by
    rw [List.getElem?_take] at h1 h2
    split at h1
    · rename_i hi
      rw [if_pos hi] at h2
      exact ⟨h.lv.row i _ u (lvs_at h1) h2, fun k hk => h.lv.bi u (List.mem_of_getElem? h2) k hk⟩
    · cases h1) (fun i j u u' k9 h1 h2 h3 h4 => by
    rw [List.getElem?_take] at h1 h2
    split at h1
    · split at h2
      · exact h.lv.dif i j u u' k9 h1 h2 h3 h4
      · cases h2
    · cases h1) (fun k9 hk9 => .inl hk9) (fun l hl q hq => h.sub l (List.mem_of_mem_take hl) q hq)).1
  rwa [e] at this
/-- Several tables let go. -/
def Im.rels (I : Im) (ss : List Nat) : Im := ss.foldl Im.rel I
theorem rels_snoc (I : Im) (ss : List Nat) (s : Nat) : I.rels (ss ++ [s]) = (I.rels ss).rel s := by unfold Im.rels; rw [List.foldl_append]; rfl
theorem rels_same : ∀ (ss : List Nat) (I : Im), (I.rels ss).T = I.T ∧ (I.rels ss).LS = I.LS ∧ (I.rels ss).A = I.A ∧ (I.rels ss).g = I.g ∧ (I.rels ss).m = I.m ∧ (I.rels ss).f = I.f ∧ (I.rels ss).p = I.p ∧ (I.rels ss).q = I.q ∧ (I.rels ss).mg = I.mg
  | [], I => ⟨rfl, rfl, rfl, rfl, rfl, rfl, rfl, rfl, rfl⟩
  | s :: r, I => rels_same r (I.rel s)
theorem rels_hc : ∀ (ss : List Nat) (I : Im) (k : Nat), (I.rels ss).hc k ≤ I.hc k ∧ (k ∉ ss → (I.rels ss).hc k = I.hc k)
  | [], I, k => ⟨Nat.le_refl _, fun _ => rfl⟩
  | s :: r, I, k => by
    obtain ⟨h1, h2⟩ := rels_hc r (I.rel s) k
    have h3 : (I.rel s).hc k ≤ I.hc k := by
      show (if k = s then I.hc k - 1 else I.hc k) ≤ I.hc k
      split <;> omega
    refine ⟨Nat.le_trans h1 h3, fun hk => ?_⟩
    rw [List.mem_cons, not_or] at hk
    rw [show (I.rels (s :: r)).hc k = ((I.rel s).rels r).hc k from rfl, h2 hk.2]
    show (if k = s then I.hc k - 1 else I.hc k) = I.hc k
    rw [if_neg hk.1]
theorem rels_hd : ∀ (ss : List Nat) (I : Im), (I.rels ss).hd ≤ I.hd ∧ I.hd ≤ (I.rels ss).hd + ss.length
  | [], I => ⟨Nat.le_refl _, Nat.le_refl _⟩
  | s :: r, I => by
    obtain ⟨h1, h2⟩ := rels_hd r (I.rel s)
    have h3 : (I.rel s).hd ≤ I.hd ∧ I.hd ≤ (I.rel s).hd + 1 := by
      show (if I.hc s = 1 then I.hd - 1 else I.hd) ≤ I.hd ∧ I.hd ≤ (if I.hc s = 1 then I.hd - 1 else I.hd) + 1
      split <;> omega
    rw [show (I.rels (s :: r)).hd = ((I.rel s).rels r).hd from rfl, List.length_cons]
    omega
theorem rels_ls (LS : List (List Sh)) : ∀ (ss : List Nat) (I : Im), ({ I with LS := LS } : Im).rels ss = { I.rels ss with LS := LS }
  | [], I => rfl
  | s :: r, I => rels_ls LS r (I.rel s)
/-- Levels, one more if this one is the last. -/
def growL (LS : List (List Sh)) (lv : Nat) : List (List Sh) := if lv + 1 = LS.length then LS ++ [[]] else LS
/-- Levels, this one without some, the next one made. -/
def repL (LS : List (List Sh)) (Q M : List Sh) (lv : Nat) : List (List Sh) := ((growL LS lv).set lv (((growL LS lv).getD lv []).filter (fun q => !decide (q.s ∈ Q.map (·.s))))).set (lv + 1) M
/-- An index of which some tables were made into others. -/
def Im.repl (I : Im) (Q M : List Sh) (lv k : Nat) : Im := { I.rels (Q.map (·.s)) with LS := (repL I.LS Q M lv).take k }
/-- Up to the last level that has one. -/
structure Trim (LS : List (List Sh)) (k : Nat) : Prop where
  le : k ≤ LS.length
  hi : ∀ (i : Nat) (l : List Sh), k ≤ i → LS[i]? = some l → l = []
  lo : ∀ (t : Nat) (l : List Sh), k = t + 1 → LS[t]? = some l → l ≠ []
/-- What holds behind the row of levels. -/
structure RepS (A F : Nat → Prop) (w W : World) (x a b : Nat) (I : Im) (iv : Value) (lv : Nat) (B1 : Nat → Prop) (n1 : Nat) (v1a : Option Addr) (v1c : Nat) (vs1 : List Value) (LS1 : List (List Sh)) : Prop where
  ix : IxC B1 F W x { I with LS := LS1 } a (.slice v1a n1 v1c) vs1
  ln : n1 = LS1.length
  hb : ∀ k, B1 k → A k ∨ w.heap.size ≤ k
  st : Stay A w W
  bx : W.heap[b]? = some (.cells #[iv] 85 (0, 0))
  mm : MAt B1 W a I.A
  nb : ¬ B1 b
  gr : LS1 = growL I.LS lv
-- REPLACE
set_option maxHeartbeats 2000000 in
theorem replace_ix {A : Nat → Prop} (w : World) (x lv : Nat) (I : Im) (iv mv : Value) (Q M : List Sh) (h : IxAt A w x I) (hlv : lv < I.LS.length) (hn : I.LS.length ≤ 900) (hiv : CO 0 81 w iv (ptrs (Q.map (·.s)))) (hmv : CO 0 81 w mv (ptrs (M.map (·.s))))
    (hivA : ∀ k, iv.ownBlock = some k → ¬ A k) (hmvA : ∀ k, mv.ownBlock = some k → ¬ A k) (hQT : ∀ q ∈ Q, q ∈ I.T) (hMT : ∀ q ∈ M, q ∈ I.T) (hQl : Q.length ≤ 900) (hll9 : ∀ l ∈ I.LS, l.length ≤ 900)
    (hQn : (Q.map (·.s)).Nodup) (hhc : ∀ q ∈ Q, 1 ≤ I.hc q.s ∧ I.hc q.s ≤ 900000) (hhd : I.hd ≤ 900000) (hQd : Q.length ≤ I.hd) :
    Calls Tryz.prog 77 #[.pointer (some ⟨x, 0, none⟩), .int .i64 (lv : Int), iv, mv] w fun y w' => y = .returned (.tuple #[]) ∧ Stay A w w' ∧ ∃ k, Trim (repL I.LS Q M lv) k ∧ IxAt (fun k => (A k ∨ mv.ownBlock = some k) ∨ w.heap.size ≤ k) w' x (I.repl Q M lv k) := by
  obtain ⟨B, F, a, v, vs, hB, hF, hl, h1, h2⟩ := h.ex
  have c5 : w.cell? ⟨x, 5, none⟩ = some v := h1.c rfl
  have HIV := Lib.hid hiv
  have HIVA := Lib.hid hivA
  have HMVA := Lib.hid hmvA
  have HQT := Lib.hid hQT
  have HMT := Lib.hid hMT
  have HQL := Lib.hid hQl
  have HL9 := Lib.hid hll9
  have HQN := Lib.hid hQn
  have HHC := Lib.hid hhc
  have HHD := Lib.hid hhd
  have HQD := Lib.hid hQd
  have HMV := Lib.hid hmv
  obtain ⟨ia, ic, rfl⟩ := hiv.form
  obtain ⟨ma, mc, rfl⟩ := hmv.form
  have hvl : vs.length = I.LS.length := by rw [h1.lv.len]; simp [lvs]
  obtain ⟨n, hnn⟩ : ∃ n, n = I.LS.length := ⟨_, rfl⟩
  obtain ⟨m, hm⟩ : ∃ m, m = (ptrs (Q.map (·.s))).length := ⟨_, rfl⟩
  obtain ⟨m2, hm2⟩ : ∃ m2, m2 = (ptrs (M.map (·.s))).length := ⟨_, rfl⟩
  obtain ⟨va, vc, hv⟩ : ∃ va vc, v = .slice va n vc := by obtain ⟨p, q, e⟩ := h1.lv.out.form; exact ⟨p, q, by rw [e, hvl, hnn]⟩
  rw [← hm] at HIV HIVA ⊢
  rw [← hm2] at HMV HMVA ⊢
  have hs0 : Stay (fun _ => False) w (w.alloc (.cells #[.slice ia m ic] 85)) := Stay.alloc _ _
  have hz0 : (w.alloc (.cells #[.slice ia m ic] 85)).heap.size = w.heap.size + 1 := by simp
  have hb0 := heap_alloc_new w (.cells #[.slice ia m ic] 85)
  obtain ⟨w0, hw0⟩ : ∃ w0, w.alloc (.cells #[.slice ia m ic] 85) = w0 := ⟨_, rfl⟩
  rw [hw0] at hs0 hz0 hb0
  have W0 := Lib.hid hw0
  have HI0 := Lib.hid (h1.stay0 hs0)
  have HM0 := Lib.hid (h2.stay0 hs0)
  have d5 := hs0.cell c5 (fun x => x)
  have f5 := HI0.out.fr 5
  rw [hv] at d5 HI0
  have HS0 := Lib.hid hs0
  have HZ0 := Lib.hid hz0
  obtain ⟨b, hbb⟩ : ∃ b, b = w.heap.size := ⟨_, rfl⟩
  rw [← hbb] at hb0
  have HBB := Lib.hid hbb
  have HB0 := Lib.hid hb0
  have HN := Lib.hid hnn
  have HMM := Lib.hid hm
  have HCF := Lib.hid h.cfg
  have HNR := Lib.hid h.nrm
  have HBA := Lib.hid hB
  have HFA := Lib.hid hF
  have HLT := Lib.hid hl
  have hni : (n : Int) ≤ 900 := by omega
  have hlvi : (lv : Int) < (n : Int) := by omega
  clear hivA hmvA hQT hMT hQl hll9 hQn hhc hhd hQd h h1 h2 hB hF hl hv hs0 hz0 hb0 hw0 hnn hm hm2 c5 hbb hiv hmv
  go_enter Tryz.func77, Tryz.ntmps77
  refine wp_seq_k (fun K1 hk1 => ?_)
  have HK1 := Lib.hid hk1
  clear hk1
  go_wp2
  refine HK1.out _ _ ?_
  rw [W0.out, ← HBB.out]
  refine wp_seq_k (fun K2 hk2 => ?_)
  have HK2 := Lib.hid hk2
  clear hk2
  obtain ⟨K9, hK9⟩ : ∃ K9 : Act → World → Prop, K9 = fun a9 W => ∃ (B1 : Nat → Prop) (n1 : Nat) (v1a : Option Addr) (v1c : Nat) (vs1 : List Value) (LS1 : List (List Sh)), a9 = { tmps := List.toArray (.pointer (some ⟨x, 0, none⟩) :: .int .i64 (lv : Int) :: .slice ia m ic :: .slice ma m2 mc :: a9.tmps.getD 4 undef :: a9.tmps.getD 5 undef :: .pointer (some ⟨b, 0, none⟩) :: a9.tmps.getD 7 undef :: a9.tmps.getD 8 undef :: a9.tmps.getD 9 undef :: a9.tmps.getD 10 undef :: a9.tmps.getD 11 undef :: a9.tmps.getD 12 undef :: a9.tmps.getD 13 undef :: a9.tmps.getD 14 undef :: a9.tmps.getD 15 undef :: a9.tmps.getD 16 undef :: a9.tmps.getD 17 undef :: a9.tmps.getD 18 undef :: a9.tmps.getD 19 undef :: a9.tmps.getD 20 undef :: a9.tmps.getD 21 undef :: a9.tmps.getD 22 undef :: a9.tmps.getD 23 undef :: a9.tmps.getD 24 undef :: a9.tmps.getD 25 undef :: a9.tmps.getD 26 undef :: a9.tmps.getD 27 undef :: a9.tmps.getD 28 undef :: a9.tmps.getD 29 undef :: a9.tmps.getD 30 undef :: a9.tmps.getD 31 undef :: a9.tmps.getD 32 undef :: a9.tmps.getD 33 undef :: a9.tmps.getD 34 undef :: a9.tmps.getD 35 undef :: a9.tmps.getD 36 undef :: a9.tmps.getD 37 undef :: a9.tmps.getD 38 undef :: a9.tmps.getD 39 undef :: a9.tmps.getD 40 undef :: a9.tmps.getD 41 undef :: a9.tmps.getD 42 undef :: a9.tmps.getD 43 undef :: a9.tmps.getD 44 undef :: a9.tmps.getD 45 undef :: a9.tmps.getD 46 undef :: a9.tmps.getD 47 undef :: a9.tmps.getD 48 undef :: a9.tmps.getD 49 undef :: a9.tmps.getD 50 undef :: a9.tmps.getD 51 undef :: a9.tmps.getD 52 undef :: a9.tmps.getD 53 undef :: a9.tmps.getD 54 undef :: a9.tmps.getD 55 undef :: a9.tmps.getD 56 undef :: a9.tmps.getD 57 undef :: a9.tmps.getD 58 undef :: a9.tmps.getD 59 undef :: a9.tmps.getD 60 undef :: a9.tmps.getD 61 undef :: a9.tmps.getD 62 undef :: a9.tmps.getD 63 undef :: a9.tmps.getD 64 undef :: a9.tmps.getD 65 undef :: a9.tmps.getD 66 undef :: a9.tmps.getD 67 undef :: a9.tmps.getD 68 undef :: a9.tmps.getD 69 undef :: a9.tmps.getD 70 undef :: a9.tmps.getD 71 undef :: a9.tmps.getD 72 undef :: a9.tmps.getD 73 undef :: a9.tmps.getD 74 undef :: a9.tmps.getD 75 undef :: a9.tmps.getD 76 undef :: a9.tmps.getD 77 undef :: a9.tmps.getD 78 undef :: a9.tmps.getD 79 undef :: a9.tmps.getD 80 undef :: a9.tmps.getD 81 undef :: a9.tmps.getD 82 undef :: a9.tmps.getD 83 undef :: a9.tmps.getD 84 undef :: a9.tmps.getD 85 undef :: a9.tmps.getD 86 undef :: a9.tmps.getD 87 undef :: a9.tmps.getD 88 undef :: a9.tmps.getD 89 undef :: a9.tmps.getD 90 undef :: []), defers := [] } ∧ RepS A F w W x a b I (.slice ia m ic) lv B1 n1 v1a v1c vs1 LS1 := ⟨_, rfl⟩
  have HK9 := Lib.hid hK9
  clear hK9
  refine wp_mid (K2 := K9) (fun a9 W hk9 => HK2.out _ _ ?next) ?region
  case region =>
    by_cases hla : lv + 1 = n
    · have hla1 : ((lv : Int) + 1 == (n : Int)) = true := by simp; omega
      have hs1 : Stay (fun _ => False) w0 (w0.alloc (.cells #[.slice none 0 0] 85)) := Stay.alloc _ _
      have HS1 := Lib.hid hs1
      clear hs1
      go_wp2_with (at_builtin
                   skip
                   refine wpList_append_co rfl (.tmp 23) (.tmp 24) 69 rfl (.slice none 0 0) 24 Tryz.underlying69 info_lv rfl (by decide) rfl rfl (HI0.out.lv.out.stay0 HS1.out) (CO.lit w0 [.slice none 0 0] (Nat.zero_le _) (by simp)).cs (fun u hu => by rw [List.mem_singleton.1 hu]; rfl) (by have := HN.out; have := HI0.out.lv.len; simp [lvs] at this ⊢; omega) (Nat.zero_le _) ?_
                   intro v1 w1 ho1 hs1 hb1
                   have hi1 := HI0.out.stay0 HS1.out
                   have hbk : ∀ k, v1.ownBlock = some k → (Value.slice va n vc).ownBlock = some k ∨ ¬ F k := (fun k hk => (hb1.elim (fun e => .inl (e ▸ hk)) (fun e => .inr (fun hf => by
                     have h3 := HLT.out k (.inr hf)
                     have h4 := HS1.out.size
                     have h5 := HS0.out.size
                     rw [e] at hk
                     have h6 : (w0.alloc (.cells #[.slice none 0 0] 85)).heap.size = k := Option.some.inj hk
                     omega))))
                   have hsn := hi1.snoc hs1 ho1 hbk
                   have hbx := (hs1.block x hi1.lt (fun hx => absurd (hi1.ty.uniq (hi1.lv.out.ty x hx)) (by decide))).trans hi1.blk
                   have hfx : w1.frozen? ⟨x, 5, none⟩ = false := frozen_of_row w1 x 5 _ _ hbx
                   have hcx : w1.cell? ⟨x, 5, none⟩ = some (.slice va n vc) := (by rw [cell_of_row w1 x 5 _ _ _ hbx]; rfl)
                   obtain ⟨v1a, v1c, rfl⟩ : ∃ p q, v1 = .slice p (n + 1) q := (by
                     obtain ⟨p, q, e⟩ := ho1.form
                     refine ⟨p, q, ?_⟩
                     rw [e]
                     have h7 := HN.out
                     have h8 := HI0.out.lv.len
                     simp [lvs] at h8 ⊢
                     omega)
                   have HSN := Lib.hid hsn.1
                   have HSS := Lib.hid (show Stay A w _ from ((HS0.out.trans HS1.out).mono (fun _ x => x.elim)).trans (hsn.2.mono (fun k hk => by
                     rcases hk with hk | hk
                     · exact HBA.out k (HI0.out.lv.bo k hk)
                     · subst hk; exact HBA.out _ HI0.out.bx)))
                   have HOB := Lib.hid hb1
                   have HCC := Lib.hid (Stay.trans (HS1.out.mono (fun _ x => x.elim)) hsn.2)
                   clear hi1 ho1 hs1 hb1 hsn hbx hbk)
      rw [HK9.out]
      refine ⟨_, _, _, _, _, _, rfl, ⟨HSN.out, (by have := HN.out; simp; omega), fun k hk => ?_, HSS.out, ?_, ?_, ?_, ?_⟩⟩
      · rcases hk with hk | hk
        · exact .inl (HBA.out k hk)
        · rcases HOB.out with e | e
          · rw [e] at hk
            exact .inl (HBA.out k (HI0.out.lv.bo k hk))
          · rw [e] at hk
            have h6 : (w0.alloc (.cells #[.slice none 0 0] 85)).heap.size = k := Option.some.inj hk
            have h4 := HS1.out.size
            have h5 := HS0.out.size
            exact .inr (by omega)
      · refine (HCC.out.block b (Array.getElem?_eq_some_iff.1 HB0.out).1 (fun hx => ?_)).trans HB0.out
        have h8 := HBB.out
        rcases hx with hx | hx
        · have := HLT.out b (.inl (HI0.out.lv.bo b hx))
          omega
        · have := HLT.out x (.inl HI0.out.bx)
          omega
      · refine (MAt.keep HM0.out HCC.out (fun k hk => ?_)).mono (fun k _ hb => .inl hb)
        rcases hk with hk | hk
        · have ht := HI0.out.lv.out.ty k hk
          exact ⟨fun h2 => absurd (ht.uniq h2) (by decide), fun h2 => absurd (ht.uniq h2) (by decide)⟩
        · subst hk
          have ht := HI0.out.ty
          exact ⟨fun h2 => absurd (ht.uniq h2) (by decide), fun h2 => absurd (ht.uniq h2) (by decide)⟩
      · intro hb9
        have h8 := HBB.out
        rcases hb9 with hb9 | hb9
        · have := HLT.out b (.inl hb9)
          omega
        · rcases HOB.out with e | e
          · rw [e] at hb9
            have := HLT.out b (.inl (HI0.out.lv.bo b hb9))
            omega
          · rw [e] at hb9
            have h6 : (w0.alloc (.cells #[.slice none 0 0] 85)).heap.size = b := Option.some.inj hb9
            have h4 := HS1.out.size
            have h5 := HZ0.out
            omega
      · exact (if_pos (by have := HN.out; omega)).symm
    · have hla1 : ((lv : Int) + 1 == (n : Int)) = false := by rw [beq_eq_false_iff_ne]; omega
      go_wp2
      rw [HK9.out]
      exact ⟨B, n, va, vc, vs, I.LS, rfl, ⟨HI0.out, HN.out, fun k hk => .inl (HBA.out k hk), HS0.out.mono (fun _ x => x.elim), HB0.out, HM0.out, (fun hb9 => by have := HLT.out b (.inl hb9); have := HBB.out; omega), (if_neg (by have := HN.out; omega)).symm⟩⟩
  case next =>
    rw [HK9.out] at hk9
    obtain ⟨B1, n1, v1a, v1c, vs1, LS1, hfr9, hR1⟩ := hk9
    obtain ⟨y, hy⟩ : ∃ y : Nat → Value, ∀ i, a9.tmps.getD i undef = y i := ⟨_, fun _ => rfl⟩
    simp only [hy] at hfr9
    clear hy HK9
    subst hfr9
    have HR := Lib.hid hR1
    have hll : lv + 1 < LS1.length := by
      have h1 := hR1.gr
      unfold growL at h1
      by_cases h : lv + 1 = I.LS.length
      · rw [if_pos h] at h1
        rw [h1]
        simp
        omega
      · rw [if_neg h] at h1
        rw [h1]
        have := HN.out
        omega
    obtain ⟨l0, hl0⟩ : ∃ l0, LS1[lv]? = some l0 := ⟨_, List.getElem?_eq_getElem (by omega)⟩
    obtain ⟨u, hu, hru⟩ := hR1.ix.lv.at (lvs_at hl0)
    obtain ⟨go, gc, hgo, hgcl, hgcm, _⟩ := hR1.ix.lv.out.at (by have := (List.getElem?_eq_some_iff.1 hu).1; omega)
    have hvl1 : vs1.length = n1 := by rw [hR1.ix.lv.len, hR1.ln]; simp [lvs]
    rw [hvl1] at hgo hgcl
    obtain ⟨rfl, rfl⟩ : v1a = some ⟨go, 0, none⟩ ∧ v1c = gc := by cases hgo; exact ⟨rfl, rfl⟩
    obtain ⟨ua, uc, hue⟩ := hru.form
    rw [len_ptrs, List.length_map] at hue
    have e5 : W.cell? ⟨x, 5, none⟩ = some (.slice (some ⟨go, 0, none⟩) n1 v1c) := hR1.ix.c rfl
    have hxt := hR1.ix.ty
    have hgt : Ty W go 85 := hR1.ix.lv.out.ty go rfl
    have hut : ∀ k, u.ownBlock = some k → Ty W k 81 := hru.ty
    have HXN := Lib.hid (show ¬ (u.ownBlock = some x ∨ x = go) from fun h => by
      rcases h with h | h
      · exact absurd (hxt.uniq (hut x h)) (by decide)
      · exact absurd (hxt.uniq (h ▸ hgt)) (by decide))
    have HLI := Lib.hid (show (lv : Int) < (n1 : Int) by have := hR1.ln; omega)
    have eg : W.cell? ⟨go, lv, none⟩ = some u := hR1.ix.lv.out.cell hu
    have egd : W.drew.cell? ⟨go, lv, none⟩ = some u := eg
    have hub : ∀ k, u.ownBlock = some k → A k ∨ w.heap.size ≤ k := fun k hk => hR1.hb k (hR1.ix.lv.bi u (List.mem_of_getElem? hu) k hk)
    have hiu : ∀ k, u.ownBlock = some k → (Value.slice ia m ic).ownBlock ≠ some k := fun k hk e => by
      have h2 := (HIV.out.lt k e).2
      rcases hub k hk with h | h
      · exact HIVA.out k e h
      · omega
    have hshT : ∀ q ∈ I.T, ∀ Z, Stay (fun k => u.ownBlock = some k) W.drew Z → ShB Z q.s := fun q hq Z hZ => by
      have h3 := (hR1.ix.sh q hq).b
      exact (h3.stay (Stay.drew (X := fun _ => False)) (fun x => x)).stay hZ (fun hx => by
        obtain ⟨cs, h4⟩ := h3
        exact absurd ((hut _ hx).uniq ⟨_, _, h4⟩) (by decide))
    have hdel := deleteF_p W.drew u (l0.map (·.s)) (fun s => decide (s ∈ Q.map (·.s))) (.pointer (some ⟨b, 0, none⟩)) (hru.stay0 Stay.drew) (by
      rw [List.length_map]
      have h1 := hR1.gr
      unfold growL at h1
      have h2 : l0 ∈ LS1 := List.mem_of_getElem? hl0
      rw [h1] at h2
      split at h2
      · rcases List.mem_append.1 h2 with h3 | h3
        · have := HL9.out l0 h3
          omega
        · rw [List.mem_singleton.1 h3]
          decide
      · have := HL9.out l0 h2
        omega) (fun Z hZ s hs => by
      refine del_any Z b (.slice ia m ic) (Q.map (·.s)) s ?_ (((HIV.out.stay hR1.st (fun k hk => HIVA.out k hk)).stay0 Stay.drew).stay hZ (fun k hk hx => hiu k hx hk)).cs (by rw [List.length_map]; have := HQL.out; omega) ?_ (fun q hq => ?_)
      · have h5 : W.cell? ⟨b, 0, none⟩ = some (.slice ia m ic) := by rw [cell_of_row W b 0 _ _ _ hR1.bx]; rfl
        exact hZ.cell (show W.drew.cell? ⟨b, 0, none⟩ = some (.slice ia m ic) from h5) (fun hx => absurd ((hut b hx).uniq ⟨_, _, hR1.bx⟩) (by decide))
      · obtain ⟨q, hq, rfl⟩ := List.mem_map.1 hs
        exact hshT q (hR1.ix.sub l0 (List.mem_of_getElem? hl0) q hq) Z hZ
      · obtain ⟨q', hq', rfl⟩ := List.mem_map.1 hq
        exact hshT q' (HQT.out q' hq') Z hZ)
    have HDEL := Lib.hid hdel
    have HUB := Lib.hid hub
    have HUE := Lib.hid hue
    rw [hue] at HDEL
    obtain ⟨n0, hn0⟩ : ∃ n0, n0 = l0.length := ⟨_, rfl⟩
    rw [← hn0] at HDEL hue
    have HN0 := Lib.hid hn0
    have HLL := Lib.hid hll
    have HL0 := Lib.hid hl0
    have HU := Lib.hid hu
    have HRU := Lib.hid hru
    have HGT := Lib.hid hgt
    have HUT := Lib.hid hut
    clear hub hiu hshT hdel hn0 hR1 hll hl0 hu hru hgo hgcl hgcm hvl1 hxt hgt hut
    go_wp2
    refine wp_region_held (S := Stay (fun k => u.ownBlock = some k ∨ k = go) W.drew) (by kernel_rfl) ?_
    change wpAnyH _ _ _ _ _ _ _ _ (World.drew _)
    have hst : Stay (fun k => u.ownBlock = some k ∨ k = go) W W.drew := Stay.drew
    refine wpAnyH_takeL (i := 0) (v := .pointer (some ⟨x, 0, none⟩)) #[true, false, false, false, false, false, false, false, false, false, false, false, false, false, false, false] rfl (by kernel_rfl) (by kernel_rfl) (by kernel_rfl) (fun _ _ _ h => h) (by kernel_rfl) (Stay.refl _ _) (Or.inl ⟨by rfl, fun W hW => ?_⟩) ?_
    · go_simp
    conv => arg 8; simp [Act.put]
    refine wpAnyH_takeL (i := 1) (v := .pointer (some ⟨x, 0, none⟩)) #[true, true, false, false, false, false, false, false, false, false, false, false, false, false, false, false] rfl (by kernel_rfl) (by kernel_rfl) (by kernel_rfl) (fun _ _ _ h => h) (by kernel_rfl) (Stay.refl _ _) (Or.inl ⟨by rfl, fun W hW => ?_⟩) ?_
    · go_simp
    conv => arg 8; simp [Act.put]
    refine wpAnyH_takeL (i := 2) (v := .pointer (some ⟨x, 5, none⟩)) #[true, true, true, false, false, false, false, false, false, false, false, false, false, false, false, false] rfl (by kernel_rfl) (by kernel_rfl) (by kernel_rfl) (fun _ _ _ h => h) (by kernel_rfl) (Stay.refl _ _) (Or.inl ⟨by rfl, fun W hW => ?_⟩) ?_
    · go_simp
    conv => arg 8; simp [Act.put]
    refine wpAnyH_takeL (i := 3) (v := .slice (some ⟨go, 0, none⟩) n1 v1c) #[true, true, true, true, false, false, false, false, false, false, false, false, false, false, false, false] rfl (by kernel_rfl) (by kernel_rfl) (by kernel_rfl) (fun _ _ _ h => h) (by kernel_rfl) (Stay.refl _ _) (Or.inl ⟨by rfl, fun W hW => ?_⟩) ?_
    · have q1 := (hst.trans hW).cell e5 HXN.out
      go_simp
    conv => arg 8; simp [Act.put]
    refine wpAnyH_takeL (i := 4) (v := .int .i64 (lv : Int)) #[true, true, true, true, true, false, false, false, false, false, false, false, false, false, false, false] rfl (by kernel_rfl) (by kernel_rfl) (by kernel_rfl) (fun _ _ _ h => h) (by kernel_rfl) (Stay.refl _ _) (Or.inl ⟨by rfl, fun W hW => ?_⟩) ?_
    · go_simp
    conv => arg 8; simp [Act.put]
    refine wpAnyH_takeL (i := 5) (v := .pointer (some ⟨x, 0, none⟩)) #[true, true, true, true, true, true, false, false, false, false, false, false, false, false, false, false] rfl (by kernel_rfl) (by kernel_rfl) (by kernel_rfl) (fun _ _ _ h => h) (by kernel_rfl) (Stay.refl _ _) (Or.inl ⟨by rfl, fun W hW => ?_⟩) ?_
    · go_simp
    conv => arg 8; simp [Act.put]
    refine wpAnyH_takeL (i := 6) (v := .pointer (some ⟨x, 0, none⟩)) #[true, true, true, true, true, true, true, false, false, false, false, false, false, false, false, false] rfl (by kernel_rfl) (by kernel_rfl) (by kernel_rfl) (fun _ _ _ h => h) (by kernel_rfl) (Stay.refl _ _) (Or.inl ⟨by rfl, fun W hW => ?_⟩) ?_
    · go_simp
    conv => arg 8; simp [Act.put]
    refine wpAnyH_takeL (i := 7) (v := .pointer (some ⟨x, 5, none⟩)) #[true, true, true, true, true, true, true, true, false, false, false, false, false, false, false, false] rfl (by kernel_rfl) (by kernel_rfl) (by kernel_rfl) (fun _ _ _ h => h) (by kernel_rfl) (Stay.refl _ _) (Or.inl ⟨by rfl, fun W hW => ?_⟩) ?_
    · go_simp
    conv => arg 8; simp [Act.put]
    refine wpAnyH_takeL (i := 8) (v := .slice (some ⟨go, 0, none⟩) n1 v1c) #[true, true, true, true, true, true, true, true, true, false, false, false, false, false, false, false] rfl (by kernel_rfl) (by kernel_rfl) (by kernel_rfl) (fun _ _ _ h => h) (by kernel_rfl) (Stay.refl _ _) (Or.inl ⟨by rfl, fun W hW => ?_⟩) ?_
    · have q1 := (hst.trans hW).cell e5 HXN.out
      go_simp
    conv => arg 8; simp [Act.put]
    refine wpAnyH_takeL (i := 9) (v := .int .i64 (lv : Int)) #[true, true, true, true, true, true, true, true, true, true, false, false, false, false, false, false] rfl (by kernel_rfl) (by kernel_rfl) (by kernel_rfl) (fun _ _ _ h => h) (by kernel_rfl) (Stay.refl _ _) (Or.inl ⟨by rfl, fun W hW => ?_⟩) ?_
    · go_simp
    conv => arg 8; simp [Act.put]
    refine wpAnyH_takeL (i := 10) (v := .pointer (some ⟨go, lv, none⟩)) #[true, true, true, true, true, true, true, true, true, true, true, false, false, false, false, false] rfl (by kernel_rfl) (by kernel_rfl) (by kernel_rfl) (fun _ _ _ h => h) (by kernel_rfl) (Stay.refl _ _) (Or.inl ⟨by rfl, fun W hW => ?_⟩) ?_
    · have q1 := HLI.out
      go_simp
    conv => arg 8; simp [Act.put]
    refine wpAnyH_takeL (i := 12) (v := .func (.func 111) #[] #[.pointer (some ⟨b, 0, none⟩)]) #[true, true, true, true, true, true, true, true, true, true, true, false, true, false, false, false] rfl (by kernel_rfl) (by kernel_rfl) (by kernel_rfl) (fun _ _ _ h => h) (by kernel_rfl) (Stay.refl _ _) (Or.inl ⟨by rfl, fun W hW => ?_⟩) ?_
    · go_simp
    conv => arg 8; simp [Act.put]
    refine wpAnyH_one #[true, true, true, true, true, true, true, true, true, true, true, true, true, false, false, false] (i := 11) rfl (by kernel_rfl) (by kernel_rfl) (fun K hK => ?_)
    go_simp
    refine hK _ _ (Stay.refl _ _) ?_
    clear hK
    conv => arg 8; simp [Act.put]
    refine wpAnyH_one #[true, true, true, true, true, true, true, true, true, true, true, true, true, true, false, false] (i := 13) rfl (by kernel_rfl) (by kernel_rfl) (fun K hK => ?_)
    go_simp
    go_wp2_with (go_at_call 110; refine (HDEL.out).mono ?_; rintro e z1 ⟨u2, rfl, ho2, s0, hb2⟩; obtain ⟨u2a, u2n, u2c, rfl⟩ : ∃ a n c, u2 = .slice a n c := (by obtain ⟨p, q, e⟩ := ho2.form; exact ⟨p, _, q, e⟩); have s : Stay (fun k => u.ownBlock = some k ∨ k = go) W.drew z1 := s0.mono (fun k hk => .inl (by rw [HUE.out, ← HN0.out]; exact hk)))
    replace hst := hst.trans s
    refine hK _ _ s ?_
    clear hK
    conv => arg 8; simp [Act.put]
    refine wpAnyH_narrow (S' := Stay (fun k => u.ownBlock = some k ∨ k = go) z1) (fun _ h => s.trans h) _ _ _ _ ?_
    clear s
    have HS0 := Lib.hid s0
    have hgz := (s0.block go (HGT.out.lt) (fun hx => absurd ((HUT.out go (by rw [HUE.out, ← HN0.out]; exact hx)).uniq HGT.out) (by decide)))
    refine wpAnyH_takeL (i := 14) (v := .pointer (some ⟨go, lv, none⟩)) #[true, true, true, true, true, true, true, true, true, true, true, true, true, true, true, false] rfl (by kernel_rfl) (by kernel_rfl) (by kernel_rfl) (fun _ _ _ h => h) (by kernel_rfl) (Stay.refl _ _) (Or.inl ⟨by rfl, fun W hW => ?_⟩) ?_
    · have q1 := HLI.out
      go_simp
    conv => arg 8; simp [Act.put]
    have hco := (HR.out.ix.lv.out.stay0 (Stay.drew (w := W))).stay s0 (fun k hk hx => by cases hk; exact absurd ((HUT.out go (by rw [HUE.out, ← HN0.out]; exact hx)).uniq HGT.out) (by decide))
    have hfg : z1.frozen? ⟨go, lv, none⟩ = false := hco.fr lv
    have hcg : z1.cell? ⟨go, lv, none⟩ = some (.slice ua n0 uc) := hco.cell (by rw [HU.out, HUE.out, HN0.out])
    refine wpAnyH_one #[true, true, true, true, true, true, true, true, true, true, true, true, true, true, true, true] (i := 15) rfl (by kernel_rfl) (by kernel_rfl) (fun K hK => ?_)
    go_simp
    refine hK _ _ (Stay.setCell (X := fun k => u.ownBlock = some k ∨ k = go) z1 ⟨go, lv, none⟩ _ (.inr rfl)) ?_
    clear hK
    conv => arg 8; simp [Act.put]
    refine wpAnyH_done (by kernel_rfl) ?_ _
    clear hfg hcg hgz egd eg e5
    have hrw := (HR.out.ix.stay0 (Stay.drew (w := W))).row (l' := l0.filter (fun q => !decide (q.s ∈ Q.map (·.s)))) HU.out (HUE.out.symm ▸ (HN0.out ▸ s0)) (by
      have h1 := ho2
      rw [List.filter_map] at h1
      exact h1) (fun k hk => .inl (by rw [HUE.out, ← HN0.out, ← hb2]; exact hk)) (fun q hq => HR.out.ix.sub l0 (List.mem_of_getElem? HL0.out) q (List.mem_filter.1 hq).1)
    have hs2 : Stay A w (z1.setCell ⟨go, lv, none⟩ (.slice u2a u2n u2c)) := (HR.out.st.trans (Stay.drew (X := A) (w := W))).andThen hrw.2 (fun k hk h => by
      rcases h with h | h
      · exact (HUB.out k h).resolve_right (by omega)
      · exact (HR.out.hb k (h ▸ HR.out.ix.lv.bo go rfl)).resolve_right (by omega))
    have hbx2 := (hrw.2.block b (Array.getElem?_eq_some_iff.1 HR.out.bx).1 (fun h => by
      rcases h with h | h
      · exact absurd ((HUT.out b h).uniq ⟨_, _, HR.out.bx⟩) (by decide)
      · exact HR.out.nb (h ▸ HR.out.ix.lv.bo go rfl))).trans (show W.drew.heap[b]? = _ from HR.out.bx)
    have hmm2 := MAt.keep (HR.out.mm.stay0 (Stay.drew (w := W))) hrw.2 (fun k hk => by
      rcases hk with hk | hk
      · have ht : Ty W.drew k 81 := HUT.out k hk
        exact ⟨fun h2 => absurd (ht.uniq h2) (by decide), fun h2 => absurd (ht.uniq h2) (by decide)⟩
      · subst hk
        have ht : Ty W.drew k 85 := HGT.out
        exact ⟨fun h2 => absurd (ht.uniq h2) (by decide), fun h2 => absurd (ht.uniq h2) (by decide)⟩)
    obtain ⟨B2, hB2⟩ : ∃ B2 : Nat → Prop, B2 = fun k => B1 k ∨ (Value.slice u2a u2n u2c).ownBlock = some k := ⟨_, rfl⟩
    have hi2 := hrw.1
    rw [← hB2] at hi2
    have HM2 := Lib.hid (show MAt B2 _ a I.A from hmm2.mono (fun k _ hk => by rw [hB2]; exact .inl hk))
    have HB2 := Lib.hid (show ∀ k, B2 k → A k ∨ w.heap.size ≤ k from fun k hk => by
      rw [hB2] at hk
      rcases hk with hk | hk
      · exact HR.out.hb k hk
      · rw [hb2] at hk
        exact HUB.out k (by rw [HUE.out, ← HN0.out]; exact hk))
    have HNB2 := Lib.hid (show ¬ B2 b from fun hk => by
      rw [hB2] at hk
      rcases hk with hk | hk
      · exact HR.out.nb hk
      · rw [hb2] at hk
        exact absurd ((HUT.out b (by rw [HUE.out, ← HN0.out]; exact hk)).uniq ⟨_, _, HR.out.bx⟩) (by decide))
    have HGO2 := Lib.hid (show B2 go by rw [hB2]; exact .inl (HR.out.ix.lv.bo go rfl))
    obtain ⟨z2, hz2⟩ : ∃ z2, z2 = z1.setCell ⟨go, lv, none⟩ (.slice u2a u2n u2c) := ⟨_, rfl⟩
    rw [← hz2] at hs2 hbx2 HM2 hi2 ⊢
    obtain ⟨l1, hl1⟩ : ∃ l1, l1 = l0.filter (fun q => !decide (q.s ∈ Q.map (·.s))) := ⟨_, rfl⟩
    rw [← hl1] at hi2
    have HLS1 := Lib.hid hl1
    have HLG := Lib.hid HL0.out
    have HGL := Lib.hid (show LS1.length ≤ 1000 from by have h1 := HR.out.gr; unfold growL at h1; rw [h1]; have := HN.out; split <;> simp <;> omega)
    have HS2 := Lib.hid hs2
    have HBX2 := Lib.hid hbx2
    have HI2 := Lib.hid hi2
    have HGR := Lib.hid HR.out.gr
    have HLN := Lib.hid HR.out.ln
    have HVL1 := Lib.hid (show vs1.length = n1 by rw [HR.out.ix.lv.len, HR.out.ln]; simp [lvs])
    have d5 : z2.cell? ⟨x, 5, none⟩ = some (.slice (some ⟨go, 0, none⟩) n1 v1c) := hi2.c rfl
    have hlv2 : (lv : Int) + 1 < (n1 : Int) := by have := HLL.out; have := HLN.out; omega
    obtain ⟨u3, hu3⟩ : ∃ u3, (vs1.set lv (.slice u2a u2n u2c))[lv + 1]? = some u3 := ⟨_, List.getElem?_eq_getElem (by rw [List.length_set, HVL1.out]; omega)⟩
    have cg2 : z2.cell? ⟨go, lv + 1, none⟩ = some u3 := hi2.lv.out.cell hu3
    have fg2 : z2.frozen? ⟨go, lv + 1, none⟩ = false := hi2.lv.out.fr _
    have HU3 := Lib.hid hu3
    have HMV2 := Lib.hid (HMV.out.stay hs2 (fun k hk => HMVA.out k hk))
    have hdj := hi2.row (l' := M) hu3 (Stay.refl (fun k => u3.ownBlock = some k) z2) HMV2.out (fun k hk => .inr ⟨fun hb => by
      have h3 := (HMV.out.lt k hk).2
      rcases HB2.out k hb with h | h
      · exact HMVA.out k hk h
      · omega, fun hf => HMVA.out k hk (HFA.out k hf)⟩) HMT.out
    have HRW3 := Lib.hid hdj
    clear hdj hu3 hi2 hs2 hbx2 hl1 hz2 hB2 hmm2 hrw hco ho2 hb2 hst HR HUE HUB HRU HDEL HXN HUT HL0 s0 HS0 HU
    have hbg : b ≠ go := fun e => HNB2.out (e ▸ HGO2.out)
    have db2 : z2.cell? ⟨b, 0, none⟩ = some (.slice ia m ic) := by rw [cell_of_row z2 b 0 _ _ _ HBX2.out]; rfl
    have hmq : m = Q.length := by rw [HMM.out, len_ptrs, List.length_map]
    have hmi : (m : Int) ≤ 900 := by have := HQL.out; omega
    obtain ⟨B3, hB3⟩ : ∃ B3 : Nat → Prop, B3 = fun k => B2 k ∨ (Value.slice ma m2 mc).ownBlock = some k := ⟨_, rfl⟩
    have hrw3 := HRW3.out
    rw [← hB3] at hrw3
    have HB3 := Lib.hid (show ∀ k, B3 k → A k ∨ (Value.slice ma m2 mc).ownBlock = some k ∨ w.heap.size ≤ k from fun k hk => by
      rw [hB3] at hk
      rcases hk with hk | hk
      · exact (HB2.out k hk).imp id .inr
      · exact .inr (.inl hk))
    have hst3 : Stay (fun k => k = go) z2 (z2.setCell ⟨go, lv + 1, none⟩ (.slice ma m2 mc)) := Stay.setCell _ _ _ rfl
    have HM3 := Lib.hid (show MAt B3 (z2.setCell ⟨go, lv + 1, none⟩ (.slice ma m2 mc)) a I.A from (MAt.keep HM2.out hst3 (fun k hk => by
      subst hk
      have ht : Ty z2 k 85 := HI2.out.lv.out.ty k rfl
      exact ⟨fun h2 => absurd (ht.uniq h2) (by decide), fun h2 => absurd (ht.uniq h2) (by decide)⟩)).mono (fun k _ hk => by rw [hB3]; exact .inl hk))
    have HS3 := Lib.hid (HS2.out.andThen hst3 (fun k hk h => (HB2.out k (h ▸ HGO2.out)).resolve_right (by omega)))
    have HI3 := Lib.hid hrw3.1
    have HZ3 := Lib.hid (show z2.heap.size ≤ (z2.setCell ⟨go, lv + 1, none⟩ (.slice ma m2 mc)).heap.size from hst3.size)
    clear hrw3 hB3 hst3 HRW3
    subst hmq
    go_wp2_with fail
    generalize z2.setCell ⟨go, lv + 1, none⟩ (.slice ma m2 mc) = z3 at *
    obtain ⟨vs3, hvs3⟩ : ∃ vs3, vs3 = (vs1.set lv (.slice u2a u2n u2c)).set (lv + 1) (.slice ma m2 mc) := ⟨_, rfl⟩
    obtain ⟨LS3, hLS3⟩ : ∃ LS3, LS3 = (LS1.set lv l1).set (lv + 1) M := ⟨_, rfl⟩
    rw [← hvs3, ← hLS3] at HI3
    obtain ⟨I3, hI3⟩ : ∃ I3 : Im, I3 = { I with LS := LS3 } := ⟨_, rfl⟩
    rw [← hI3] at HI3
    have H3T := Lib.hid (show I3.T = I.T ∧ I3.hc = I.hc ∧ I3.hd = I.hd from by rw [hI3]; exact ⟨rfl, rfl, rfl⟩)
    have HI3E := Lib.hid hI3
    have HLS3 := Lib.hid hLS3
    have HV3L := Lib.hid (show vs3.length = n1 by rw [hvs3, List.length_set, List.length_set, HVL1.out])
    clear hvs3 hLS3 hI3 d5 cg2 fg2 hbg db2 HI2 HM2 HS2 HBX2 HU3 HVL1
    go_loopw [53] (fun i wr => ∃ j : Nat, i = .int .i64 (j : Int) ∧ j ≤ Q.length ∧ Hid (IxC B3 F wr x (I3.rels ((Q.take j).map (·.s))) a (.slice (some ⟨go, 0, none⟩) n1 v1c) vs3) ∧ Hid (MAt B3 wr a I.A) ∧ Hid (Stay A w wr)) (fun i _ => Q.length - (intOf i).toNat)
    case atStart => exact ⟨0, rfl, Nat.zero_le _, HI3, HM3, HS3⟩
    case round =>
      obtain ⟨j, rfl, hj, HIX, HMT2, HST⟩ := hrel
      by_cases hlt : j < Q.length
      · obtain ⟨q, hq⟩ : ∃ q, Q[j]? = some q := ⟨_, List.getElem?_eq_getElem hlt⟩
        have hqm := List.mem_of_getElem? hq
        have hcs := (HIV.out.stay HST.out (fun k hk => HIVA.out k hk)).cs
        obtain ⟨gq, oq, rfl, _, hcc⟩ := hcs.at (by rw [len_ptrs, List.length_map]; exact Nat.lt_of_le_of_lt (Nat.zero_le j) hlt)
        have cq := hcc j _ (at_ptrs (by simp [hq]) : (ptrs (Q.map (·.s)))[j]? = some (ptrV q.s))
        unfold ptrV at cq
        have hsame := rels_same ((Q.take j).map (·.s)) I3
        have hnin : q.s ∉ (Q.take j).map (·.s) := fun hin => by
          have h1 := HQN.out
          rw [← List.take_append_drop j Q, List.map_append] at h1
          have h2 := (List.nodup_append.1 h1).2.2 q.s hin q.s (List.mem_map.2 ⟨q, List.mem_of_getElem? (by rw [List.getElem?_drop]; exact hq : (Q.drop j)[0]? = some q), rfl⟩)
          exact h2 rfl
        have hhc1 := (rels_hc ((Q.take j).map (·.s)) I3 q.s).2 hnin
        rw [H3T.out.2.1] at hhc1
        have hhd1 := rels_hd ((Q.take j).map (·.s)) I3
        rw [H3T.out.2.2, List.length_map, List.length_take] at hhd1
        have hhq := HHC.out q hqm
        have hlet := let_ix HIX.out HMT2.out (q := q) (by rw [hsame.1, H3T.out.1]; exact HQT.out q hqm) (by omega) (by omega) (by have := HHD.out; omega) (fun _ => by have := HQD.out; omega)
        have HLET := Lib.hid hlet
        have HQS := Lib.hid (show A q.s from by
          obtain ⟨_, _, _, _, hb⟩ := HI0.out.sh q (HQT.out q hqm)
          exact HBA.out _ hb)
        have HSN := Lib.hid (show (Q.take (j + 1)).map (·.s) = (Q.take j).map (·.s) ++ [q.s] by rw [List.take_add_one, hq]; simp)
        generalize q.s = s at *
        clear hq hqm hcs hcc hsame hnin hhc1 hhd1 hhq hlet
        go_wp2_with fail
        refine HLET.out.mono ?_
        rintro e w5 ⟨rfl, hi5, hm5, hs5⟩
        have HI5 := Lib.hid hi5
        have HM5 := Lib.hid hm5
        have HS5 := Lib.hid (HST.out.andThen hs5 (fun k hk h => by
          rcases h with h | h
          · subst h
            exact HQS.out
          · subst h
            exact HBA.out k HI0.out.bx))
        clear hi5 hm5 hs5 HLET
        go_wp2
        exact ⟨⟨j + 1, by go_num, hlt, Lib.hid (by rw [HSN.out, rels_snoc]; exact HI5.out), HM5, HS5⟩, by simp [intOf]; omega⟩
      · obtain rfl : j = Q.length := by omega
        have hix4 := HIX.out
        rw [List.take_length] at hix4
        have hsame := rels_same (Q.map (·.s)) I3
        obtain ⟨I4, hI4⟩ : ∃ I4, I4 = I3.rels (Q.map (·.s)) := ⟨_, rfl⟩
        rw [← hI4] at hix4 hsame
        have HI4E := Lib.hid hI4
        have HSM := Lib.hid hsame
        have HI4 := Lib.hid hix4
        have f5 : wr.cell? ⟨x, 5, none⟩ = some (.slice (some ⟨go, 0, none⟩) n1 v1c) := hix4.c rfl
        clear hix4 hsame hI4 HIX
        go_wp2_with fail
        have HL3 := Lib.hid (show LS3.length = n1 by rw [HLS3.out, List.length_set, List.length_set]; exact HLN.out.symm)
        have HREP := Lib.hid (show LS3 = repL I.LS Q M lv by
          rw [HLS3.out, HLS1.out]
          unfold repL
          rw [← HGR.out, List.getD_eq_getElem?_getD, HLG.out]
          rfl)
        go_loopw [10] (fun nn wr => ∃ k : Nat, nn = .int .i64 (k : Int) ∧ k ≤ n1 ∧ Hid (IxC B3 F wr x { I4 with LS := LS3.take k } a (.slice (some ⟨go, 0, none⟩) k v1c) (vs3.take k)) ∧ Hid (MAt B3 wr a I.A) ∧ Hid (Stay A w wr) ∧ Hid (∀ (i : Nat) (l : List Sh), k ≤ i → LS3[i]? = some l → l = [])) (fun nn _ => (intOf nn).toNat)
        case atStart =>
          refine ⟨n1, rfl, Nat.le_refl _, Lib.hid ?_, HMT2, HST, Lib.hid (fun i l hi hl => by have := (List.getElem?_eq_some_iff.1 hl).1; have := HL3.out; omega)⟩
          rw [List.take_of_length_le (by rw [HL3.out]; exact Nat.le_refl _), List.take_of_length_le (by rw [HV3L.out]; exact Nat.le_refl _)]
          have e : ({ I4 with LS := LS3 } : Im) = I4 := by
            have h1 : I3.LS = LS3 := by rw [HI3E.out]
            have h2 : I4.LS = LS3 := HSM.out.2.1.trans h1
            rw [← h2]
          rw [e]
          exact HI4.out
        case round =>
          obtain ⟨k, rfl, hk, HIK, HMK, HSK, HEK⟩ := hrel
          have c5 : wr.cell? ⟨x, 5, none⟩ = some (.slice (some ⟨go, 0, none⟩) k v1c) := HIK.out.c rfl
          have g5 : wr.frozen? ⟨x, 5, none⟩ = false := HIK.out.fr 5
          cases k with
          | zero =>
            clear c5 g5
            go_wp2
            have hfin := fin_ix (A := fun k => A k ∨ (Value.slice ma m2 mc).ownBlock = some k) (w0 := w) HIK.out (by
              have h9 := HSM.out.2.2.1
              rw [HI3E.out] at h9
              show MAt B3 wr a I4.A
              rw [h9]
              exact HMK.out) (fun k hk => (HB3.out k hk).elim (fun h => .inl (.inl h)) (fun h => h.elim (fun h => .inl (.inr h)) .inr)) (fun k hk => .inl (.inl (HFA.out k hk))) (HSK.out.mono (fun k hk => .inl hk)) (by
              obtain ⟨_, _, _, h9, h10, h11, h12, h13, _⟩ := HSM.out
              rw [HI3E.out] at h9 h10 h11 h12 h13
              obtain ⟨q1, q2, q3, q4, q5, q6, q7, q8⟩ := HCF.out
              exact ⟨by rw [h10]; exact q1, by rw [h10]; exact q2, by rw [h11]; exact q3, by rw [h11]; exact q4, by rw [h12]; exact q5, by rw [h12]; exact q6, by rw [h13]; exact q7, by rw [h13]; exact q8⟩) (by
              have h9 := HSM.out.2.2.1
              rw [HI3E.out] at h9
              show Nrm I4.A
              rw [h9]
              exact HNR.out)
            have hrep : ({ I4 with LS := LS3.take 0 } : Im) = I.repl Q M lv 0 := by
              unfold Im.repl
              rw [HI4E.out, HI3E.out, rels_ls, ← HREP.out]
            rw [hrep] at hfin
            rw [← HREP.out, HBB.out]
            refine bodyPost_end (results_none rfl _ _ _) rfl ⟨rfl, HSK.out, 0, ⟨Nat.zero_le _, HEK.out, fun t l h => by cases h⟩, hfin.1⟩
          | succ t =>
            have hkt : ((t + 1 : Nat) : Int) = (t : Int) + 1 := by omega
            obtain ⟨l, hl⟩ : ∃ l, LS3[t]? = some l := ⟨_, List.getElem?_eq_getElem (by rw [HL3.out]; omega)⟩
            obtain ⟨u, hu, hru⟩ := HIK.out.lv.at (i := t) (ss := l.map (·.s)) (lvs_at (by rw [List.getElem?_take, if_pos (by omega)]; exact hl))
            obtain ⟨ua2, uc2, hue⟩ := hru.form
            rw [len_ptrs, List.length_map] at hue
            have ct : wr.cell? ⟨go, t, none⟩ = some u := HIK.out.lv.out.cell hu
            obtain ⟨lz, hlz⟩ : ∃ lz, lz = l.length := ⟨_, rfl⟩
            rw [hue, ← hlz] at ct
            have HLZ := Lib.hid hlz
            have HLT3 := Lib.hid hl
            have hki : (t : Int) < (n1 : Int) := by omega
            have hki2 : (n1 : Int) ≤ 1000 := by have := HLN.out; have := HGL.out; omega
            have hcv : (t : Int) ≤ (v1c : Int) := by
              obtain ⟨_, _, hg9, hcl9, _⟩ := HIK.out.lv.out.at (by rw [List.length_take, HV3L.out]; omega)
              rw [List.length_take, HV3L.out, show min (t + 1) n1 = t + 1 by omega] at hg9 hcl9
              cases hg9
              omega
            clear hl hu hru hue hlz
            by_cases hz : lz = 0
            · subst hz
              go_wp2
              have hv3 : t ≤ (vs3.take (t + 1)).length := by rw [List.length_take, HV3L.out]; omega
              have hcut := HIK.out.cut hv3
              have hst := Stay.setCell (X := fun k => k = x) wr ⟨x, 5, none⟩ (.slice (some ⟨go, 0, none⟩) t v1c) rfl
              refine ⟨⟨t, rfl, by omega, Lib.hid ?_, Lib.hid (MAt.keep HMK.out hst (fun k hk => by
                subst hk
                have ht := HIK.out.ty
                exact ⟨fun h2 => absurd (ht.uniq h2) (by decide), fun h2 => absurd (ht.uniq h2) (by decide)⟩)), Lib.hid (HSK.out.trans (hst.mono (fun k hk => by subst hk; exact HBA.out _ HI0.out.bx))), Lib.hid (fun i l hi hl => ?_)⟩, by simp [intOf]⟩
              · have e1 : (LS3.take (t + 1)).take t = LS3.take t := by rw [List.take_take]; congr 1; omega
                have e2 : (vs3.take (t + 1)).take t = vs3.take t := by rw [List.take_take]; congr 1; omega
                simp only [e1, e2] at hcut
                exact hcut
              · by_cases h : i = t
                · subst h
                  rw [HLT3.out] at hl
                  cases hl
                  exact List.eq_nil_of_length_eq_zero HLZ.out.symm
                · exact HEK.out i l (by omega) hl
            · have hz1 : ((lz : Int) == 0) = false := by rw [beq_eq_false_iff_ne]; omega
              go_wp2
              have hfin := fin_ix (A := fun k => A k ∨ (Value.slice ma m2 mc).ownBlock = some k) (w0 := w) HIK.out (by
                have h9 := HSM.out.2.2.1
                rw [HI3E.out] at h9
                show MAt B3 wr a I4.A
                rw [h9]
                exact HMK.out) (fun k hk => (HB3.out k hk).elim (fun h => .inl (.inl h)) (fun h => h.elim (fun h => .inl (.inr h)) .inr)) (fun k hk => .inl (.inl (HFA.out k hk))) (HSK.out.mono (fun k hk => .inl hk)) (by
                obtain ⟨_, _, _, h9, h10, h11, h12, h13, _⟩ := HSM.out
                rw [HI3E.out] at h9 h10 h11 h12 h13
                obtain ⟨q1, q2, q3, q4, q5, q6, q7, q8⟩ := HCF.out
                exact ⟨by rw [h10]; exact q1, by rw [h10]; exact q2, by rw [h11]; exact q3, by rw [h11]; exact q4, by rw [h12]; exact q5, by rw [h12]; exact q6, by rw [h13]; exact q7, by rw [h13]; exact q8⟩) (by
                have h9 := HSM.out.2.2.1
                rw [HI3E.out] at h9
                show Nrm I4.A
                rw [h9]
                exact HNR.out)
              have hrep : ({ I4 with LS := LS3.take (t + 1) } : Im) = I.repl Q M lv (t + 1) := by
                unfold Im.repl
                rw [HI4E.out, HI3E.out, rels_ls, ← HREP.out]
              rw [hrep] at hfin
              rw [← HREP.out, HBB.out]
              refine bodyPost_end (results_none rfl _ _ _) rfl ⟨rfl, HSK.out, t + 1, ⟨by rw [HL3.out]; exact hk, HEK.out, fun t2 l h hl e => ?_⟩, hfin.1⟩
              have e2 : t2 = t := by omega
              rw [e2, HLT3.out] at hl
              cases hl
              exact hz (by rw [HLZ.out, e]; rfl)

end Go.Proofs.YtljlfdhjolcnaaaGreat.Ix
