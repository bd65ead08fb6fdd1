/-
  index: Compact.
-/
import Derived.Test.YtljlfdhjolcnaaaGreatGaJ
namespace Go.Proofs.YtljlfdhjolcnaaaGreat.Ix
open Go.RowKit Go.Maps Me Mg
set_option maxRecDepth 100000
set_option linter.unusedVariables false

theorem many_fan (w : World) (b x f n : Nat) (va : Option Addr) (vc : Nat) (hb : w.cell? ⟨b, 0, none⟩ = some (.pointer (some ⟨x, 0, none⟩))) (hf : w.cell? ⟨x, 1, none⟩ = some (.int .i64 (f : Int))) :
    Calls Tryz.prog 37 #[.slice va n vc, .pointer (some ⟨b, 0, none⟩)] w fun e w' => e = .returned (.bool (decide (f < n))) ∧ Stay (fun _ => False) w w' := by
  have hd : ((f : Int) < (n : Int)) = (f < n) := by simp
  go_enter Tryz.func37, Tryz.ntmps37
  go_wp2_with fail
  go_ret
  exact ⟨rfl, Stay.refl _ _⟩
/-- The first of these that holds; its number as IndexFunc tells it. -/
def FirstI (n : Nat) (f : Nat → Bool) : Option Nat → Prop
  | some j => j < n ∧ f j = true ∧ ∀ i, i < j → f i = false
  | none => ∀ i, i < n → f i = false
def outI : Option Nat → Int
  | some j => (j : Int)
  | none => -1
theorem FirstI.uniq {n : Nat} {f : Nat → Bool} {r r' : Option Nat} (h : FirstI n f r) (h' : FirstI n f r') : r = r' := by
  cases r with
  | none =>
    cases r' with
    | none => rfl
    | some j =>
      have h1 := h j h'.1
      rw [h'.2.1] at h1
      cases h1
  | some j =>
    cases r' with
    | none =>
      have h1 := h' j h.1
      rw [h.2.1] at h1
      cases h1
    | some i =>
      by_cases hij : i < j
      · have h1 := h.2.2 i hij
        rw [h'.2.1] at h1
        cases h1
      · by_cases hji : j < i
        · have h1 := h'.2.2 j hji
          rw [h.2.1] at h1
          cases h1
        · rw [show i = j by omega]
set_option maxHeartbeats 1200000 in
theorem indexF_lv (w : World) (n : Nat) (va : Option Addr) (vc : Nat) (f : Nat → Bool) (p : Value) (hn : n ≤ 1000000)
    (hc : ∀ W, Stay (fun _ => False) w W → ∀ j : Nat, j < n → ∃ g o a m c, va = some ⟨g, o, none⟩ ∧ W.cell? ⟨g, o + j, none⟩ = some (.slice a m c) ∧ Calls Tryz.prog 37 #[.slice a m c, p] W fun e w' => e = .returned (.bool (f j)) ∧ Stay (fun _ => False) W w') :
    Calls Tryz.prog 36 #[.slice va n vc, .func (.func 37) #[] #[p]] w fun e w' => ∃ r, e = .returned (.int .i64 (outI r)) ∧ FirstI n f r ∧ Stay (fun _ => False) w w' := by
  have HC := Lib.hid hc
  have hni : (n : Int) ≤ 1000000 := by omega
  clear hc hn
  go_enter Tryz.func36, Tryz.ntmps36
  go_wp2_with fail
  go_loopw [8] (fun i wr => ∃ j : Nat, i = .int .i64 (j : Int) ∧ j ≤ n ∧ Hid (∀ i, i < j → f i = false) ∧ Hid (Stay (fun _ => False) w wr)) (fun i _ => n - (intOf i).toNat)
  case atStart => exact ⟨0, rfl, Nat.zero_le _, Lib.hid (fun i h => by omega), Lib.hid (Stay.refl _ _)⟩
  case round =>
    obtain ⟨j, rfl, hj, HF, HS⟩ := hrel
    by_cases hlt : j < n
    · obtain ⟨g, o, a, m, c, rfl, hcell, hcall⟩ := HC.out wr HS.out j hlt
      have HCA := Lib.hid hcall
      obtain ⟨b, hb⟩ : ∃ b, f j = b := ⟨_, rfl⟩
      rw [hb] at HCA
      have HB := Lib.hid hb
      clear hb hcall
      go_wp2_with (fail)
      refine HCA.out.mono ?_
      rintro e w2 ⟨rfl, hs2⟩
      have HS2 := Lib.hid (HS.out.trans hs2)
      clear hs2 HCA hcell
      cases b with
      | true =>
        go_wp2
        go_ret
        exact ⟨some j, rfl, ⟨hlt, HB.out, HF.out⟩, HS2.out⟩
      | false =>
        go_wp2
        exact ⟨⟨j + 1, by go_num, hlt, Lib.hid (fun i hi => by
          by_cases h : i = j
          · subst h; exact HB.out
          · exact HF.out i (by omega)), HS2⟩, by simp [intOf]; omega⟩
    · obtain rfl : j = n := by omega
      go_wp2
      go_ret
      exact ⟨none, rfl, HF.out, HS.out⟩
/-- The first level that has too many tables. -/
def fullB (f : Nat) (LS : List (List Sh)) (i : Nat) : Bool := match LS[i]? with
  | some l => decide (f < l.length)
  | none => false
/-- A box that holds a pointer to an index. -/
def XBox (w : World) (b x : Nat) : Prop := w.heap[b]? = some (.cells #[.pointer (some ⟨x, 0, none⟩)] 25 (0, 0))
theorem XBox.c {w : World} {b x : Nat} (h : XBox w b x) : w.cell? ⟨b, 0, none⟩ = some (.pointer (some ⟨x, 0, none⟩)) := by rw [cell_of_row w b 0 _ _ _ h]; rfl
theorem XBox.stay0 {w w' : World} {b x : Nat} (h : XBox w b x) (hs : Stay (fun _ => False) w w') : XBox w' b x := (hs.block b (Array.getElem?_eq_some_iff.1 h).1 (fun x => x)).trans h
set_option maxHeartbeats 1200000 in
theorem compact_lock {A : Nat → Prop} (w : World) (x : Nat) (I : Im) (h : IxAt A w x I) (hm : I.mg = true) :
    Calls Tryz.prog 13 #[.pointer (some ⟨x, 0, none⟩)] w fun e w' => e = .returned (.tuple #[.pointer none, .iface 66 (.int .i64 40)]) ∧ Stay (fun _ => False) w w' := by
  obtain ⟨B, F, a, v, vs, hB, hF, hl, h1, h2⟩ := h.ex
  have c7 : w.cell? ⟨x, 7, none⟩ = some (.bool true) := hm ▸ h1.c rfl
  have HS := Lib.hid (show Stay (fun _ => False) w (w.alloc (.cells #[.pointer (some ⟨x, 0, none⟩)] 25)) from Stay.alloc _ _)
  have d7 := HS.out.cell c7 (fun x => x)
  clear h h1 h2 hB hF hl hm c7
  go_enter Tryz.func13, Tryz.ntmps13
  go_wp2_with fail
  go_ret2
  exact ⟨rfl, HS.out⟩
theorem first_full {B F : Nat → Prop} (w : World) (x b a : Nat) (I : Im) (v : Value) (vs : List Value) (h : IxC B F w x I a v vs) (hx : XBox w b x) (hn : I.LS.length ≤ 1000000) :
    Calls Tryz.prog 36 #[v, .func (.func 37) #[] #[.pointer (some ⟨b, 0, none⟩)]] w fun e w' => ∃ r, e = .returned (.int .i64 (outI r)) ∧ FirstI I.LS.length (fullB I.f I.LS) r ∧ Stay (fun _ => False) w w' := by
  have hvl : vs.length = I.LS.length := by rw [h.lv.len]; simp [lvs]
  obtain ⟨va, vc, hv⟩ : ∃ va vc, v = .slice va I.LS.length vc := by obtain ⟨p, q, e⟩ := h.lv.out.form; exact ⟨p, q, by rw [e, hvl]⟩
  rw [hv]
  refine indexF_lv w I.LS.length va vc (fullB I.f I.LS) _ hn (fun W hW j hj => ?_)
  obtain ⟨l, hl⟩ : ∃ l, I.LS[j]? = some l := ⟨_, List.getElem?_eq_getElem hj⟩
  obtain ⟨u, hu, hr⟩ := h.lv.at (lvs_at hl)
  obtain ⟨ua, uc, hue⟩ := hr.form
  rw [len_ptrs, List.length_map] at hue
  obtain ⟨go, gc, hge, _⟩ := h.lv.out.at (by omega)
  have hva : va = some ⟨go, 0, none⟩ := by
    rw [hv, hvl] at hge
    cases hge
    rfl
  subst hva
  refine ⟨go, 0, ua, l.length, uc, rfl, ?_, ?_⟩
  · rw [Nat.zero_add, ← hue]
    exact hW.cell ((hv ▸ h.lv.out : CO 0 _ w (.slice (some ⟨go, 0, none⟩) _ vc) vs).cell hu) (fun x => x)
  · have := many_fan W b x I.f l.length ua uc (hx.stay0 hW).c (hW.cell (h.c (j := 1) rfl) (fun x => x))
    rwa [show decide (I.f < l.length) = fullB I.f I.LS j by unfold fullB; rw [hl]] at this
set_option maxHeartbeats 1200000 in
theorem compact_none {A : Nat → Prop} (w : World) (x : Nat) (I : Im) (h : IxAt A w x I) (hm : I.mg = false) (hn : ∀ l ∈ I.LS, l.length ≤ I.f) (hlen : I.LS.length ≤ 1000000) :
    Calls Tryz.prog 13 #[.pointer (some ⟨x, 0, none⟩)] w fun e w' => e = .returned (.tuple #[.pointer none, .iface 66 (.int .i64 8)]) ∧ Stay (fun _ => False) w w' := by
  obtain ⟨B, F, a, v, vs, hB, hF, hl, h1, h2⟩ := h.ex
  have c7 : w.cell? ⟨x, 7, none⟩ = some (.bool false) := hm ▸ h1.c rfl
  have c5 : w.cell? ⟨x, 5, none⟩ = some v := h1.c rfl
  have hs0 : Stay (fun _ => False) w (w.alloc (.cells #[.pointer (some ⟨x, 0, none⟩)] 25)) := Stay.alloc _ _
  have hx0 : XBox (w.alloc (.cells #[.pointer (some ⟨x, 0, none⟩)] 25)) w.heap.size x := heap_alloc_new w _
  have HI := Lib.hid (h1.stay0 hs0)
  have d7 := hs0.cell c7 (fun x => x)
  have d5 := hs0.cell c5 (fun x => x)
  have HFI := Lib.hid (first_full _ x _ a I v vs HI.out hx0 hlen)
  have HN := Lib.hid hn
  have HS := Lib.hid hs0
  clear h h1 h2 hB hF hl hm c7 c5 hs0 hx0 hn hlen
  go_enter Tryz.func13, Tryz.ntmps13
  go_wp2_with fail
  refine HFI.out.mono ?_
  rintro e w1 ⟨r, rfl, hr, hs1⟩
  obtain rfl : r = none := by
    cases r with
    | none => rfl
    | some j =>
      exfalso
      have h2 := hr.2.1
      unfold fullB at h2
      rw [List.getElem?_eq_getElem hr.1] at h2
      have h3 := HN.out _ (List.getElem_mem hr.1)
      simp at h2
      omega
  have HS1 := Lib.hid (HS.out.trans hs1)
  clear hr hs1 HFI HN d7 d5
  unfold outI
  go_wp2
  go_ret2
  exact ⟨rfl, HS1.out⟩
/-- Some of them. -/
theorem LvS.part {w : World} {a0 : Option Addr} {n c i j : Nat} {LS : List (List Nat)} (h : LvS w (.slice a0 n c) LS) (hi : i ≤ j) (hj : j ≤ LS.length) : LvS w (.slice (if c = i then a0 else a0.map (·.add i)) (j - i) (c - i)) ((LS.drop i).take (j - i)) := by
  obtain ⟨vs, h1, h2, h3⟩ := h.ex
  refine ⟨(vs.drop i).take (j - i), h1.part hi (by omega), by simp [h2], fun m ss u hs hu => ?_⟩
  rw [List.getElem?_take] at hs hu
  split at hs
  · rw [List.getElem?_drop] at hs
    rename_i hm
    rw [if_pos hm, List.getElem?_drop] at hu
    exact h3 _ ss u hs hu
  · cases hs
theorem sub_flat {α : Type} (LS : List (List α)) (i k : Nat) : ((LS.drop i).take k).flatten.length ≤ LS.flatten.length := by
  conv => rhs; rw [← List.take_append_drop i LS, ← List.take_append_drop k (LS.drop i)]
  simp only [List.flatten_append, List.length_append]
  omega
/-- What a job is: its index, its level, its inputs, what is left of their entries, whether those that are gone are left out, what was taken. -/
structure Jb where
  x : Nat
  lv : Nat
  Q : List Sh
  R : List En
  N : Nat
  d : Bool
  K : List En
/-- A job in memory. -/
structure JAt (A : Nat → Prop) (w : World) (j : Nat) (J : Jb) : Prop where
  ex : ∃ (iv tv : Value) (r : Nat) (AR : Nat → Prop), w.heap[j]? = some (.cells #[.pointer (some ⟨J.x, 0, none⟩), .int .i64 (J.lv : Int), iv, .pointer (some ⟨r, 0, none⟩), .bool J.d, tv] 92 (0, 0)) ∧ CO 0 81 w iv (ptrs (J.Q.map (·.s))) ∧ RdS AR w r J.R J.N ∧ EnO 0 w tv J.K ∧
    (∀ k, AR k → A k ∧ k < w.heap.size) ∧ A j ∧ (∀ k, iv.ownBlock = some k → A k) ∧ (∀ k, tv.ownBlock = some k → A k) ∧ ∀ k, AR k → k ≠ j ∧ iv.ownBlock ≠ some k ∧ tv.ownBlock ≠ some k
theorem JAt.stay {A X : Nat → Prop} {w w' : World} {j : Nat} {J : Jb} (h : JAt A w j J) (hs : Stay X w w') (hX : ∀ k, A k → ¬ X k) : JAt A w' j J := by
  obtain ⟨iv, tv, r, AR, h1, h2, h3, h4, h5, h6, h7, h8, h9⟩ := h.ex
  exact ⟨iv, tv, r, AR, (hs.block j (Array.getElem?_eq_some_iff.1 h1).1 (hX j h6)).trans h1, h2.stay hs (fun k hk => hX k (h7 k hk)), h3.stay hs (fun k hk => hX k (h5 k hk).1), h4.stay hs (fun k hk => hX k (h8 k hk)), fun k hk => ⟨(h5 k hk).1, Nat.lt_of_lt_of_le (h5 k hk).2 hs.size⟩, h6, h7, h8, h9⟩
theorem JAt.mono {A A' : Nat → Prop} {w : World} {j : Nat} {J : Jb} (h : JAt A w j J) (hA : ∀ k, k < w.heap.size → A k → A' k) : JAt A' w j J := by
  obtain ⟨iv, tv, r, AR, h1, h2, h3, h4, h5, h6, h7, h8, h9⟩ := h.ex
  exact ⟨iv, tv, r, AR, h1, h2, h3, h4, fun k hk => ⟨hA k (h5 k hk).2 (h5 k hk).1, (h5 k hk).2⟩, hA j (Array.getElem?_eq_some_iff.1 h1).1 h6, fun k hk => hA k (h2.lt k hk).2 (h7 k hk), fun k hk => hA k (h4.lt k hk).2 (h8 k hk), h9⟩
section
variable {B F : Nat → Prop} {w : World} {x a : Nat} {I : Im} {v : Value} {vs : List Value}
theorem IxC.setM (h : IxC B F w x I a v vs) (m : Bool) : IxC B F (w.setCell ⟨x, 7, none⟩ (.bool m)) x { I with mg := m } a v vs := by
  have hst : Stay (· = x) w (w.setCell ⟨x, 7, none⟩ (.bool m)) := Stay.setCell _ _ _ rfl
  refine ⟨?_, h.lv.stay hst (fun k hk => ?_) (fun _ _ hb => hb), h.bx, h.dj, fun p hp => (h.sh p hp).stay hst (fun k _ hk => by subst hk; exact h.dj _ h.bx) (fun _ _ h => h) (fun _ _ h => h) (fun e => (h.sh p hp).ty.ne h.ty (by decide) e), h.sub, h.nd, h.ok⟩
  · rw [heap_setCell_same w x 7 _ _ _ h.blk]
    rfl
  · subst hk
    exact ⟨fun h2 => absurd (h.ty.uniq h2) (by decide), fun h2 => absurd (h.ty.uniq h2) (by decide)⟩
end
/-- The job that a Compact begins. -/
def Im.job (I : Im) (x lv : Nat) : Jb := ⟨x, lv, ((I.LS.drop lv).take 2).flatten, allN (((I.LS.drop lv).take 2).flatten.map (·.L)), ((I.LS.drop lv).take 2).flatten.length, decide (I.LS.length ≤ lv + 2), []⟩
set_option maxHeartbeats 2000000 in
theorem compact_some {A : Nat → Prop} (w : World) (x : Nat) (I : Im) (lv : Nat) (h : IxAt A w x I) (hm : I.mg = false) (hlen : I.LS.length ≤ 1000) (hft : I.LS.flatten.length ≤ 900) (hsz : ∀ q ∈ I.LS.flatten, q.L.length ≤ 1000) (hfi : FirstI I.LS.length (fullB I.f I.LS) (some lv)) :
    Calls Tryz.prog 13 #[.pointer (some ⟨x, 0, none⟩)] w fun e w' => ∃ j, e = .returned (.tuple #[.pointer (some ⟨j, 0, none⟩), .nilIface]) ∧ IxAt A w' x { I with mg := true } ∧ JAt (fun k => w.heap.size ≤ k) w' j (I.job x lv) ∧ Stay A w w' := by
  obtain ⟨B, F, a, v, vs, hB, hF, hl, h1, h2⟩ := h.ex
  have c7 : w.cell? ⟨x, 7, none⟩ = some (.bool false) := hm ▸ h1.c rfl
  have c5 : w.cell? ⟨x, 5, none⟩ = some v := h1.c rfl
  have hs0 : Stay (fun _ => False) w (w.alloc (.cells #[.pointer (some ⟨x, 0, none⟩)] 25)) := Stay.alloc _ _
  have hx0 : XBox (w.alloc (.cells #[.pointer (some ⟨x, 0, none⟩)] 25)) w.heap.size x := heap_alloc_new w _
  have HI := Lib.hid (h1.stay0 hs0)
  have d7 := hs0.cell c7 (fun x => x)
  have d5 := hs0.cell c5 (fun x => x)
  have HFI := Lib.hid (first_full _ x _ a I v vs HI.out hx0 (by omega))
  obtain ⟨b, hb⟩ : ∃ b, b = w.heap.size := ⟨_, rfl⟩
  rw [← hb] at hx0
  have HB := Lib.hid hb
  have HX0 := Lib.hid hx0
  have HR := Lib.hid hfi
  have HFT := Lib.hid hft
  have HSZ := Lib.hid hsz
  have HBA := Lib.hid hB
  have HFA := Lib.hid hF
  have HLT := Lib.hid hl
  have HM1 := Lib.hid h2
  have HCF := Lib.hid h.cfg
  have HNR := Lib.hid h.nrm
  have HS := Lib.hid hs0
  have hvl : vs.length = I.LS.length := by rw [h1.lv.len]; simp [lvs]
  obtain ⟨n, hn⟩ : ∃ n, n = I.LS.length := ⟨_, rfl⟩
  obtain ⟨va, vc, hv⟩ : ∃ va vc, v = .slice va n vc := by obtain ⟨p, q, e⟩ := h1.lv.out.form; exact ⟨p, q, by rw [e, hvl, hn]⟩
  rw [hv] at HFI d5
  have HV := Lib.hid hv
  have HN := Lib.hid hn
  have hni : (n : Int) ≤ 1000 := by omega
  have hlv : lv < n := by rw [hn]; exact hfi.1
  clear h h1 h2 hB hF hl hm c7 c5 hs0 hx0 hlen hfi hvl hv hn hb hft hsz
  go_enter Tryz.func13, Tryz.ntmps13
  go_wp2_with fail
  refine HFI.out.mono ?_
  rintro e w1 ⟨r, rfl, hr, hs1⟩
  obtain rfl := hr.uniq HR.out
  have e5 := hs1.cell d5 (fun x => x)
  have e7 := hs1.cell d7 (fun x => x)
  have HS1 := Lib.hid (HS.out.trans hs1)
  have HI1 := Lib.hid (HI.out.stay0 hs1)
  have HX1 := Lib.hid (HX0.out.stay0 hs1)
  clear hr hs1 HFI d7 d5 HI HX0 HS
  unfold outI
  rw [← HB.out]
  have xb := HX1.out.c
  have hlvn : I.LS.length = n := HN.out.symm
  obtain ⟨go, hva⟩ : ∃ go, va = some ⟨go, 0, none⟩ := by
    obtain ⟨go, gc, hge, _⟩ := HI1.out.lv.out.at (by have := HI1.out.lv.len; simp [lvs] at this; omega)
    rw [HV.out] at hge
    cases hge
    exact ⟨_, rfl⟩
  subst hva
  have hnc : n ≤ vc := by
    obtain ⟨go', gc, hge, h3, _⟩ := HI1.out.lv.out.at (by have := HI1.out.lv.len; simp [lvs] at this; omega)
    rw [HV.out] at hge
    cases hge
    exact h3
  obtain ⟨bh, hbh⟩ : ∃ bh, bh = min (lv + 2) n := ⟨_, rfl⟩
  have hmin : min ((lv : Int) + 2) (n : Int) = (bh : Int) := by omega
  have HQ := Lib.hid (show (lv : Int) ≤ (bh : Int) ∧ (bh : Int) ≤ (vc : Int) ∧ ¬ vc = lv ∧ lv ≤ bh ∧ ¬ (vc : Int) = (lv : Int) from ⟨by omega, by omega, by omega, by omega, by omega⟩)
  obtain ⟨dr, hdr⟩ : ∃ dr, dr = decide (bh = n) := ⟨_, rfl⟩
  have HDR := Lib.hid (show ((bh : Int) == (n : Int)) = dr by rw [hdr]; by_cases h : bh = n <;> simp [h]; omega)
  obtain ⟨Q, hQ⟩ : ∃ Q, Q = (I.LS.drop lv).take (bh - lv) := ⟨_, rfl⟩
  have HCO := Lib.hid (fun W (hW : Stay (fun _ => False) w1 W) => concat_any W (.slice (some ⟨go, lv, none⟩) (bh - lv) (vc - lv)) (lvs Q) (by
    rw [HV.out] at HI1
    have := (HI1.out.lv.lvs.stay0 hW).part (i := lv) (j := bh) (by omega) (by simp [lvs]; omega)
    rw [if_neg (by omega)] at this
    rw [hQ]
    rw [Option.map_some, add_at, Nat.zero_add] at this
    simpa [lvs] using this) (by rw [hQ]; simp [lvs]; omega) (by rw [lvs_flat, List.length_map, hQ]; exact Nat.le_trans (sub_flat I.LS lv (bh - lv)) (by have := HFT.out; omega)))
  have HBH := Lib.hid hbh
  have HQQ := Lib.hid hQ
  clear hlvn hnc hbh hdr hQ
  go_wp2
  clear hmin
  --<R9
  refine wp_region_held (S := Stay (fun _ => False) w1.drew) (by kernel_rfl) ?_
  change wpAnyH _ _ _ _ _ _ _ _ (World.drew _)
  have hst : Stay (fun _ => False) w1 w1.drew := Stay.drew
  refine wpAnyH_takeL (i := 0) (v := .pointer (some ⟨x, 0, none⟩)) #[true, false, false, false, false, false, false, false, false, false, false, false, false, false, false, false, false, false, false, false] rfl (by kernel_rfl) (by kernel_rfl) (by kernel_rfl) (fun _ _ _ h => h) (by kernel_rfl) (Stay.refl _ _) (Or.inl ⟨by rfl, fun W hW => ?_⟩) ?_
  · have q1 := (hst.trans hW).cell xb (fun x => x)
    go_simp
  conv => arg 8; simp [Act.put]
  refine wpAnyH_takeL (i := 1) (v := .int .i64 (lv : Int)) #[true, true, false, false, false, false, false, false, false, false, false, false, false, false, false, false, false, false, false, false] rfl (by kernel_rfl) (by kernel_rfl) (by kernel_rfl) (fun _ _ _ h => h) (by kernel_rfl) (Stay.refl _ _) (Or.inl ⟨by rfl, fun W hW => ?_⟩) ?_
  · go_simp
  conv => arg 8; simp [Act.put]
  refine wpAnyH_takeL (i := 2) (v := .pointer (some ⟨x, 0, none⟩)) #[true, true, true, false, false, false, false, false, false, false, false, false, false, false, false, false, false, false, false, false] rfl (by kernel_rfl) (by kernel_rfl) (by kernel_rfl) (fun _ _ _ h => h) (by kernel_rfl) (Stay.refl _ _) (Or.inl ⟨by rfl, fun W hW => ?_⟩) ?_
  · have q1 := (hst.trans hW).cell xb (fun x => x)
    go_simp
  conv => arg 8; simp [Act.put]
  refine wpAnyH_takeL (i := 3) (v := .pointer (some ⟨x, 0, none⟩)) #[true, true, true, true, false, false, false, false, false, false, false, false, false, false, false, false, false, false, false, false] rfl (by kernel_rfl) (by kernel_rfl) (by kernel_rfl) (fun _ _ _ h => h) (by kernel_rfl) (Stay.refl _ _) (Or.inl ⟨by rfl, fun W hW => ?_⟩) ?_
  · go_simp
  conv => arg 8; simp [Act.put]
  refine wpAnyH_takeL (i := 4) (v := .pointer (some ⟨x, 5, none⟩)) #[true, true, true, true, true, false, false, false, false, false, false, false, false, false, false, false, false, false, false, false] rfl (by kernel_rfl) (by kernel_rfl) (by kernel_rfl) (fun _ _ _ h => h) (by kernel_rfl) (Stay.refl _ _) (Or.inl ⟨by rfl, fun W hW => ?_⟩) ?_
  · go_simp
  conv => arg 8; simp [Act.put]
  refine wpAnyH_takeL (i := 5) (v := .slice (some ⟨go, 0, none⟩) n vc) #[true, true, true, true, true, true, false, false, false, false, false, false, false, false, false, false, false, false, false, false] rfl (by kernel_rfl) (by kernel_rfl) (by kernel_rfl) (fun _ _ _ h => h) (by kernel_rfl) (Stay.refl _ _) (Or.inl ⟨by rfl, fun W hW => ?_⟩) ?_
  · have q1 := (hst.trans hW).cell e5 (fun x => x)
    go_simp
  conv => arg 8; simp [Act.put]
  refine wpAnyH_takeL (i := 6) (v := .int .i64 (lv : Int)) #[true, true, true, true, true, true, true, false, false, false, false, false, false, false, false, false, false, false, false, false] rfl (by kernel_rfl) (by kernel_rfl) (by kernel_rfl) (fun _ _ _ h => h) (by kernel_rfl) (Stay.refl _ _) (Or.inl ⟨by rfl, fun W hW => ?_⟩) ?_
  · go_simp
  conv => arg 8; simp [Act.put]
  refine wpAnyH_takeL (i := 7) (v := .int .i64 (bh : Int)) #[true, true, true, true, true, true, true, true, false, false, false, false, false, false, false, false, false, false, false, false] rfl (by kernel_rfl) (by kernel_rfl) (by kernel_rfl) (fun _ _ _ h => h) (by kernel_rfl) (Stay.refl _ _) (Or.inl ⟨by rfl, fun W hW => ?_⟩) ?_
  · go_simp
  conv => arg 8; simp [Act.put]
  refine wpAnyH_takeL (i := 8) (v := .slice (some ⟨go, lv, none⟩) (bh - lv) (vc - lv)) #[true, true, true, true, true, true, true, true, true, false, false, false, false, false, false, false, false, false, false, false] rfl (by kernel_rfl) (by kernel_rfl) (by kernel_rfl) (fun _ _ _ h => h) (by kernel_rfl) (Stay.refl _ _) (Or.inl ⟨by rfl, fun W hW => ?_⟩) ?_
  · have q1 := HQ.out.1
    have q2 := HQ.out.2.1
    have q3 := HQ.out.2.2.1
    have q4 := HQ.out.2.2.2.1
    have q5 := HQ.out.2.2.2.2
    go_simp
  conv => arg 8; simp [Act.put]
  refine wpAnyH_takeL (i := 10) (v := .int .i64 (bh : Int)) #[true, true, true, true, true, true, true, true, true, false, true, false, false, false, false, false, false, false, false, false] rfl (by kernel_rfl) (by kernel_rfl) (by kernel_rfl) (fun _ _ _ h => h) (by kernel_rfl) (Stay.refl _ _) (Or.inl ⟨by rfl, fun W hW => ?_⟩) ?_
  · go_simp
  conv => arg 8; simp [Act.put]
  refine wpAnyH_takeL (i := 11) (v := .pointer (some ⟨x, 0, none⟩)) #[true, true, true, true, true, true, true, true, true, false, true, true, false, false, false, false, false, false, false, false] rfl (by kernel_rfl) (by kernel_rfl) (by kernel_rfl) (fun _ _ _ h => h) (by kernel_rfl) (Stay.refl _ _) (Or.inl ⟨by rfl, fun W hW => ?_⟩) ?_
  · have q1 := (hst.trans hW).cell xb (fun x => x)
    go_simp
  conv => arg 8; simp [Act.put]
  refine wpAnyH_takeL (i := 12) (v := .pointer (some ⟨x, 0, none⟩)) #[true, true, true, true, true, true, true, true, true, false, true, true, true, false, false, false, false, false, false, false] rfl (by kernel_rfl) (by kernel_rfl) (by kernel_rfl) (fun _ _ _ h => h) (by kernel_rfl) (Stay.refl _ _) (Or.inl ⟨by rfl, fun W hW => ?_⟩) ?_
  · go_simp
  conv => arg 8; simp [Act.put]
  refine wpAnyH_takeL (i := 13) (v := .pointer (some ⟨x, 5, none⟩)) #[true, true, true, true, true, true, true, true, true, false, true, true, true, true, false, false, false, false, false, false] rfl (by kernel_rfl) (by kernel_rfl) (by kernel_rfl) (fun _ _ _ h => h) (by kernel_rfl) (Stay.refl _ _) (Or.inl ⟨by rfl, fun W hW => ?_⟩) ?_
  · go_simp
  conv => arg 8; simp [Act.put]
  refine wpAnyH_takeL (i := 14) (v := .slice (some ⟨go, 0, none⟩) n vc) #[true, true, true, true, true, true, true, true, true, false, true, true, true, true, true, false, false, false, false, false] rfl (by kernel_rfl) (by kernel_rfl) (by kernel_rfl) (fun _ _ _ h => h) (by kernel_rfl) (Stay.refl _ _) (Or.inl ⟨by rfl, fun W hW => ?_⟩) ?_
  · have q1 := (hst.trans hW).cell e5 (fun x => x)
    go_simp
  conv => arg 8; simp [Act.put]
  refine wpAnyH_takeL (i := 15) (v := .int .i64 (n : Int)) #[true, true, true, true, true, true, true, true, true, false, true, true, true, true, true, true, false, false, false, false] rfl (by kernel_rfl) (by kernel_rfl) (by kernel_rfl) (fun _ _ _ h => h) (by kernel_rfl) (Stay.refl _ _) (Or.inl ⟨by rfl, fun W hW => ?_⟩) ?_
  · go_simp
  conv => arg 8; simp [Act.put]
  refine wpAnyH_takeL (i := 16) (v := .bool dr) #[true, true, true, true, true, true, true, true, true, false, true, true, true, true, true, true, true, false, false, false] rfl (by kernel_rfl) (by kernel_rfl) (by kernel_rfl) (fun _ _ _ h => h) (by kernel_rfl) (Stay.refl _ _) (Or.inl ⟨by rfl, fun W hW => ?_⟩) ?_
  · have q1 := HDR.out
    go_simp
  conv => arg 8; simp [Act.put]
  refine wpAnyH_one #[true, true, true, true, true, true, true, true, true, true, true, true, true, true, true, true, true, false, false, false] (i := 9) rfl (by kernel_rfl) (by kernel_rfl) (fun K hK => ?_)
  go_simp
  go_wp2_with (go_at_call 38; refine (HCO.out _ hst).mono ?_; rintro e z1 ⟨v2, rfl, ho2, s⟩; obtain ⟨u2, n2, m2, rfl⟩ : ∃ a n c, v2 = .slice a n c := (by obtain ⟨p, q, e⟩ := ho2.form; exact ⟨p, _, q, e⟩))
  replace hst := hst.trans s
  refine hK _ _ s ?_
  clear hK
  conv => arg 8; simp [Act.put]
  refine wpAnyH_narrow (S' := Stay (fun _ => False) z1) (fun _ h => s.trans h) _ _ _ _ ?_
  clear s
  refine wpAnyH_takeL (i := 17) (v := .agg #[.pointer (some ⟨x, 0, none⟩), .int .i64 (lv : Int), .slice u2 n2 m2, .pointer none, .bool dr, .slice none 0 0]) #[true, true, true, true, true, true, true, true, true, true, true, true, true, true, true, true, true, true, false, false] rfl (by kernel_rfl) (by kernel_rfl) (by kernel_rfl) (fun _ _ _ h => h) (by kernel_rfl) (Stay.refl _ _) (Or.inl ⟨by rfl, fun W hW => ?_⟩) ?_
  · go_simp
  conv => arg 8; simp [Act.put]
  refine wpAnyH_one #[true, true, true, true, true, true, true, true, true, true, true, true, true, true, true, true, true, true, true, false] (i := 18) rfl (by kernel_rfl) (by kernel_rfl) (fun K hK => ?_)
  go_simp
  have s : Stay (fun _ => False) z1 (z1.alloc (.cells #[.pointer (some ⟨x, 0, none⟩), .int .i64 (lv : Int), .slice u2 n2 m2, .pointer none, .bool dr, .slice none 0 0] 92)) := Stay.alloc _ _
  have hjb := heap_alloc_new z1 (.cells #[.pointer (some ⟨x, 0, none⟩), .int .i64 (lv : Int), .slice u2 n2 m2, .pointer none, .bool dr, .slice none 0 0] 92)
  have ho3 := ho2.stay0 s
  have HJG := Lib.hid (fun k hk => (ho2.lt k hk))
  have hjz : (z1.alloc (.cells #[.pointer (some ⟨x, 0, none⟩), .int .i64 (lv : Int), .slice u2 n2 m2, .pointer none, .bool dr, .slice none 0 0] 92)).heap.size = z1.heap.size + 1 := by simp
  obtain ⟨z2, hz2⟩ : ∃ z2, z2 = z1.alloc (.cells #[.pointer (some ⟨x, 0, none⟩), .int .i64 (lv : Int), .slice u2 n2 m2, .pointer none, .bool dr, .slice none 0 0] 92) := ⟨_, rfl⟩
  rw [← hz2] at s hjb hjz ho3 ⊢
  have HO2 := Lib.hid ho3
  clear hz2 ho2 ho3
  obtain ⟨j, hj⟩ : ∃ j, j = z1.heap.size := ⟨_, rfl⟩
  rw [← hj] at hjb hjz ⊢
  have HJJ := Lib.hid hj
  clear hj
  have HS2 := Lib.hid (HS1.out.trans (hst.trans s))
  have HSZ1 := Lib.hid hst.size
  replace hst := hst.trans s
  refine hK _ _ s ?_
  clear hK
  conv => arg 8; simp [Act.put]
  refine wpAnyH_narrow (S' := Stay (fun _ => False) z2) (fun _ h => s.trans h) _ _ _ _ ?_
  clear s
  refine wpAnyH_takeL (i := 19) (v := .pointer (some ⟨j, 0, none⟩)) #[true, true, true, true, true, true, true, true, true, true, true, true, true, true, true, true, true, true, true, true] rfl (by kernel_rfl) (by kernel_rfl) (by kernel_rfl) (fun _ _ _ h => h) (by kernel_rfl) (Stay.refl _ _) (Or.inl ⟨by rfl, fun W hW => ?_⟩) ?_
  · go_simp
  conv => arg 8; simp [Act.put]
  refine wpAnyH_done (by kernel_rfl) ?_ _
  have hsr : Srcs I.g z2 (.slice u2 n2 m2) Q.flatten := by
    have hsub : ∀ q ∈ Q.flatten, q ∈ I.LS.flatten := fun q hq => by
      rw [HQQ.out] at hq
      obtain ⟨l, hl, hq⟩ := List.mem_flatten.1 hq
      exact List.mem_flatten.2 ⟨l, List.mem_of_mem_drop (List.mem_of_mem_take hl), hq⟩
    refine ⟨?_, fun q hq => ?_, fun q hq => ?_⟩
    · have := HO2.out.cs
      rwa [lvs_flat] at this
    · obtain ⟨l, hl, hq⟩ := List.mem_flatten.1 (hsub q hq)
      exact (HI1.out.sh q (HI1.out.sub l hl q hq)).r.stay0 hst
    · obtain ⟨l, hl, hq⟩ := List.mem_flatten.1 (hsub q hq)
      exact HI1.out.ok q (HI1.out.sub l hl q hq)
  have HQF := Lib.hid (show Q.flatten = ((I.LS.drop lv).take 2).flatten by
    rw [HQQ.out]
    have := HBH.out
    have := HN.out
    by_cases h : lv + 2 ≤ n
    · rw [show bh - lv = 2 by omega]
    · rw [List.take_of_length_le (by rw [List.length_drop]; omega), List.take_of_length_le (by rw [List.length_drop]; omega)])
  have HRO := Lib.hid (readerOf_any z2 _ _ hsr (by rw [HQQ.out]; exact Nat.le_trans (sub_flat I.LS lv (bh - lv)) HFT.out) (fun q hq => by
    rw [HQQ.out] at hq
    obtain ⟨l, hl, hq⟩ := List.mem_flatten.1 hq
    exact HSZ.out q (List.mem_flatten.2 ⟨l, List.mem_of_mem_drop (List.mem_of_mem_take hl), hq⟩)))
  have HJB := Lib.hid hjb
  have HJZ := Lib.hid hjz
  have j2 : z2.cell? ⟨j, 2, none⟩ = some (.slice u2 n2 m2) := by rw [cell_of_row z2 j 2 _ _ _ hjb]; rfl
  have hs12 := hst
  clear hsr hjb hjz xb e5 e7 hst HCO
  go_wp2_with fail
  refine HRO.out.mono ?_
  rintro e z3 ⟨r, rfl, hr, hs3⟩
  have HIX := Lib.hid (HI1.out.stay0 (hs12.trans hs3))
  have HRX := Lib.hid hr
  have hjb := (hs3.block j (by have := HJZ.out; omega) (fun x => x)).trans HJB.out
  have HS3 := Lib.hid (HS2.out.trans hs3)
  have HJ3 := Lib.hid hjb
  have HO3 := Lib.hid (HO2.out.stay0 hs3)
  have HM3 := Lib.hid (HM1.out.stay0 HS3.out)
  have hji : x ≠ j := (show Ty z3 x 76 from HIX.out.ty).ne ⟨_, _, hjb⟩ (by decide)
  have b3 : z3.cell? ⟨b, 0, none⟩ = some (.pointer (some ⟨x, 0, none⟩)) := (HX1.out.stay0 (hs12.trans hs3)).c
  have hjf : z3.frozen? ⟨j, 3, none⟩ = false := frozen_of_row z3 j 3 _ _ hjb
  have hxf : z3.frozen? ⟨x, 7, none⟩ = false := HIX.out.fr 7
  have hz7 : (z3.setCell ⟨j, 3, none⟩ (.pointer (some ⟨r, 0, none⟩))).frozen? ⟨x, 7, none⟩ = false := by simpa using hxf
  have hj3 : z3.cell? ⟨j, 3, none⟩ = some (.pointer none) := by rw [cell_of_row z3 j 3 _ _ _ hjb]; rfl
  have hx7 : z3.cell? ⟨x, 7, none⟩ = some (.bool I.mg) := HIX.out.c rfl
  have hbj : b ≠ j := by
    have h1 := HB.out
    have h2 := HJJ.out
    have h3 := HSZ1.out
    have h4 := HS1.out.size
    have h5 : b < w1.heap.size := (Array.getElem?_eq_some_iff.1 HX1.out).1
    omega
  clear hr hs3 hs12 j2 HRO hjb HI1 HS2 HJB HO2
  go_wp2_with fail
  go_ret2
  clear hjf hxf hz7 hbj b3 hj3 hx7
  have hjw : w.heap.size ≤ j := by
    have h2 := HJJ.out
    have h3 := HSZ1.out
    have h4 := HS1.out.size
    omega
  have hsj : Stay (fun k => k = j) z3 (z3.setCell ⟨j, 3, none⟩ (.pointer (some ⟨r, 0, none⟩))) := Stay.setCell _ _ _ rfl
  have hnB : ∀ k, k = j → ¬ B k ∧ ¬ F k := fun k hk => by
    subst hk
    exact ⟨fun h => absurd (HLT.out _ (.inl h)) (by omega), fun h => absurd (HLT.out _ (.inr h)) (by omega)⟩
  have hi4 := (HIX.out.away hsj hnB).setM true
  have hm4 := MAt.keep (HM3.out.stay hsj (fun k hb hk => (hnB k hk).1 hb)) (Stay.setCell (X := fun k => k = x) _ ⟨x, 7, none⟩ (.bool true) rfl) (fun k hk => by
    subst hk
    have ht := (HIX.out.away hsj hnB).ty
    exact ⟨fun h2 => absurd (ht.uniq h2) (by decide), fun h2 => absurd (ht.uniq h2) (by decide)⟩)
  have hsx : Stay (fun k => k = x) (z3.setCell ⟨j, 3, none⟩ (.pointer (some ⟨r, 0, none⟩))) ((z3.setCell ⟨j, 3, none⟩ (.pointer (some ⟨r, 0, none⟩))).setCell ⟨x, 7, none⟩ (.bool true)) := Stay.setCell _ _ _ rfl
  have hjb := heap_setCell_same z3 j 3 _ _ (.pointer (some ⟨r, 0, none⟩)) HJ3.out
  have hjb4 := (hsx.block j (Array.getElem?_eq_some_iff.1 hjb).1 (fun h => hji h.symm)).trans hjb
  have hzz : w.heap.size ≤ z2.heap.size := by have := HJZ.out; omega
  have hBx : x < w.heap.size := HLT.out x (.inl HIX.out.bx)
  refine ⟨j, rfl, ⟨⟨B, F, a, v, vs, HBA.out, HFA.out, fun k hk => Nat.lt_of_lt_of_le (HLT.out k hk) (Nat.le_trans HS3.out.size (Nat.le_trans hsj.size hsx.size)), hi4, hm4⟩, HNR.out, ⟨HCF.out.m1, HCF.out.m2, HCF.out.f1, HCF.out.f2, HCF.out.p1, HCF.out.p2, HCF.out.q1, HCF.out.q2⟩⟩, ⟨.slice u2 n2 m2, .slice none 0 0, r, fun k => z2.heap.size ≤ k ∧ k < z3.heap.size, ?_, ?_, ?_, ?_, ?_, hjw, ?_, ?_, ?_⟩, ?_⟩
  · rw [hjb4]
    have e : dr = decide (I.LS.length ≤ lv + 2) := by
      rw [← HDR.out]
      have := HBH.out
      have := HN.out
      by_cases h : I.LS.length ≤ lv + 2
      · rw [decide_eq_true h, beq_iff_eq]
        omega
      · rw [decide_eq_false h, beq_eq_false_iff_ne]
        omega
    rw [e]
    rfl
  · have h1 := HO3.out
    rw [lvs_flat, HQF.out] at h1
    exact (((h1.stay hsj (fun k hk e => by have := (HJG.out k hk).2; have := HJJ.out; omega)).stay hsx (fun k hk e => by have := (HJG.out k hk).1; have h8 : w1.drew.heap.size = w1.heap.size := rfl; have := HS1.out.size; omega))).zero
  · have h1 := HRX.out
    rw [HQF.out] at h1
    exact ((h1.mono (A' := fun k => z2.heap.size ≤ k ∧ k < z3.heap.size) (fun k hk h => ⟨h, hk⟩)).stay hsj (fun k hk e => by have h2 := hk.1; have := HJZ.out; omega)).stay hsx (fun k hk e => by have h2 := hk.1; omega)
  · exact EnO.nil _ _
  · exact fun k hk => ⟨Nat.le_trans hzz hk.1, Nat.lt_of_lt_of_le hk.2 (Nat.le_trans hsj.size hsx.size)⟩
  · exact fun k hk => Nat.le_trans HS1.out.size (HJG.out k hk).1
  · exact fun k hk => by cases hk
  · exact fun k hk => by
      have h2 := hk.1
      have h3 := HJZ.out
      refine ⟨by omega, fun e => ?_, fun e => by cases e⟩
      have h4 := (HJG.out k e).2
      have h5 := HJJ.out
      omega
  · exact ((HS3.out.mono (fun _ x => x.elim)).andThen hsj (fun k hk e => by omega)).trans (hsx.mono (fun k hk => by subst hk; exact HBA.out _ HIX.out.bx))
  -->R9
end Go.Proofs.YtljlfdhjolcnaaaGreat.Ix
