/-
  table, the document's Build.
-/
import Derived.Test.YteogdihacohkfaaGreatDoorTbS
import Derived.Test.YteogdihacohkfaaGreatDoorTbD
import Derived.Test.YteogdihacohkfaaGreatDoorBoU
namespace Go.Proofs.YteogdihacohkfaaGreatDoor.Tb
open Go.RowKit
open Pk (stay_seal)
open Me (En EnS EnO Box enC enV norm ltB Sorted getL posN hasB sizeL)
open Pk (spellB bytesB boolB Slc Owns)
open Bo (TO RV)
set_option maxRecDepth 100000
set_option linter.unusedVariables false

theorem step_load_run {P : Program} {ops : Array Oper} {Q : Exit → Act → World → Prop} {o : Oper} {a : Act} {w : World} {K : Act → World → Prop} {E : Prop} (hw : Region.wanted o (yielded ops a.tmps) = true) (ty : TypeId) (x : Operand) (ho : o.op = .load ty x) (ad : Addr) (hx : a.eval x = .pointer (some ad)) (v : Value)
    (hl : (loadVar ty ad).run P w = .ok v w) (h : K (a.put o.dst v) w) : if Region.wanted o (yielded ops a.tmps) = true then Oper.wp P o a w K Q else E := by
  rw [if_pos hw]
  unfold Oper.wp execOp
  simp only [ho, hx, Instr.loadAt, Instr.sureAddr, Sem.run_bind, Sem.run_pure, Result.andThen_ok, hl]
  exact h
def RfAt (w : World) (g q : Nat) (v : Value) : Prop := w.heap[g]? = some (.cells #[.int .i64 (q : Int), v] 50 (0, 0))
theorem RfAt.lt {w : World} {g q : Nat} {v : Value} (h : RfAt w g q v) : g < w.heap.size := lt_of_block h
theorem RfAt.stay {X : Nat → Prop} {w w' : World} {g q : Nat} {v : Value} (h : RfAt w g q v) (hs : Stay X w w') (hx : ¬ X g) : RfAt w' g q v := (hs.block g h.lt hx).trans h
theorem RfAt.stay0 {w w' : World} {g q : Nat} {v : Value} (h : RfAt w g q v) (hs : Stay (fun _ => False) w w') : RfAt w' g q v := h.stay hs (fun x => x)
theorem info_rf : (Tryz.prog.info? 50).map (·.size) = some 2 := by kernel_rfl
theorem RfAt.run {w : World} {g q : Nat} {v : Value} (h : RfAt w g q v) : (loadVar 50 ⟨g, 0, none⟩).run Tryz.prog w = .ok (.agg #[.int .i64 (q : Int), v]) w :=
  run_loadVar_mid (P := Tryz.prog) w g 0 50 50 #[.int .i64 (q : Int), v] #[.int .i64 (q : Int), v] (0, 0) _ h Tryz.underlying50 rfl info_rf (fun j hj => by rw [Nat.zero_add])
theorem rf_store {w : World} {g q : Nat} {v : Value} (h : RfAt w g q v) (q' : Nat) (a : Option Addr) (n c : Nat) :
    ∃ w', (storeVar 50 ⟨g, 0, none⟩ (.agg #[.int .i64 (q' : Int), .slice a n c])).run Tryz.prog w = .ok () w' ∧ RfAt w' g q' (.slice a n c) ∧ Stay (fun i => i = g) w w' := by
  have hr := run_storeVar_mid (P := Tryz.prog) w g 0 50 50 [.int .i64 (q : Int), v] [.int .i64 (q' : Int), .slice a n c] h info_rf (Nat.le_refl _) (by intro u hu; simp at hu; rcases hu with rfl | rfl <;> rfl)
  refine ⟨_, hr, ?_, Stay.setRow w g _ rfl⟩
  unfold RfAt
  have e : splice [.int .i64 (q : Int), v] 0 [.int .i64 (q' : Int), .slice a n c] = [.int .i64 (q' : Int), .slice a n c] := rfl
  rw [e]
  simp [World.setRow, Array.getElem?_modify, RfAt] at h ⊢
  exact ⟨_, h, rfl⟩


theorem i64_w (x : Int) (h1 : -9223372036854775808 ≤ x) (h2 : x ≤ 9223372036854775807) : IntKind.i64.wrap x = x := by
  rw [IntKind.wrap_i64]
  omega
theorem u64_w (x : Int) (h1 : 0 ≤ x) (h2 : x ≤ 9223372036854775807) : IntKind.u64.wrap x = x := by
  rw [IntKind.wrap_u64]
  omega
theorem chunk_cut (L : List En) (p k n mm q9 : Nat) (hn : n = L.length) (hm : mm = k * p) (hq : q9 = min n (mm + p)) : (L.drop mm).take (q9 - mm) = chunk L p k := by
  unfold chunk
  rw [← hm]
  by_cases h : mm + p ≤ n
  · rw [show q9 - mm = p by omega]
  · rw [List.take_of_length_le (by rw [List.length_drop]; omega), List.take_of_length_le (by rw [List.length_drop]; omega)]

set_option maxHeartbeats 1200000 in
theorem rbuild_ok (w : World) (x : Value) (L : List En) (p q : Nat) (D : List UInt8) (f : Nat) (hx : EnS w x L) (hs : Sorted L) (hp : 1 ≤ p) (hp2 : p ≤ 1000) (hq : 1 ≤ q) (hq2 : q ≤ 64) (hn : 1 ≤ L.length) (hl : L.length ≤ 1000) (hz : sizeL L ≤ 1000000000)
    (hD : if (tabB L p q).length ≤ 1048576 then D = tabB L p q ∧ f = 0 else D = [] ∧ f = 2) :
    Calls Tryz.prog 9 #[x, .int .i64 (p : Int), .int .i64 (q : Int)] w fun e w' => (∃ v, e = .returned (.tuple #[v, .int .i64 (f : Int)]) ∧ Owns w.heap.size w' v D) ∧ Stay (fun _ => False) w w' := by
  have HX := Lib.hid hx
  obtain ⟨a0, c, rfl⟩ := hx.form
  obtain ⟨g, o, rfl, hgl, _⟩ := hx.at (by omega)
  have hcc : L.length ≤ c := by
    obtain ⟨_, c1, e, h1, _⟩ := hx
    cases e
    exact h1
  have hsd : decide (Sorted L) = true := decide_eq_true hs
  have HRI := Lib.hid (rising_any w _ L hx (by omega))
  rw [hsd] at HRI
  have hqn : q * L.length ≤ 64 * 1000 := Nat.mul_le_mul hq2 hl
  have hs1 : 1 ≤ q * L.length := Nat.mul_pos hq hn
  obtain ⟨s, hss⟩ : ∃ s, s = q * L.length := ⟨_, rfl⟩
  have hwr : wrap64 ((q : Int) * (L.length : Int)) = (s : Int) := by
    rw [show (q : Int) * (L.length : Int) = (s : Int) by rw [hss]; simp]
    exact Bo.wrap_small _ (by omega) (by omega)
  have HFB := Lib.hid (show Bo.addAll 3 (List.replicate s false) (keysL (L.take L.length)) = filtB L q by rw [List.take_length, hss]; rfl)
  have HRL := Lib.hid (show ∀ k, k ≤ cN L.length p → (hdN L p 0 k).length ≤ 2000100000 by
    intro k hk
    have h1 := (len_hdN (L := L) hp k hk).2
    have h2 := size_split L (k * p)
    have h3 : (L.take (k * p)).length ≤ L.length := by rw [List.length_take]; omega
    have h4 := cN_le (n := L.length) hp
    omega)
  have HPL := Lib.hid (show ∀ k, (partB (chunk L p k)).length ≤ 1000020000 by
    intro k
    have h1 := length_partB (chunk L p k)
    have h2 := size_chunk L p k
    have h3 := length_chunk L p k
    omega)
  have HCL0 := Lib.hid (show ∀ k, (chunk L p k).length ≤ 1000000 ∧ sizeL (chunk L p k) ≤ 100000000000000 by
    intro k
    have h2 := size_chunk L p k
    have h3 := length_chunk L p k
    omega)
  have HKL := Lib.hid (show ∀ (i : Nat) (e : En), L[i]? = some e → e.k.length ≤ 1000000000 from fun i e he => by have h := keyAt_le L i; rw [keyAt_of he] at h; omega)
  have HEN := Lib.hid (show (Bo.encB 3 (filtB L q)).length ≤ 1000000 by
    have h := len_encB (B := filtB L q) (by rw [filtB_len]; omega) 3
    rw [filtB_len] at h
    omega)
  rw [← hss] at hqn hs1
  obtain ⟨T, hT⟩ : ∃ T, T = tabB L p q := ⟨_, rfl⟩
  rw [← hT] at hD
  have HTT := Lib.hid hT
  have HDD := Lib.hid hD
  obtain ⟨n, hnn⟩ : ∃ n, n = L.length := ⟨_, rfl⟩
  have HN := Lib.hid hnn
  have hcl := cN_le (n := L.length) hp
  have hcp := cN_pos hp hn
  have hcn : ((L.length : Int) + p - 1) / p = (cN L.length p : Int) := by
    unfold cN
    have : ((L.length : Int) + p - 1) = ((L.length + p - 1 : Nat) : Int) := by omega
    rw [this, Int.natCast_ediv]
  obtain ⟨m, hm⟩ : ∃ m, m = cN L.length p := ⟨_, rfl⟩
  have HM := Lib.hid hm
  rw [← hm] at hcl hcp hcn
  rw [← hnn] at hwr hcc hcn hcl hn hl ⊢
  have HWR := Lib.hid hwr
  have HPP := Lib.hid hp
  have HFL := Lib.hid (filtB_len L q)
  have h1 : (1 : Int) ≤ p := by omega
  have h2 : (p : Int) ≤ 1000 := by omega
  have h3 : (1 : Int) ≤ q := by omega
  have h4 : (q : Int) ≤ 64 := by omega
  have h5 : (n : Int) ≤ 1000 := by omega
  have h6 : (1 : Int) ≤ n := by omega
  have hc1 : (n : Int) ≤ c := by omega
  have hcm := HX.out.form
  have hd0 : decide ((n : Int) < 1) = false := decide_eq_false (by omega)
  have hd1 : decide ((p : Int) < 1) = false := decide_eq_false (by omega)
  have hd2 : decide ((1000 : Int) < p) = false := decide_eq_false (by omega)
  have hd3 : decide ((q : Int) < 1) = false := decide_eq_false (by omega)
  have hd4 : decide ((64 : Int) < q) = false := decide_eq_false (by omega)
  have hd5 : decide ((16384 : Int) < n) = false := decide_eq_false (by omega)
  rw [← hnn] at HRI
  have HU1 := Lib.hid (u64_w (n : Int) (by omega) (by omega))
  have HU2 := Lib.hid (u64_w (m : Int) (by omega) (by omega))
  have HI1 := Lib.hid (i64_w ((n : Int) + p) (by omega) (by omega))
  have HI2 := Lib.hid (i64_w ((n : Int) + p - 1) (by omega) (by omega))
  have HI3 := Lib.hid (show IntKind.i64.wrap (((n : Int) + p - 1).tdiv p) = (m : Int) by rw [Int.tdiv_eq_ediv_of_nonneg (by omega), hcn]; exact i64_w _ (by omega) (by omega))
  have HP0 := Lib.hid (show ¬ p = 0 by omega)
  obtain ⟨n1, hn1⟩ : ∃ n1, n1 = n - 1 := ⟨_, rfl⟩
  have HI5 := Lib.hid (show IntKind.i64.wrap ((n : Int) - 1) = (n1 : Int) by rw [show (n : Int) - 1 = (n1 : Int) by omega]; exact i64_w _ (by omega) (by omega))
  have HN1 := Lib.hid hn1
  have HNL := Lib.hid (show ¬ n ≤ n1 by omega)
  clear hn1
  clear hx hs hsd hT hD hz hp hp2 hq hq2 hwr hnn hm hss hcm
  go_enter Tryz.func9, Tryz.ntmps9
  go_wp2_with fail
  refine HRI.out.mono ?_
  rintro e w1 ⟨rfl, hs1'⟩
  have HS1 := Lib.hid hs1'
  clear hs1' HRI
  go_wp2_with fail
  rw [HWR.out]
  refine (Bo.rnew_any s 3 w1 hs1 (by omega) (by decide) (by decide)).mono ?_
  rintro e w2 ⟨u, rfl, hto, hst2⟩
  obtain ⟨ua, uc, rfl⟩ := hto.form
  rw [List.length_replicate]
  rw [List.length_replicate] at hto
  unfold RV
  obtain ⟨gr, hgr⟩ : ∃ gr, gr = w2.heap.size := ⟨_, rfl⟩
  obtain ⟨w3, hw3⟩ : ∃ w3, w3 = w2.alloc (.cells #[.int .i64 3, .slice ua s uc] 50) := ⟨_, rfl⟩
  have hst3 : Stay (fun _ => False) w2 w3 := hw3 ▸ Stay.alloc _ _
  have HS3 := Lib.hid (HS1.out.trans (hst2.trans hst3))
  have HW3 := Lib.hid hw3
  have HGR0 := Lib.hid hgr
  have HGR := Lib.hid (show w.heap.size ≤ gr by have h1 := HS1.out.size; have h2 := hst2.size; omega)
  have HGG := Lib.hid (show g < gr by have h1 := HGR.out; omega)
  have HRF3 := Lib.hid (show RfAt w3 gr 3 (.slice ua s uc) by rw [hw3, hgr]; exact heap_alloc_new w2 _)
  have HTO3 := Lib.hid ((hto.stay0 hst3).base' (base' := 0) (fun _ _ => Nat.zero_le _))
  have HUN := Lib.hid (show ∀ k, (Value.slice ua s uc).ownBlock = some k → k ≠ gr from fun k hk => by have := hto.lt k hk; omega)
  clear hto hst2 hst3 hw3 hgr HS1
  go_wp2
  rw [← HW3.out, ← HGR0.out]

  go_loopw [10] (fun i wr => ∃ (j : Nat) (va : Option Addr) (vc : Nat), j ≤ n ∧ i = .int .i64 (j : Int) ∧ Hid (RfAt wr gr 3 (.slice va s vc)) ∧ Hid (TO 0 wr (.slice va s vc) (Bo.addAll 3 (List.replicate s false) (keysL (L.take j)))) ∧ Hid (∀ k, (Value.slice va s vc).ownBlock = some k → k ≠ gr) ∧ Stay (fun _ => False) w wr) (fun i _ => n - (intOf i).toNat)
  case atStart => exact ⟨0, ua, uc, Nat.zero_le _, rfl, HRF3, HTO3, HUN, HS3.out⟩
  case round =>
    obtain ⟨j, va, vc, hj, rfl, HRF, HTO, HNE, hst⟩ := hrel
    have HT := Lib.hid hst
    clear hst
    obtain ⟨B, hB⟩ : ∃ B, B = Bo.addAll 3 (List.replicate s false) (keysL (L.take j)) := ⟨_, rfl⟩
    have HBE := Lib.hid hB
    have HBL := Lib.hid (show B.length = s by rw [hB, Bo.addAll_len, List.length_replicate])
    have HLO := Lib.hid (show 1 ≤ B.length by rw [HBL.out]; exact hs1)
    have HHI := Lib.hid (show B.length ≤ 1048576 by rw [HBL.out]; omega)
    rw [← hB] at HTO
    clear hB
    by_cases hlt : j < n
    · obtain ⟨e, he⟩ : ∃ e, L[j]? = some e := ⟨_, List.getElem?_eq_getElem (by rw [← HN.out]; omega)⟩
      obtain ⟨g', o', heq, _, hc⟩ := (HX.out.stay0 HT.out).at (by rw [← HN.out]; omega)
      cases heq
      obtain ⟨c0, c1, c2⟩ := hc _ e he
      have HC0 := Lib.hid c0
      have HK := Lib.hid (show Bo.addAll 3 (List.replicate s false) (keysL (L.take (j + 1))) = Bo.addB B (Bo.bitsN B.length 3 e.k) by rw [keysL_succ he, Bo.addAll_snoc, ← HBE.out]; rfl)
      have HFE := Lib.hid (show e.k.length + 1 ≤ 140737488355328 by have := HKL.out j e he; omega)
      have hjn : (j : Int) < n := by omega
      clear he hc c0 c1 c2
      go_wp2
      refine wp_region_held (S := Stay (fun i => i = gr) wr) (by kernel_rfl) ?_
      change wpAnyH _ _ _ _ _ _ _ _ (World.drew _)
      have HS0 := Lib.hid (show Stay (fun i => i = gr) wr wr.drew from Stay.drew)
      refine wpAnyH_takeL (i := 1) (v := .slice (some ⟨g, o, none⟩) n c) #[false, true, false, false, false, false, false, false] rfl (by kernel_rfl) (by kernel_rfl) (by kernel_rfl) (fun _ _ _ h => h) (by kernel_rfl) HS0.out (Or.inl ⟨by rfl, fun W hW => ?_⟩) ?_
      · go_simp
      conv => arg 8; simp [Act.put]
      refine wpAnyH_takeL (i := 2) (v := .int .i64 (j : Int)) #[false, true, true, false, false, false, false, false] rfl (by kernel_rfl) (by kernel_rfl) (by kernel_rfl) (fun _ _ _ h => h) (by kernel_rfl) HS0.out (Or.inl ⟨by rfl, fun W hW => ?_⟩) ?_
      · go_simp
      conv => arg 8; simp [Act.put]
      refine wpAnyH_takeL (i := 3) (v := .pointer (some ⟨g, o + j * 3, none⟩)) #[false, true, true, true, false, false, false, false] rfl (by kernel_rfl) (by kernel_rfl) (by kernel_rfl) (fun _ _ _ h => h) (by kernel_rfl) HS0.out (Or.inl ⟨by rfl, fun W hW => ?_⟩) ?_
      · go_simp
      conv => arg 8; simp [Act.put]
      refine wpAnyH_takeL (i := 4) (v := .pointer (some ⟨g, o + j * 3, none⟩)) #[false, true, true, true, true, false, false, false] rfl (by kernel_rfl) (by kernel_rfl) (by kernel_rfl) (fun _ _ _ h => h) (by kernel_rfl) HS0.out (Or.inl ⟨by rfl, fun W hW => ?_⟩) ?_
      · go_simp
      conv => arg 8; simp [Act.put]
      refine wpAnyH_takeL (i := 5) (v := Me.strV e.k) #[false, true, true, true, true, true, false, false] rfl (by kernel_rfl) (by kernel_rfl) (by kernel_rfl) (fun _ _ _ h => h) (by kernel_rfl) HS0.out (Or.inl ⟨by rfl, fun W hW => ?_⟩) ?_
      · have kc := hW.cell HC0.out (fun (e : g = gr) => by have := HGG.out; omega)
        go_simp
      conv => arg 8; simp [Act.put]
      refine wpAnyH_one #[true, true, true, true, true, true, false, false] (i := 0) rfl (by kernel_rfl) (by kernel_rfl) (fun K hK => ?_)
      refine step_load_run rfl 50 (.tmp 8) rfl ⟨gr, 0, none⟩ rfl _ (HRF.out.stay0 (Stay.drew (w := wr))).run ?_
      refine hK _ _ HS0.out ?_
      clear hK
      conv => arg 8; simp [Act.put]
      refine wpAnyH_one #[true, true, true, true, true, true, true, false] (i := 6) rfl (by kernel_rfl) (by kernel_rfl) (fun K hK => ?_)
      go_simp
      go_wp2_with (go_at_call 29; refine (Bo.radd_any wr.drew 3 _ B e.k _ (HTO.out.stay0 Stay.drew) HLO.out HHI.out (by decide) HFE.out).mono ?_; rintro e2 wu ⟨u2, rfl, ho2, hs2⟩; have hfo := ho2.form; rw [Bo.addB_len, HBL.out] at hfo; obtain ⟨na, nc, rfl⟩ := hfo)
      have hs2x : Stay (fun _ => False) wr wu := (Stay.drew (X := fun _ => False) (w := wr)).trans hs2
      have HTOU := Lib.hid ho2
      have HSU := Lib.hid hs2x
      have HRU := Lib.hid (HRF.out.stay0 hs2x)
      have HZU := Lib.hid (show wr.heap.size ≤ wr.drew.heap.size from (Stay.drew (X := fun _ => False) (w := wr)).size)
      clear ho2 hs2 hs2x
      refine hK _ _ (HSU.out.mono (fun _ x => x.elim)) ?_
      clear hK
      unfold RV
      conv => arg 8; simp [Act.put]
      obtain ⟨wv, hrun, hrv, hsv⟩ := rf_store HRU.out 3 na s nc
      refine wpAnyH_one #[true, true, true, true, true, true, true, true] (i := 7) rfl (by kernel_rfl) (by kernel_rfl) (fun K hK => ?_)
      refine step_store_run rfl 50 (.tmp 8) (.tmp 58) rfl ⟨gr, 0, none⟩ rfl _ rfl wv hrun ?_
      refine hK _ _ ((HSU.out.mono (fun _ x => x.elim)).trans hsv) ?_
      clear hK
      conv => arg 8; simp [Act.put]
      have HRV := Lib.hid hrv
      have HNB := Lib.hid (show ∀ k2, (Value.slice na s nc).ownBlock = some k2 → k2 ≠ gr from fun k2 hk2 => by have h1 := (HTOU.out.lt k2 hk2).1; have h2 := HZU.out; have h3 := HRF.out.lt; omega)
      have HTV := Lib.hid (HTOU.out.stay hsv (fun k2 hk2 e => HNB.out k2 hk2 e))
      have HWV := Lib.hid (stay_seal (X := fun k => w.heap.size ≤ k) ((HT.out.mono (fun _ x => x.elim)).trans ((HSU.out.mono (fun _ x => x.elim)).trans (hsv.mono (fun i (e : i = gr) => by have := HGR.out; show w.heap.size ≤ i; omega)))) (fun k hk => hk))
      clear hrun hrv hsv HTOU HSU HRU HS0 HZU
      refine wpAnyH_done (by kernel_rfl) ?_ _
      go_wp2
      go_roundw
      case rel => exact ⟨j + 1, na, nc, hlt, by go_num, HRV, by rw [HK.out]; exact Lib.hid (HTV.out.base' (fun _ _ => Nat.zero_le _)), HNB, HWV.out⟩
      case measure => simp [intOf]; omega
    · obtain rfl : n = j := by omega
      have hbf := HBE.out
      rw [HN.out, HFB.out] at hbf
      have HBF := Lib.hid hbf
      have HRFL := Lib.hid HRF.out
      clear hbf hlt
      go_wp2
      refine wp_region_held (S := Stay (fun _ => False) wr.drew) (by kernel_rfl) ?_
      change wpAnyH _ _ _ _ _ _ _ _ (World.drew _)
      have hst : Stay (fun _ => False) wr wr.drew := Stay.drew
      refine wpAnyH_takeL (i := 0) (v := .slice (some ⟨g, o, none⟩) n c) #[true, false, false, false, false, false, false, false, false, false, false, false, false, false] rfl (by kernel_rfl) (by kernel_rfl) (by kernel_rfl) (fun _ _ _ h => h) (by kernel_rfl) (Stay.refl _ _) (Or.inl ⟨by rfl, fun W hW => ?_⟩) ?_
      · go_simp
      conv => arg 8; simp [Act.put]
      refine wpAnyH_takeL (i := 1) (v := .int .i64 (n : Int)) #[true, true, false, false, false, false, false, false, false, false, false, false, false, false] rfl (by kernel_rfl) (by kernel_rfl) (by kernel_rfl) (fun _ _ _ h => h) (by kernel_rfl) (Stay.refl _ _) (Or.inl ⟨by rfl, fun W hW => ?_⟩) ?_
      · go_simp
      conv => arg 8; simp [Act.put]
      refine wpAnyH_takeL (i := 2) (v := .int .u64 (n : Int)) #[true, true, true, false, false, false, false, false, false, false, false, false, false, false] rfl (by kernel_rfl) (by kernel_rfl) (by kernel_rfl) (fun _ _ _ h => h) (by kernel_rfl) (Stay.refl _ _) (Or.inl ⟨by rfl, fun W hW => ?_⟩) ?_
      · have h9 := HU1.out
        go_simp
      conv => arg 8; simp [Act.put]
      refine wpAnyH_takeL (i := 4) (v := .slice (some ⟨g, o, none⟩) n c) #[true, true, true, false, true, false, false, false, false, false, false, false, false, false] rfl (by kernel_rfl) (by kernel_rfl) (by kernel_rfl) (fun _ _ _ h => h) (by kernel_rfl) (Stay.refl _ _) (Or.inl ⟨by rfl, fun W hW => ?_⟩) ?_
      · go_simp
      conv => arg 8; simp [Act.put]
      refine wpAnyH_takeL (i := 5) (v := .int .i64 (n : Int)) #[true, true, true, false, true, true, false, false, false, false, false, false, false, false] rfl (by kernel_rfl) (by kernel_rfl) (by kernel_rfl) (fun _ _ _ h => h) (by kernel_rfl) (Stay.refl _ _) (Or.inl ⟨by rfl, fun W hW => ?_⟩) ?_
      · go_simp
      conv => arg 8; simp [Act.put]
      refine wpAnyH_takeL (i := 6) (v := .int .i64 (p : Int)) #[true, true, true, false, true, true, true, false, false, false, false, false, false, false] rfl (by kernel_rfl) (by kernel_rfl) (by kernel_rfl) (fun _ _ _ h => h) (by kernel_rfl) (Stay.refl _ _) (Or.inl ⟨by rfl, fun W hW => ?_⟩) ?_
      · go_simp
      conv => arg 8; simp [Act.put]
      refine wpAnyH_takeL (i := 7) (v := .int .i64 (n + p : Int)) #[true, true, true, false, true, true, true, true, false, false, false, false, false, false] rfl (by kernel_rfl) (by kernel_rfl) (by kernel_rfl) (fun _ _ _ h => h) (by kernel_rfl) (Stay.refl _ _) (Or.inl ⟨by rfl, fun W hW => ?_⟩) ?_
      · have h9 := HI1.out
        go_simp
      conv => arg 8; simp [Act.put]
      refine wpAnyH_takeL (i := 8) (v := .int .i64 (n + p - 1 : Int)) #[true, true, true, false, true, true, true, true, true, false, false, false, false, false] rfl (by kernel_rfl) (by kernel_rfl) (by kernel_rfl) (fun _ _ _ h => h) (by kernel_rfl) (Stay.refl _ _) (Or.inl ⟨by rfl, fun W hW => ?_⟩) ?_
      · have h9 := HI2.out
        go_simp
      conv => arg 8; simp [Act.put]
      refine wpAnyH_takeL (i := 9) (v := .int .i64 (p : Int)) #[true, true, true, false, true, true, true, true, true, true, false, false, false, false] rfl (by kernel_rfl) (by kernel_rfl) (by kernel_rfl) (fun _ _ _ h => h) (by kernel_rfl) (Stay.refl _ _) (Or.inl ⟨by rfl, fun W hW => ?_⟩) ?_
      · go_simp
      conv => arg 8; simp [Act.put]
      refine wpAnyH_takeL (i := 10) (v := .int .i64 (m : Int)) #[true, true, true, false, true, true, true, true, true, true, true, false, false, false] rfl (by kernel_rfl) (by kernel_rfl) (by kernel_rfl) (fun _ _ _ h => h) (by kernel_rfl) (Stay.refl _ _) (Or.inl ⟨by rfl, fun W hW => ?_⟩) ?_
      · have h8 := HP0.out
        have h9 := HI3.out
        go_simp
      conv => arg 8; simp [Act.put]
      refine wpAnyH_takeL (i := 11) (v := .int .u64 (m : Int)) #[true, true, true, false, true, true, true, true, true, true, true, true, false, false] rfl (by kernel_rfl) (by kernel_rfl) (by kernel_rfl) (fun _ _ _ h => h) (by kernel_rfl) (Stay.refl _ _) (Or.inl ⟨by rfl, fun W hW => ?_⟩) ?_
      · have h9 := HU2.out
        go_simp
      conv => arg 8; simp [Act.put]
      refine wpAnyH_one #[true, true, true, true, true, true, true, true, true, true, true, true, false, false] (i := 3) rfl (by kernel_rfl) (by kernel_rfl) (fun K hK => ?_)
      go_simp
      go_wp2_with (go_at_call 30; refine (Pk.refuint_at wr.drew _ [] n _ rfl (Owns.nil 0 wr.drew).slc (by omega) (by simp)).mono ?_; rintro e z1 ⟨v3, rfl, ho3, s⟩; have H3 := Lib.hid ho3.slc; clear ho3)
      replace hst := hst.trans s
      refine hK _ _ s ?_
      clear hK
      conv => arg 8; simp [Act.put]
      refine wpAnyH_narrow (S' := Stay (fun _ => False) z1) (fun _ h => s.trans h) _ _ _ _ ?_
      clear s
      refine wpAnyH_one #[true, true, true, true, true, true, true, true, true, true, true, true, true, false] (i := 12) rfl (by kernel_rfl) (by kernel_rfl) (fun K hK => ?_)
      go_simp
      go_wp2_with (go_at_call 30; refine (Pk.refuint_at z1 v3 ([] ++ spellB n) m _ rfl H3.out (by omega) (by have := (len_spellB n).2; rw [List.nil_append]; omega)).mono ?_; rintro e z2 ⟨v12, rfl, ho12, s⟩; have H12 := Lib.hid ho12.slc; obtain ⟨a12, l12, c12, rfl⟩ : ∃ a l c, v12 = .slice a l c := (by obtain ⟨a, c, e⟩ := ho12.form; exact ⟨a, _, c, e⟩); clear ho12)
      replace hst := hst.trans s
      refine hK _ _ s ?_
      clear hK
      conv => arg 8; simp [Act.put]
      refine wpAnyH_narrow (S' := Stay (fun _ => False) z2) (fun _ h => s.trans h) _ _ _ _ ?_
      clear s
      refine wpAnyH_takeL (i := 13) (v := .slice a12 l12 c12) #[true, true, true, true, true, true, true, true, true, true, true, true, true, true] rfl (by kernel_rfl) (by kernel_rfl) (by kernel_rfl) (fun _ _ _ h => h) (by kernel_rfl) (Stay.refl _ _) (Or.inl ⟨by rfl, fun W hW => ?_⟩) ?_
      · go_simp
      conv => arg 8; simp [Act.put]
      refine wpAnyH_done (by kernel_rfl) ?_ _
      have HSF := Lib.hid (HT.out.trans hst)
      have HRFF := Lib.hid (HRF.out.stay0 hst)
      have HTOF := Lib.hid (HTO.out.stay0 hst)
      have HXF := Lib.hid (HX.out.stay0 HSF.out)
      rw [List.nil_append] at H12
      obtain ⟨T0, hT0⟩ : ∃ T0, T0 = spellB n ++ spellB m := ⟨_, rfl⟩
      have HT0 := Lib.hid hT0
      have HTL0 := Lib.hid (show T0.length ≤ 18 by rw [hT0, List.length_append]; have := (len_spellB n).2; have := (len_spellB m).2; omega)
      rw [← hT0] at H12
      clear hst hT0 H3 HRF HTO HT
      go_wp2
      go_loopw [11, 12] (fun v i wr => ∃ k : Nat, k ≤ m ∧ i = .int .i64 ((k * p : Nat) : Int) ∧ Hid (Slc wr v (T0 ++ hdN L p 0 k)) ∧ Stay (fun _ => False) z2 wr) (fun _ i _ => n + p - (intOf i).toNat)
      case atStart => exact ⟨0, Nat.zero_le _, by rw [Nat.zero_mul]; rfl, by rw [show hdN L p 0 0 = [] from rfl, List.append_nil]; exact H12, Stay.refl _ _⟩
      case round =>
        obtain ⟨k, hk, rfl, hv, hst⟩ := hrel
        have HT := Lib.hid hst
        clear hst
        obtain ⟨R, hR⟩ : ∃ R, R = T0 ++ hdN L p 0 k := ⟨_, rfl⟩
        have HRE := Lib.hid hR
        have hv2 := hv.out
        rw [← hR] at hv2
        have HSV := Lib.hid hv2
        obtain ⟨va, cv, rfl, _⟩ := hv2
        have HRLL := Lib.hid (show R.length ≤ 2000100018 by rw [hR, List.length_append]; have h1 := HRL.out k (by rw [← HM.out]; exact hk); have h2 := HTL0.out; omega)
        have hlm := cN_lt (n := L.length) (p := p) (i := k) HPP.out
        rw [← HM.out, ← HN.out] at hlm
        obtain ⟨mm, hmm⟩ : ∃ mm, mm = k * p := ⟨_, rfl⟩
        rw [← hmm] at hlm ⊢
        have HMM := Lib.hid hmm
        have HLM := Lib.hid hlm
        clear hv hR hlm hmm
        by_cases hlt : mm < n
        · have HKM := Lib.hid (HLM.out.2 hlt)
          obtain ⟨e, he⟩ : ∃ e, L[mm]? = some e := ⟨_, List.getElem?_eq_getElem (by rw [← HN.out]; omega)⟩
          have HXR := Lib.hid (HXF.out.stay0 HT.out)
          obtain ⟨g', o', heq, _, hc⟩ := HXR.out.at (by rw [← HN.out]; omega)
          cases heq
          obtain ⟨c0, c1, c2⟩ := hc _ e he
          have HC0 := Lib.hid c0
          obtain ⟨q9, hq9⟩ : ∃ q9, q9 = min n (mm + p) := ⟨_, rfl⟩
          have HQ8 := Lib.hid (show min (n : Int) ((mm : Int) + p) = (q9 : Int) by omega)
          have HI4 := Lib.hid (i64_w ((mm : Int) + p) (by omega) (by omega))
          have hqa : mm ≤ q9 := by have := HPP.out; omega
          have hqb : q9 ≤ c := by omega
          have HQN := Lib.hid (show ¬ c = mm by omega)
          have HQA := Lib.hid (And.intro hqa (And.intro hqb (show mm < c by omega)))
          have hqc : mm < c := by omega
          obtain ⟨C, hC⟩ : ∃ C, C = chunk L p k := ⟨_, rfl⟩
          have HSC := Lib.hid (show EnS wr (.slice (some ⟨g, o + mm * 3, none⟩) (q9 - mm) (c - mm)) C by
            have h := (HXR.out.cut (i := mm) (by rw [← HN.out]; omega)).first (i := q9 - mm) (by rw [List.length_drop, ← HN.out]; omega)
            rw [if_neg (by omega), chunk_cut L p k n mm q9 HN.out HMM.out hq9, ← hC] at h
            have e : Addr.add ⟨g, o, none⟩ (mm * 3) = ⟨g, o + mm * 3, none⟩ := by
              unfold Addr.add
              split
              · next h => rw [h]; rfl
              · rfl
            rw [Option.map_some, e] at h
            exact h)
          have HCL := Lib.hid (show C.length ≤ 1000000 by rw [hC]; exact (HCL0.out k).1)
          have HCZ := Lib.hid (show sizeL C ≤ 100000000000000 by rw [hC]; exact (HCL0.out k).2)
          have HEL := Lib.hid (show R.length + 9 + e.k.length + 9 + (partB C).length ≤ 120000000000000 by
            have h1 := HRLL.out
            have h2 := HKL.out mm e he
            have h3 := HPL.out k
            rw [← hC] at h3
            omega)
          have HK := Lib.hid (show T0 ++ hdN L p 0 (k + 1) = R ++ bytesB e.k ++ bytesB (partB C) by rw [hdN_succ, HRE.out, headB, Nat.zero_add, ← HMM.out, keyAt_of he, ← hC]; simp only [List.append_assoc])
          have hjn : (mm : Int) < n := by omega
          have hjp : (mm : Int) + p ≤ 1000000 := by omega
          clear he hc c0 c1 c2 hC hq9
          go_wp2
          refine wp_region_held (S := Stay (fun _ => False) wr.drew) (by kernel_rfl) ?_
          change wpAnyH _ _ _ _ _ _ _ _ (World.drew _)
          have hst : Stay (fun _ => False) wr wr.drew := Stay.drew
          refine wpAnyH_takeL (i := 0) (v := .slice va R.length cv) #[true, false, false, false, false, false, false, false, false, false, false, false, false, false, false, false, false, false, false] rfl (by kernel_rfl) (by kernel_rfl) (by kernel_rfl) (fun _ _ _ h => h) (by kernel_rfl) (Stay.refl _ _) (Or.inl ⟨by rfl, fun W hW => ?_⟩) ?_
          · go_simp
          conv => arg 8; simp [Act.put]
          refine wpAnyH_takeL (i := 1) (v := .slice (some ⟨g, o, none⟩) n c) #[true, true, false, false, false, false, false, false, false, false, false, false, false, false, false, false, false, false, false] rfl (by kernel_rfl) (by kernel_rfl) (by kernel_rfl) (fun _ _ _ h => h) (by kernel_rfl) (Stay.refl _ _) (Or.inl ⟨by rfl, fun W hW => ?_⟩) ?_
          · go_simp
          conv => arg 8; simp [Act.put]
          refine wpAnyH_takeL (i := 2) (v := .int .i64 (mm : Int)) #[true, true, true, false, false, false, false, false, false, false, false, false, false, false, false, false, false, false, false] rfl (by kernel_rfl) (by kernel_rfl) (by kernel_rfl) (fun _ _ _ h => h) (by kernel_rfl) (Stay.refl _ _) (Or.inl ⟨by rfl, fun W hW => ?_⟩) ?_
          · go_simp
          conv => arg 8; simp [Act.put]
          refine wpAnyH_takeL (i := 3) (v := .pointer (some ⟨g, o + mm * 3, none⟩)) #[true, true, true, true, false, false, false, false, false, false, false, false, false, false, false, false, false, false, false] rfl (by kernel_rfl) (by kernel_rfl) (by kernel_rfl) (fun _ _ _ h => h) (by kernel_rfl) (Stay.refl _ _) (Or.inl ⟨by rfl, fun W hW => ?_⟩) ?_
          · go_simp
          conv => arg 8; simp [Act.put]
          refine wpAnyH_takeL (i := 4) (v := .pointer (some ⟨g, o + mm * 3, none⟩)) #[true, true, true, true, true, false, false, false, false, false, false, false, false, false, false, false, false, false, false] rfl (by kernel_rfl) (by kernel_rfl) (by kernel_rfl) (fun _ _ _ h => h) (by kernel_rfl) (Stay.refl _ _) (Or.inl ⟨by rfl, fun W hW => ?_⟩) ?_
          · go_simp
          conv => arg 8; simp [Act.put]
          refine wpAnyH_takeL (i := 5) (v := Me.strV e.k) #[true, true, true, true, true, true, false, false, false, false, false, false, false, false, false, false, false, false, false] rfl (by kernel_rfl) (by kernel_rfl) (by kernel_rfl) (fun _ _ _ h => h) (by kernel_rfl) (Stay.refl _ _) (Or.inl ⟨by rfl, fun W hW => ?_⟩) ?_
          · have kc := (hst.trans hW).cell HC0.out (fun x => x)
            go_simp
          conv => arg 8; simp [Act.put]
          refine wpAnyH_takeL (i := 7) (v := .slice (some ⟨g, o, none⟩) n c) #[true, true, true, true, true, true, false, true, false, false, false, false, false, false, false, false, false, false, false] rfl (by kernel_rfl) (by kernel_rfl) (by kernel_rfl) (fun _ _ _ h => h) (by kernel_rfl) (Stay.refl _ _) (Or.inl ⟨by rfl, fun W hW => ?_⟩) ?_
          · go_simp
          conv => arg 8; simp [Act.put]
          refine wpAnyH_takeL (i := 8) (v := .int .i64 (mm : Int)) #[true, true, true, true, true, true, false, true, true, false, false, false, false, false, false, false, false, false, false] rfl (by kernel_rfl) (by kernel_rfl) (by kernel_rfl) (fun _ _ _ h => h) (by kernel_rfl) (Stay.refl _ _) (Or.inl ⟨by rfl, fun W hW => ?_⟩) ?_
          · go_simp
          conv => arg 8; simp [Act.put]
          refine wpAnyH_takeL (i := 9) (v := .slice (some ⟨g, o, none⟩) n c) #[true, true, true, true, true, true, false, true, true, true, false, false, false, false, false, false, false, false, false] rfl (by kernel_rfl) (by kernel_rfl) (by kernel_rfl) (fun _ _ _ h => h) (by kernel_rfl) (Stay.refl _ _) (Or.inl ⟨by rfl, fun W hW => ?_⟩) ?_
          · go_simp
          conv => arg 8; simp [Act.put]
          refine wpAnyH_takeL (i := 10) (v := .int .i64 (n : Int)) #[true, true, true, true, true, true, false, true, true, true, true, false, false, false, false, false, false, false, false] rfl (by kernel_rfl) (by kernel_rfl) (by kernel_rfl) (fun _ _ _ h => h) (by kernel_rfl) (Stay.refl _ _) (Or.inl ⟨by rfl, fun W hW => ?_⟩) ?_
          · go_simp
          conv => arg 8; simp [Act.put]
          refine wpAnyH_takeL (i := 11) (v := .int .i64 (mm : Int)) #[true, true, true, true, true, true, false, true, true, true, true, true, false, false, false, false, false, false, false] rfl (by kernel_rfl) (by kernel_rfl) (by kernel_rfl) (fun _ _ _ h => h) (by kernel_rfl) (Stay.refl _ _) (Or.inl ⟨by rfl, fun W hW => ?_⟩) ?_
          · go_simp
          conv => arg 8; simp [Act.put]
          refine wpAnyH_takeL (i := 12) (v := .int .i64 (p : Int)) #[true, true, true, true, true, true, false, true, true, true, true, true, true, false, false, false, false, false, false] rfl (by kernel_rfl) (by kernel_rfl) (by kernel_rfl) (fun _ _ _ h => h) (by kernel_rfl) (Stay.refl _ _) (Or.inl ⟨by rfl, fun W hW => ?_⟩) ?_
          · go_simp
          conv => arg 8; simp [Act.put]
          refine wpAnyH_takeL (i := 13) (v := .int .i64 (mm + p : Int)) #[true, true, true, true, true, true, false, true, true, true, true, true, true, true, false, false, false, false, false] rfl (by kernel_rfl) (by kernel_rfl) (by kernel_rfl) (fun _ _ _ h => h) (by kernel_rfl) (Stay.refl _ _) (Or.inl ⟨by rfl, fun W hW => ?_⟩) ?_
          · have h9 := HI4.out
            go_simp
          conv => arg 8; simp [Act.put]
          refine wpAnyH_takeL (i := 14) (v := .int .i64 (q9 : Int)) #[true, true, true, true, true, true, false, true, true, true, true, true, true, true, true, false, false, false, false] rfl (by kernel_rfl) (by kernel_rfl) (by kernel_rfl) (fun _ _ _ h => h) (by kernel_rfl) (Stay.refl _ _) (Or.inl ⟨by rfl, fun W hW => ?_⟩) ?_
          · have h9 := HQ8.out
            go_simp
          conv => arg 8; simp [Act.put]
          refine wpAnyH_takeL (i := 15) (v := .slice (some ⟨g, o + mm * 3, none⟩) (q9 - mm) (c - mm)) #[true, true, true, true, true, true, false, true, true, true, true, true, true, true, true, true, false, false, false] rfl (by kernel_rfl) (by kernel_rfl) (by kernel_rfl) (fun _ _ _ h => h) (by kernel_rfl) (Stay.refl _ _) (Or.inl ⟨by rfl, fun W hW => ?_⟩) ?_
          · have h9 := HQA.out
            have h8 := HQN.out
            go_simp
          conv => arg 8; simp [Act.put]
          refine wpAnyH_one #[true, true, true, true, true, true, true, true, true, true, true, true, true, true, true, true, false, false, false] (i := 6) rfl (by kernel_rfl) (by kernel_rfl) (fun K hK => ?_)
          go_simp
          go_wp2_with (go_at_call 32; refine (Pk.reftext_any wr.drew _ R e.k (HSV.out.stay0 hst) (by have := HEL.out; omega)).mono ?_; rintro e z1 ⟨v6, rfl, ho6, s⟩; have H6 := Lib.hid ho6.slc; clear ho6)
          replace hst := hst.trans s
          refine hK _ _ s ?_
          clear hK
          conv => arg 8; simp [Act.put]
          refine wpAnyH_narrow (S' := Stay (fun _ => False) z1) (fun _ h => s.trans h) _ _ _ _ ?_
          clear s
          refine wpAnyH_one #[true, true, true, true, true, true, true, true, true, true, true, true, true, true, true, true, true, false, false] (i := 16) rfl (by kernel_rfl) (by kernel_rfl) (fun K hK => ?_)
          go_simp
          go_wp2_with (go_at_call 33; refine (sealed_any z1 _ C (HSC.out.stay0 hst) HCL.out HCZ.out).mono ?_; rintro e z2 ⟨v16, rfl, ho16, s⟩; have H16 := Lib.hid ho16.slc; have H6 := Lib.hid (H6.out.stay0 s); clear ho16)
          replace hst := hst.trans s
          refine hK _ _ s ?_
          clear hK
          conv => arg 8; simp [Act.put]
          refine wpAnyH_narrow (S' := Stay (fun _ => False) z2) (fun _ h => s.trans h) _ _ _ _ ?_
          clear s
          refine wpAnyH_one #[true, true, true, true, true, true, true, true, true, true, true, true, true, true, true, true, true, true, false] (i := 17) rfl (by kernel_rfl) (by kernel_rfl) (fun K hK => ?_)
          go_simp
          go_wp2_with (go_at_call 31; refine (Pk.refbytes_any z2 v6 v16 (R ++ bytesB e.k) (partB C) H6.out H16.out (by have := HEL.out; have := (len_bytesB e.k).2; rw [List.length_append]; omega)).mono ?_; rintro e z3 ⟨v17, rfl, ho17, s⟩; have H17 := Lib.hid ho17.slc; obtain ⟨a17, l17, c17, rfl⟩ : ∃ a l c, v17 = .slice a l c := (by obtain ⟨a, c, e⟩ := ho17.form; exact ⟨a, _, c, e⟩); clear ho17)
          replace hst := hst.trans s
          refine hK _ _ s ?_
          clear hK
          conv => arg 8; simp [Act.put]
          refine wpAnyH_narrow (S' := Stay (fun _ => False) z3) (fun _ h => s.trans h) _ _ _ _ ?_
          clear s
          refine wpAnyH_takeL (i := 18) (v := .slice a17 l17 c17) #[true, true, true, true, true, true, true, true, true, true, true, true, true, true, true, true, true, true, true] rfl (by kernel_rfl) (by kernel_rfl) (by kernel_rfl) (fun _ _ _ h => h) (by kernel_rfl) (Stay.refl _ _) (Or.inl ⟨by rfl, fun W hW => ?_⟩) ?_
          · go_simp
          conv => arg 8; simp [Act.put]
          refine wpAnyH_done (by kernel_rfl) ?_ _
          have HSF2 := Lib.hid (HT.out.trans hst)
          have HRF2 := Lib.hid (show Slc z3 (.slice a17 l17 c17) (T0 ++ hdN L p 0 (k + 1)) by rw [HK.out]; exact H17.out)
          clear hst
          go_wp2
          go_roundw
          case rel => exact ⟨k + 1, HKM.out, by rw [Nat.add_mul, Nat.one_mul, ← HMM.out]; go_num, HRF2, HSF2.out⟩
          case measure => simp [intOf]; omega
        · obtain rfl : m = k := by
            have h1 : ¬ k < m := fun h => hlt (HLM.out.1 h)
            omega
          obtain ⟨e, he⟩ : ∃ e, L[n1]? = some e := ⟨_, List.getElem?_eq_getElem (by rw [← HN.out, HN1.out]; omega)⟩
          have HXR := Lib.hid (HXF.out.stay0 HT.out)
          obtain ⟨g', o', heq, _, hc⟩ := HXR.out.at (by rw [← HN.out]; omega)
          cases heq
          obtain ⟨c0, c1, c2⟩ := hc _ e he
          have HC0 := Lib.hid c0
          obtain ⟨FB, hFB⟩ : ∃ FB, FB = filtB L q := ⟨_, rfl⟩
          have hto := HTOF.out.stay0 HT.out
          rw [HBF.out, ← hFB] at hto
          have HTO := Lib.hid hto
          have HRF := Lib.hid (HRFF.out.stay0 HT.out)
          have HLO' := HLO.out
          have HHI' := HHI.out
          rw [HBF.out, ← hFB] at HLO' HHI'
          have HLF := Lib.hid HLO'
          have HHF := Lib.hid HHI'
          have HEL := Lib.hid (show R.length + 9 + e.k.length + 9 + (Bo.encB 3 FB).length + 100 ≤ 120000000000000 by
            have h1 := HRLL.out
            have h2 := HKL.out n1 e he
            have h3 := HEN.out
            rw [← hFB] at h3
            omega)
          have HTB := Lib.hid (show Hn.sealB (R ++ bytesB e.k ++ bytesB (Bo.encB 3 FB)) = T by
            rw [HTT.out, tabB, textT, tailT, lastK, ← HM.out, ← HN.out, ← HN1.out, keyAt_of he, HRE.out, HT0.out, hFB]
            simp only [List.append_assoc])
          clear he hc c0 c1 c2 hFB hto HLO' HHI'
          go_wp2
          refine wp_region_held (S := Stay (fun _ => False) wr.drew) (by kernel_rfl) ?_
          change wpAnyH _ _ _ _ _ _ _ _ (World.drew _)
          have hst : Stay (fun _ => False) wr wr.drew := Stay.drew
          refine wpAnyH_takeL (i := 0) (v := .slice va R.length cv) #[true, false, false, false, false, false, false, false, false, false, false, false, false, false] rfl (by kernel_rfl) (by kernel_rfl) (by kernel_rfl) (fun _ _ _ h => h) (by kernel_rfl) (Stay.refl _ _) (Or.inl ⟨by rfl, fun W hW => ?_⟩) ?_
          · go_simp
          conv => arg 8; simp [Act.put]
          refine wpAnyH_takeL (i := 1) (v := .slice (some ⟨g, o, none⟩) n c) #[true, true, false, false, false, false, false, false, false, false, false, false, false, false] rfl (by kernel_rfl) (by kernel_rfl) (by kernel_rfl) (fun _ _ _ h => h) (by kernel_rfl) (Stay.refl _ _) (Or.inl ⟨by rfl, fun W hW => ?_⟩) ?_
          · go_simp
          conv => arg 8; simp [Act.put]
          refine wpAnyH_takeL (i := 2) (v := .slice (some ⟨g, o, none⟩) n c) #[true, true, true, false, false, false, false, false, false, false, false, false, false, false] rfl (by kernel_rfl) (by kernel_rfl) (by kernel_rfl) (fun _ _ _ h => h) (by kernel_rfl) (Stay.refl _ _) (Or.inl ⟨by rfl, fun W hW => ?_⟩) ?_
          · go_simp
          conv => arg 8; simp [Act.put]
          refine wpAnyH_takeL (i := 3) (v := .int .i64 (n : Int)) #[true, true, true, true, false, false, false, false, false, false, false, false, false, false] rfl (by kernel_rfl) (by kernel_rfl) (by kernel_rfl) (fun _ _ _ h => h) (by kernel_rfl) (Stay.refl _ _) (Or.inl ⟨by rfl, fun W hW => ?_⟩) ?_
          · go_simp
          conv => arg 8; simp [Act.put]
          refine wpAnyH_takeL (i := 4) (v := .int .i64 (n1 : Int)) #[true, true, true, true, true, false, false, false, false, false, false, false, false, false] rfl (by kernel_rfl) (by kernel_rfl) (by kernel_rfl) (fun _ _ _ h => h) (by kernel_rfl) (Stay.refl _ _) (Or.inl ⟨by rfl, fun W hW => ?_⟩) ?_
          · have h9 := HI5.out
            go_simp
          conv => arg 8; simp [Act.put]
          refine wpAnyH_takeL (i := 5) (v := .pointer (some ⟨g, o + n1 * 3, none⟩)) #[true, true, true, true, true, true, false, false, false, false, false, false, false, false] rfl (by kernel_rfl) (by kernel_rfl) (by kernel_rfl) (fun _ _ _ h => h) (by kernel_rfl) (Stay.refl _ _) (Or.inl ⟨by rfl, fun W hW => ?_⟩) ?_
          · have h8 := HNL.out
            go_simp
          conv => arg 8; simp [Act.put]
          refine wpAnyH_takeL (i := 6) (v := .pointer (some ⟨g, o + n1 * 3, none⟩)) #[true, true, true, true, true, true, true, false, false, false, false, false, false, false] rfl (by kernel_rfl) (by kernel_rfl) (by kernel_rfl) (fun _ _ _ h => h) (by kernel_rfl) (Stay.refl _ _) (Or.inl ⟨by rfl, fun W hW => ?_⟩) ?_
          · go_simp
          conv => arg 8; simp [Act.put]
          refine wpAnyH_takeL (i := 7) (v := Me.strV e.k) #[true, true, true, true, true, true, true, true, false, false, false, false, false, false] rfl (by kernel_rfl) (by kernel_rfl) (by kernel_rfl) (fun _ _ _ h => h) (by kernel_rfl) (Stay.refl _ _) (Or.inl ⟨by rfl, fun W hW => ?_⟩) ?_
          · have kc := (hst.trans hW).cell HC0.out (fun x => x)
            go_simp
          conv => arg 8; simp [Act.put]
          refine wpAnyH_takeL (i := 9) #[true, true, true, true, true, true, true, true, false, true, false, false, false, false] rfl (by kernel_rfl) (by kernel_rfl) (by kernel_rfl) (fun _ _ _ h => h) (by kernel_rfl) (Stay.refl _ _) (yieldsIf_load rfl 50 (.tmp 8) rfl ⟨gr, 0, none⟩ rfl _ (fun W hW => (HRF.out.stay0 (hst.trans hW)).run)) ?_
          conv => arg 8; simp [Act.put]
          refine wpAnyH_one #[true, true, true, true, true, true, true, true, true, true, false, false, false, false] (i := 8) rfl (by kernel_rfl) (by kernel_rfl) (fun K hK => ?_)
          go_simp
          go_wp2_with (go_at_call 32; refine (Pk.reftext_any wr.drew _ R e.k (HSV.out.stay0 hst) (by have := HEL.out; omega)).mono ?_; rintro e z1 ⟨v8, rfl, ho8, s⟩; have H8 := Lib.hid ho8.slc; clear ho8)
          replace hst := hst.trans s
          refine hK _ _ s ?_
          clear hK
          conv => arg 8; simp [Act.put]
          refine wpAnyH_narrow (S' := Stay (fun _ => False) z1) (fun _ h => s.trans h) _ _ _ _ ?_
          clear s
          refine wpAnyH_one #[true, true, true, true, true, true, true, true, true, true, true, false, false, false] (i := 10) rfl (by kernel_rfl) (by kernel_rfl) (fun K hK => ?_)
          go_simp
          go_wp2_with (go_at_call 35; refine (Bo.rencode_any z1 3 _ FB _ (HTO.out.stay0 hst) HLF.out HHF.out (by decide)).mono ?_; rintro e z2 ⟨v10, rfl, ho10, s⟩; have H10 := Lib.hid ho10.slc; have H8 := Lib.hid (H8.out.stay0 s); clear ho10)
          replace hst := hst.trans s
          refine hK _ _ s ?_
          clear hK
          conv => arg 8; simp [Act.put]
          refine wpAnyH_narrow (S' := Stay (fun _ => False) z2) (fun _ h => s.trans h) _ _ _ _ ?_
          clear s
          refine wpAnyH_one #[true, true, true, true, true, true, true, true, true, true, true, true, false, false] (i := 11) rfl (by kernel_rfl) (by kernel_rfl) (fun K hK => ?_)
          go_simp
          go_wp2_with (go_at_call 31; refine (Pk.refbytes_any z2 v8 v10 (R ++ bytesB e.k) (Bo.encB 3 FB) H8.out H10.out (by have := HEL.out; have := (len_bytesB e.k).2; rw [List.length_append]; omega)).mono ?_; rintro e z3 ⟨v11, rfl, ho11, s⟩; have H11 := Lib.hid ho11.slc; clear ho11)
          replace hst := hst.trans s
          refine hK _ _ s ?_
          clear hK
          conv => arg 8; simp [Act.put]
          refine wpAnyH_narrow (S' := Stay (fun _ => False) z3) (fun _ h => s.trans h) _ _ _ _ ?_
          clear s
          refine wpAnyH_one #[true, true, true, true, true, true, true, true, true, true, true, true, true, false] (i := 12) rfl (by kernel_rfl) (by kernel_rfl) (fun K hK => ?_)
          go_simp
          go_wp2_with (go_at_call 34; refine (Hn.rseal_any v11 (R ++ bytesB e.k ++ bytesB (Bo.encB 3 FB)) z3 H11.out (by have := HEL.out; have := (len_bytesB e.k).2; have := (len_bytesB (Bo.encB 3 FB)).2; rw [List.length_append, List.length_append]; omega)).mono ?_; rintro e z4 ⟨v12, rfl, ho12, s⟩; rw [HTB.out] at ho12; have HO12 := Lib.hid (ho12.base (base' := w.heap.size) (fun j hj => Nat.le_trans (HSF.out.trans (HT.out.trans hst)).size (ho12.lt j hj).1)); obtain ⟨a12, c12, rfl⟩ := ho12.form; clear ho12)
          replace hst := hst.trans s
          refine hK _ _ s ?_
          clear hK
          conv => arg 8; simp [Act.put]
          refine wpAnyH_narrow (S' := Stay (fun _ => False) z4) (fun _ h => s.trans h) _ _ _ _ ?_
          clear s
          refine wpAnyH_takeL (i := 13) (v := .slice a12 T.length c12) #[true, true, true, true, true, true, true, true, true, true, true, true, true, true] rfl (by kernel_rfl) (by kernel_rfl) (by kernel_rfl) (fun _ _ _ h => h) (by kernel_rfl) (Stay.refl _ _) (Or.inl ⟨by rfl, fun W hW => ?_⟩) ?_
          · go_simp
          conv => arg 8; simp [Act.put]
          refine wpAnyH_done (by kernel_rfl) ?_ _
          have HSF2 := Lib.hid (HSF.out.trans (HT.out.trans hst))
          have hdd := HDD.out
          have hs9 := HSF2.out
          clear hst H8 H10 H11
          by_cases htl : T.length ≤ 1048576
          · rw [if_pos htl] at hdd
            obtain ⟨rfl, rfl⟩ := hdd
            have htl' : decide ((1048576 : Int) < (D.length : Int)) = false := decide_eq_false (by omega)
            clear htl
            go_wp2
            go_ret2
            exact ⟨⟨_, rfl, HO12.out⟩, HSF2.out⟩
          · rw [if_neg htl] at hdd
            obtain ⟨rfl, rfl⟩ := hdd
            have htl' : decide ((1048576 : Int) < (T.length : Int)) = true := decide_eq_true (by omega)
            clear htl
            go_wp2
            go_ret2
            exact ⟨⟨_, rfl, Owns.nil _ _⟩, HSF2.out⟩
end Go.Proofs.YteogdihacohkfaaGreatDoor.Tb
