/-
  The document's answer (chapter 11): a filter as bytes.
-/
import Derived.Test.YteogdihacohkfaaGreatDoorBoT
import Derived.Test.YteogdihacohkfaaGreatDoorGaB
import Derived.Test.YteogdihacohkfaaGreatDoorPkRefX3
namespace Go.Proofs.YteogdihacohkfaaGreatDoor.Bo
open Go.RowKit Pk
set_option maxRecDepth 100000

/-- The first i bits, and no others. -/
def midB (B : List Bool) (i : Nat) : List Bool := B.take i ++ List.replicate (B.length - i) false
theorem midB_len {B : List Bool} {i : Nat} (h : i ≤ B.length) : (midB B i).length = B.length := by
  unfold midB
  rw [List.length_append, List.length_take, List.length_replicate]
  omega
theorem midB_at {B : List Bool} {i : Nat} (h : i ≤ B.length) (n : Nat) : (midB B i).getD n false = (decide (n < i) && B.getD n false) := by
  unfold midB
  by_cases hn : n < i
  · rw [decide_eq_true hn, Bool.true_and, List.getD_eq_getElem?_getD, List.getElem?_append_left (by rw [List.length_take]; omega), List.getElem?_take_of_lt hn, List.getD_eq_getElem?_getD]
  · rw [decide_eq_false hn, Bool.false_and, List.getD_eq_getElem?_getD, List.getElem?_append_right (by rw [List.length_take]; omega), List.getElem?_replicate]
    split <;> rfl
theorem midB_zero (B : List Bool) : midB B 0 = List.replicate B.length false := by simp [midB]
theorem midB_all (B : List Bool) : midB B B.length = B := by simp [midB]
theorem midB_no {B : List Bool} {i : Nat} (h : i < B.length) (hb : B.getD i false = false) : midB B (i + 1) = midB B i := by
  refine bits_eq (by rw [midB_len h, midB_len (Nat.le_of_lt h)]) (fun n => ?_)
  rw [midB_at h, midB_at (Nat.le_of_lt h)]
  by_cases e : n = i
  · subst e; rw [hb]; simp
  · have : decide (n < i + 1) = decide (n < i) := by
      by_cases h1 : n < i
      · rw [decide_eq_true h1, decide_eq_true (by omega)]
      · rw [decide_eq_false h1, decide_eq_false (by omega)]
    rw [this]
theorem midB_yes {B : List Bool} {i : Nat} (h : i < B.length) (hb : B.getD i false = true) : midB B (i + 1) = (midB B i).set i true := by
  refine bits_eq (by rw [midB_len h, List.length_set, midB_len (Nat.le_of_lt h)]) (fun n => ?_)
  rw [midB_at h, getD_set (by rw [midB_len (Nat.le_of_lt h)]; exact h), midB_at (Nat.le_of_lt h)]
  by_cases e : n = i
  · subst e; rw [if_pos rfl, hb]; simp
  · have : decide (n < i + 1) = decide (n < i) := by
      by_cases h1 : n < i
      · rw [decide_eq_true h1, decide_eq_true (by omega)]
      · rw [decide_eq_false h1, decide_eq_false (by omega)]
    rw [if_neg e, this]

theorem plus_table : ∀ c : Fin 256, ∀ j : Fin 8, c.val.testBit j.val = false → (((c.val : Nat) : Int) + (2 : Int) ^ j.val) % 256 = ((c.val ||| 2 ^ j.val : Nat) : Int) := by decide +kernel

set_option maxHeartbeats 4000000 in
theorem rencode_any (w : World) (q : Nat) (v : Value) (B : List Bool) (base : Nat) (h : TO base w v B) (h1 : 1 ≤ B.length) (h2 : B.length ≤ 1048576) (hq : q ≤ 16) :
    Calls Tryz.prog 35 #[RV q v] w fun e w' => ∃ v', e = .returned v' ∧ Owns w.heap.size w' v' (encB q B) ∧ Stay (fun _ => False) w w' := by
  obtain ⟨gb, vc, rfl, hgb1, hgb2⟩ := h.at (by omega)
  obtain ⟨m, hm⟩ : ∃ m, m = B.length := ⟨_, rfl⟩
  obtain ⟨va, hva⟩ : ∃ va : Option Addr, va = some ⟨gb, 0, none⟩ := ⟨_, rfl⟩
  have HPL := Lib.hid (show (packB B).length ≤ 131072 by rw [len_pack]; unfold need; omega)
  obtain ⟨E, hE⟩ : ∃ E, E = encB q B := ⟨_, rfl⟩
  rw [← hE]
  unfold encB at hE
  rw [← hm] at h h1 h2 hE ⊢
  obtain ⟨n, hn⟩ : ∃ n, n = need m := ⟨_, rfl⟩
  have hnb : n ≤ 131072 := by rw [hn]; unfold need; omega
  have hnd : n = (m + 7) / 8 := hn
  have HNN := Lib.hid (show (m + 7) / 8 = n from hnd.symm)
  have HN := Lib.hid hn
  have HE := Lib.hid hE
  have HM := Lib.hid hm
  have HT := Lib.hid h
  clear h hm hE hn hnd
  unfold RV
  go_enter Tryz.func35, Tryz.ntmps35
  have hn2 : ((m : Int) + 7) / 8 = (n : Int) := by have := HNN.out; omega
  go_wp2_with (at_make; refine make_u8 rfl (.tmp 9) (.tmp 9) rfl n (by exact congrArg (Value.int .i64) hn2) (by exact congrArg (Value.int .i64) hn2) (by omega) ?_; intro w1 ho1 hs1 hz1; have HO1 := Lib.hid ho1; have HS1 := Lib.hid hs1; clear ho1 hs1)
  obtain ⟨g, hg⟩ : ∃ g, g = w.heap.size + 1 := ⟨_, rfl⟩
  have hzz : (w.alloc (.cells #[.int .i64 (q : Int), .slice (some ⟨gb, 0, none⟩) m vc] 50)).heap.size = w.heap.size + 1 := by simp
  rw [hzz, ← hg] at HO1
  have hbb := (HS1.out.block w.heap.size (by simp) (fun x => x)).trans (heap_alloc_new w (.cells #[.int .i64 (q : Int), .slice (some ⟨gb, 0, none⟩) m vc] 50))
  have HBB := Lib.hid hbb
  have HST := Lib.hid (show Stay (fun _ => False) w w1 from (Stay.alloc w _).trans HS1.out)
  have HG := Lib.hid hg
  rw [← hg]
  clear hbb hzz HS1 hg
  go_wp2
  go_loopw [4] (fun i wr => ∃ j : Nat, ∃ L : List UInt8, j ≤ m ∧ i = .int .i64 (j : Int) ∧ L.length = n ∧ IsP (midB B j) L ∧ Owns g wr (.slice (some ⟨g, 0, none⟩) n n) L ∧ Stay (fun i => i = g) w1 wr) (fun i _ => m - (intOf i).toNat)
  case atStart => exact ⟨0, List.replicate n 0, Nat.zero_le _, rfl, by simp, by rw [midB_zero, HN.out, HM.out]; exact IsP.none _, HO1.out, Stay.refl _ _⟩
  case round =>
    obtain ⟨j, L, hj, rfl, hLl, hP, ho, hst⟩ := hrel
    have hbr := (hst.block _ (lt_of_block HBB.out) (fun (e : w.heap.size = g) => by have := HG.out; omega)).trans HBB.out
    obtain ⟨q0, q1, _, _⟩ := two_cells hbr
    have HBR := Lib.hid hbr
    have HP := Lib.hid hP
    have HO := Lib.hid ho
    have HS := Lib.hid hst
    have HLL := Lib.hid hLl
    have HTR := Lib.hid ((HT.out.stay0 HST.out).stay hst (fun k hk => by cases hk; show ¬ gb = g; have := HG.out; omega))
    clear hbr hP ho hst hLl
    by_cases hlt : j < m
    · have cb := TO.cell' HM.out HTR.out (getD_of (B := B) (n := j) (by rw [← HM.out]; exact hlt))
      have hjB : j < B.length := by rw [← HM.out]; exact hlt
      have HJB := Lib.hid hjB
      clear hjB
      cases hbit : B.getD j false
      · rw [hbit] at cb
        have HNO := Lib.hid (midB_no HJB.out hbit)
        clear hbit
        go_wp2
        exact ⟨⟨j + 1, L, hlt, by go_num, HLL.out, by rw [HNO.out]; exact HP.out, HO.out, HS.out⟩, by simp [intOf]; omega⟩
      · rw [hbit] at cb
        have HYES := Lib.hid (midB_yes HJB.out hbit)
        clear hbit
        obtain ⟨c0, hc0⟩ : ∃ c0, L[j / 8]? = some c0 := ⟨_, List.getElem?_eq_getElem (by rw [HLL.out, HN.out]; exact at_need hlt)⟩
        have cg := owns_cell' HLL.out.symm HO.out hc0
        have fg := owns_fr HLL.out.symm HO.out (j / 8)
        have hgd : L.getD (j / 8) 0 = c0 := by rw [List.getD_eq_getElem?_getD, hc0]; rfl
        have hnot : c0.toNat.testBit (j % 8) = false := by
          have h := HP.out.bit j
          rw [midB_at (Nat.le_of_lt HJB.out), decide_eq_false (Nat.lt_irrefl j), Bool.false_and] at h
          unfold bt at h
          rw [hgd] at h
          exact h
        have HPL2 := Lib.hid (show Value.int .u8 ((((c0.toNat : Nat) : Int) + (2 : Int) ^ (j % 8)) % 256) = byteV (orB c0 (j % 8)) by
          have hj8 : j % 8 < 8 := Nat.mod_lt _ (by decide)
          unfold byteV
          rw [orB_nat hj8]
          exact congrArg _ (plus_table ⟨c0.toNat, c0.toNat_lt⟩ ⟨j % 8, hj8⟩ hnot))
        have HGD := Lib.hid hgd
        have hj8 : j / 8 < n := by rw [HN.out]; exact at_need hlt
        unfold byteV at cg
        clear hgd hnot hc0
        go_wp2
        rw [HPL2.out]
        refine ⟨⟨j + 1, L.set (j / 8) (orB c0 (j % 8)), hlt, by go_num, by rw [List.length_set]; exact HLL.out, ?_, owns_set HLL.out.symm HO.out (j / 8) (orB c0 (j % 8)), HS.out.trans (Stay.setCell (X := fun i => i = g) _ ⟨g, j / 8, none⟩ _ rfl)⟩, by simp [intOf]; omega⟩
        rw [HYES.out]
        exact HP.out.set (by rw [midB_len (Nat.le_of_lt HJB.out)]; exact HJB.out) (by rw [HGD.out]; exact orB_nat (Nat.mod_lt _ (by decide)))
    · obtain rfl : j = m := by omega
      have hpk : L = packB B := by
        have h := HP.out
        rw [HM.out, midB_all] at h
        exact h.is
      have HOB := Lib.hid (show Owns g wr (.slice (some ⟨g, 0, none⟩) n n) (packB B) from hpk ▸ HO.out)
      have HWR := Lib.hid (show Stay (fun _ => False) w wr from stay_seal (X := fun k => w.heap.size ≤ k) ((HST.out.mono (fun _ x => x.elim)).trans (HS.out.mono (fun i (hi : i = g) => by show w.heap.size ≤ i; have := HG.out; omega))) (fun k hk => hk))
      obtain ⟨S, hSd⟩ : ∃ S : World → Prop, S = Stay (fun _ => False) wr := ⟨_, rfl⟩
      have HSS := Lib.hid (show ∀ W, S W → Stay (fun _ => False) wr W by intro W h; rw [hSd] at h; exact h)
      have HSm := Lib.hid (show ∀ W, Stay (fun _ => False) wr W → S W by intro W h; rw [hSd]; exact h)
      have HS0 := Lib.hid (HSm.out wr.drew Stay.drew)
      have hrow := fun W (h : S W) => ((HSS.out W h).block _ (lt_of_block HBR.out) (fun x => x)).trans HBR.out
      obtain ⟨va, hva⟩ : ∃ va : Option Addr, va = some ⟨gb, 0, none⟩ := ⟨_, rfl⟩
      rw [← hva] at hrow q1
      have HC0 := Lib.hid (show ∀ W, S W → W.cell? ⟨w.heap.size, 0, none⟩ = some (.int .i64 (q : Int)) from fun W h => cell_of_row W _ 0 _ _ _ (hrow W h))
      have HC1 := Lib.hid (show ∀ W, S W → W.cell? ⟨w.heap.size, 1, none⟩ = some (.slice va j vc) from fun W h => cell_of_row W _ 1 _ _ _ (hrow W h))
      clear hSd hrow hpk
      go_wp2
      have hsn : Slc wr.drew (.slice none 0 0) [] := (Owns.nil 0 wr.drew).slc
      have HU1 := Lib.hid (refuint_at wr.drew (.slice none 0 0) [] j (j : Int) rfl hsn (by omega) (by simp))
      clear hsn
      refine wp_region_held (S := S) (by kernel_rfl) ?_
      change wpAnyH _ _ _ _ _ _ _ _ (World.drew _)
      refine wpAnyH_takeL (i := 0) (v := .pointer (some ⟨w.heap.size, 1, none⟩)) #[true, false, false, false, false, false, false, false, false, false, false, false] rfl (by kernel_rfl) (by kernel_rfl) (by kernel_rfl) (fun _ _ _ h => h) (by kernel_rfl) HS0.out (Or.inl ⟨by rfl, fun W hW => ?_⟩) ?_
      · go_simp
      conv =>
        arg 8
        simp [Act.put]
      refine wpAnyH_takeL (i := 5) (v := .pointer (some ⟨w.heap.size, 0, none⟩)) #[true, false, false, false, false, true, false, false, false, false, false, false] rfl (by kernel_rfl) (by kernel_rfl) (by kernel_rfl) (fun _ _ _ h => h) (by kernel_rfl) HS0.out (Or.inl ⟨by rfl, fun W hW => ?_⟩) ?_
      · go_simp
      conv =>
        arg 8
        simp [Act.put]
      refine wpAnyH_takeL (i := 9) (v := .slice (some ⟨g, 0, none⟩) n n) #[true, false, false, false, false, true, false, false, false, true, false, false] rfl (by kernel_rfl) (by kernel_rfl) (by kernel_rfl) (fun _ _ _ h => h) (by kernel_rfl) HS0.out (Or.inl ⟨by rfl, fun W hW => ?_⟩) ?_
      · go_simp
      conv =>
        arg 8
        simp [Act.put]
      refine wpAnyH_takeL (i := 1) (v := .slice va j vc) #[true, true, false, false, false, true, false, false, false, true, false, false] rfl (by kernel_rfl) (by kernel_rfl) (by kernel_rfl) (fun _ _ _ h => h) (by kernel_rfl) HS0.out (Or.inl ⟨by rfl, fun W hW => ?_⟩) ?_
      · have kc := HC1.out W hW
        go_simp
      conv =>
        arg 8
        simp [Act.put]
      refine wpAnyH_takeL (i := 6) (v := .int .i64 (q : Int)) #[true, true, false, false, false, true, true, false, false, true, false, false] rfl (by kernel_rfl) (by kernel_rfl) (by kernel_rfl) (fun _ _ _ h => h) (by kernel_rfl) HS0.out (Or.inl ⟨by rfl, fun W hW => ?_⟩) ?_
      · have kc := HC0.out W hW
        go_simp
      conv =>
        arg 8
        simp [Act.put]
      refine wpAnyH_takeL (i := 2) (v := .int .i64 (j : Int)) #[true, true, true, false, false, true, true, false, false, true, false, false] rfl (by kernel_rfl) (by kernel_rfl) (by kernel_rfl) (fun _ _ _ h => h) (by kernel_rfl) HS0.out (Or.inl ⟨by rfl, fun W hW => ?_⟩) ?_
      · go_simp
      conv =>
        arg 8
        simp [Act.put]
      refine wpAnyH_takeL (i := 3) (v := .int .u64 (j : Int)) #[true, true, true, true, false, true, true, false, false, true, false, false] rfl (by kernel_rfl) (by kernel_rfl) (by kernel_rfl) (fun _ _ _ h => h) (by kernel_rfl) HS0.out (Or.inl ⟨by rfl, fun W hW => ?_⟩) ?_
      · go_simp
        rw [IntKind.wrap_u64]
        omega
      conv =>
        arg 8
        simp [Act.put]
      refine wpAnyH_takeL (i := 7) (v := .int .u64 (q : Int)) #[true, true, true, true, false, true, true, true, false, true, false, false] rfl (by kernel_rfl) (by kernel_rfl) (by kernel_rfl) (fun _ _ _ h => h) (by kernel_rfl) HS0.out (Or.inl ⟨by rfl, fun W hW => ?_⟩) ?_
      · go_simp
        rw [IntKind.wrap_u64]
        omega
      conv =>
        arg 8
        simp [Act.put]
      refine wpAnyH_one #[true, true, true, true, true, true, true, true, false, true, false, false] (i := 4) rfl (by kernel_rfl) (by kernel_rfl) (fun K hK => ?_)
      go_simp
      go_wp2_with (
        go_at_call 30
        refine HU1.out.mono ?_
        rintro e w2 ⟨v2, rfl, ho2, hs2⟩
        have HO2 := Lib.hid ho2
        have HS2 := Lib.hid (show Stay (fun _ => False) wr w2 from (Stay.drew (X := fun _ => False) (w := wr)).trans hs2)
        clear ho2 hs2)
      refine hK _ _ ?_ ?_
      · exact HSm.out _ HS2.out
      conv =>
        arg 8
        simp [Act.put]
      refine wpAnyH_one #[true, true, true, true, true, true, true, true, true, true, false, false] (i := 8) rfl (by kernel_rfl) (by kernel_rfl) (fun K hK => ?_)
      go_simp
      go_wp2_with (
        go_at_call 30
        refine (refuint_at _ v2 _ q _ rfl HO2.out.slc (by omega) (by rw [List.nil_append, length_spellB]; have := kOf_le j; omega)).mono ?_
        rintro e w3 ⟨v3, rfl, ho3, hs3⟩
        have HO3 := Lib.hid ho3
        have HS3 := Lib.hid (HS2.out.trans hs3)
        clear ho3 hs3)
      refine hK _ _ ?_ ?_
      · exact HSm.out _ HS3.out
      conv =>
        arg 8
        simp [Act.put]
      refine wpAnyH_one #[true, true, true, true, true, true, true, true, true, true, true, false] (i := 10) rfl (by kernel_rfl) (by kernel_rfl) (fun K hK => ?_)
      go_simp
      go_wp2_with (
        go_at_call 31
        refine (refbytes_any _ v3 _ _ (packB B) HO3.out.slc (HOB.out.stay0 HS3.out).slc (by rw [List.nil_append, List.length_append, length_spellB, length_spellB]; have := kOf_le j; have := kOf_le q; have := HPL.out; omega)).mono ?_
        rintro e w4 ⟨v4, rfl, ho4, hs4⟩
        have HO4 := Lib.hid ho4
        have HS4 := Lib.hid (HS3.out.trans hs4)
        clear ho4 hs4)
      refine hK _ _ ?_ ?_
      · exact HSm.out _ HS4.out
      conv =>
        arg 8
        simp [Act.put]
      refine wpAnyH_takeL (i := 11) (v := v4) #[true, true, true, true, true, true, true, true, true, true, true, true] rfl (by kernel_rfl) (by kernel_rfl) (by kernel_rfl) (fun _ _ _ h => h) (by kernel_rfl) (HSm.out _ HS4.out) (Or.inl ⟨by rfl, fun W hW => ?_⟩) ?_
      · go_simp
      conv =>
        arg 8
        simp [Act.put]
      refine wpAnyH_done (by kernel_rfl) ?_ _
      go_wp2
      go_ret
      refine ⟨v4, rfl, ?_, HWR.out.trans HS4.out⟩
      rw [HE.out]
      exact HO4.out.base (fun k hk => Nat.le_trans HS3.out.size (HO4.out.lt k hk).1 |> Nat.le_trans HWR.out.size)

end Go.Proofs.YteogdihacohkfaaGreatDoor.Bo
