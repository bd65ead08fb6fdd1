/-
  bloom: a key laid in; whether it may be there; how many bits are set.
-/
import Derived.Test.YtgchdgdhjafdbaaDoorBoC
namespace Go.Proofs.YtgchdgdhjafdbaaDoor.Bo
open Go.RowKit Pk
set_option maxRecDepth 100000

theorem add_nil (x : Value) (w : World) : Calls Tryd.prog 13 #[.pointer none, x] w fun e w' => e = .returned (.tuple #[]) ∧ w = w' := by
  go_enter Tryd.func13, Tryd.ntmps13
  go_wp2_with fail
  refine (bits_nil x w).mono ?_
  rintro e w' ⟨rfl, rfl⟩
  go_wp2
  refine wp_loop_rounds 1 ?_
  rw [rounds_succ]
  go_wp2
  exact bodyPost_end (results_none rfl _ _ _) rfl ⟨rfl, rfl⟩

theorem stay_add {w w1 w2 : World} {g : Nat} (h1 : Stay (fun _ => False) w w1) (h2 : Stay (fun i => i = g) w1 w2) : Stay (fun i => i = g) w w2 := (h1.mono (fun _ x => x.elim)).trans h2
theorem or_table : ∀ c : Fin 256, ∀ j : Fin 8, bits BinOp.or IntKind.u8 ((c.val : Nat) : Int) ((2 : Int) ^ j.val % 256) = ((c.val ||| 2 ^ j.val : Nat) : Int) := by decide +kernel
def orB (c : UInt8) (j : Nat) : UInt8 := UInt8.ofNat (c.toNat ||| 2 ^ j)
theorem orB_nat {c : UInt8} {j : Nat} (hj : j < 8) : (orB c j).toNat = c.toNat ||| 2 ^ j := by
  have h := Nat.or_lt_two_pow (n := 8) c.toNat_lt (Nat.pow_lt_pow_right (by decide) hj)
  unfold orB
  rw [UInt8.toNat_ofNat']
  exact Nat.mod_eq_of_lt h
theorem or_is (c : UInt8) (n : Nat) : Value.int .u8 (bits BinOp.or IntKind.u8 (c.toNat : Int) ((2 : Int) ^ (n % 8) % 256)) = byteV (orB c (n % 8)) := by
  have hj : n % 8 < 8 := Nat.mod_lt _ (by decide)
  unfold byteV
  rw [orB_nat hj]
  exact congrArg _ (or_table ⟨c.toNat, c.toNat_lt⟩ ⟨n % 8, hj⟩)

set_option maxHeartbeats 4000000 in
theorem add_any (w : World) (p g q : Nat) (B : List Bool) (k : List UInt8) (h : FAt w p g q B) (hk : k.length + 1 ≤ 140737488355328) :
    Calls Tryd.prog 13 #[.pointer (some ⟨p, 0, none⟩), strV k] w fun e w' => e = .returned (.tuple #[]) ∧ FAt w' p g q (addB B (bitsN B.length q k)) ∧ Stay (fun i => i = g) w w' := by
  have H := Lib.hid h
  have hq1 := h.qlo
  have hq2 := h.qhi
  have hb := bits_any w p g q B k h hk
  clear h
  obtain ⟨l, hl⟩ : ∃ l, l = bitsN B.length q k := ⟨_, rfl⟩
  have hlq : l.length = q := by rw [hl, bitsN_len]
  have HLB := Lib.hid (show ∀ n ∈ l, n < B.length from fun n hn => bitsN_lt H.out.lo (hl ▸ hn))
  rw [← hl] at hb ⊢
  clear hl
  have HBI := Lib.hid hb
  clear hb
  go_enter Tryd.func13, Tryd.ntmps13
  go_wp2_with fail
  refine HBI.out.mono ?_
  rintro e w1 ⟨v, rfl, ho, hs⟩
  obtain ⟨gi, c, rfl, hgi, hgi2⟩ := ho.at (by omega)
  rw [hlq] at ho ⊢
  have HO := Lib.hid ho
  have HS := Lib.hid hs
  have HL := Lib.hid hlq
  have HF := Lib.hid (H.out.stay0 hs)
  clear ho hs hlq
  go_wp2
  go_loopw [10] (fun i wr => ∃ j : Nat, j ≤ q ∧ i = .int .i64 (j : Int) ∧ FAt wr p g q (addB B (l.take j)) ∧ Stay (fun i => i = g) w1 wr) (fun i _ => q - (intOf i).toNat)
  case atStart => exact ⟨0, Nat.zero_le _, rfl, HF.out, Stay.refl _ _⟩
  case round =>
    obtain ⟨j, hj, rfl, hf, hst⟩ := hrel
    by_cases hlt : j < q
    · obtain ⟨n, hn⟩ : ∃ n, l[j]? = some n := ⟨_, List.getElem?_eq_getElem (by have := HL.out; omega)⟩
      have hnB := HLB.out n (List.mem_of_getElem? hn)
      obtain ⟨C, hC⟩ : ∃ C, C = addB B (l.take j) := ⟨_, rfl⟩
      have hCl : C.length = B.length := by rw [hC]; exact addB_len _ _
      have HC := Lib.hid hC
      have HCL := Lib.hid hCl
      rw [← hC] at hf
      clear hC hCl
      obtain ⟨lo, hi, qlo, qhi, ne, m, cc, hm, hp, ho⟩ := hf
      have cp2 : wr.cell? ⟨p, 2, none⟩ = some (.slice (some ⟨g, 0, none⟩) m cc) := by rw [cell_of_row wr p 2 _ _ _ hp]; rfl
      obtain ⟨c0, hc0⟩ : ∃ c0, (packB C)[n / 8]? = some c0 := ⟨_, List.getElem?_eq_getElem (by rw [len_pack]; exact at_need (by have := HCL.out; omega))⟩
      have cg := owns_cell' (by rw [len_pack]; exact hm) ho hc0
      have fg := owns_fr (by rw [len_pack]; exact hm) ho (n / 8)
      have hnm : n / 8 < m := by rw [hm]; exact at_need (by have := HCL.out; omega)
      have HMM := Lib.hid hm
      have HP := Lib.hid hp
      have HOO := Lib.hid ho
      have hnb : (n : Int) ≤ 1048576 := by have := HCL.out; omega
      clear hm hp ho
      have ci : wr.cell? ⟨gi, j, none⟩ = some (.int .i64 (n : Int)) := hst.cell (IO.cell' HL.out.symm HO.out hn) (fun (x : gi = g) => by have := H.out.glt; omega)
      unfold byteV at cg
      go_wp2
      go_region
      rw [or_is]
      obtain ⟨w2, hw2⟩ : ∃ w2, (wr.setCell ⟨g, n / 8, none⟩ (byteV (orB c0 (n % 8)))).drew = w2 := ⟨_, rfl⟩
      have hs2 : Stay (fun i => i = g) wr w2 := by rw [← hw2]; exact (Stay.setCell (X := fun i => i = g) _ ⟨g, n / 8, none⟩ _ rfl).trans Stay.drew
      have hf2 : FAt w2 p g q (addB B (l.take (j + 1))) := by
        have hset : addB B (l.take (j + 1)) = C.set n true := by rw [List.take_add_one, hn]; exact (addB_snoc _ _ _).trans (by rw [HC.out])
        rw [hset]
        have hnC : n < C.length := by have := HCL.out; omega
        have hgd : (packB C).getD (n / 8) 0 = c0 := by rw [List.getD_eq_getElem?_getD, hc0]; rfl
        have hpk : packB (C.set n true) = (packB C).set (n / 8) (orB c0 (n % 8)) := (((packB_is C).set hnC (by rw [hgd]; exact orB_nat (Nat.mod_lt _ (by decide)))).is).symm
        refine ⟨by rw [List.length_set]; exact lo, by rw [List.length_set]; exact hi, qlo, qhi, ne, m, cc, by rw [List.length_set]; exact HMM.out, ?_, ?_⟩
        · rw [List.length_set]
          exact (hs2.block p (lt_of_block HP.out) ne).trans HP.out
        · rw [hpk, ← hw2]
          exact (owns_set (by rw [len_pack]; exact HMM.out) HOO.out (n / 8) (orB c0 (n % 8))).drew
      rw [hw2]
      have HF2 := Lib.hid hf2
      have HS2 := Lib.hid (hst.trans hs2)
      clear hf2 hs2 hw2 ci cg fg cp2
      go_wp2
      exact ⟨⟨j + 1, hlt, by go_num, HF2.out, HS2.out⟩, by simp [intOf]; omega⟩
    · obtain rfl : j = q := by omega
      have HF2 := Lib.hid hf
      have HS2 := Lib.hid (stay_add HS.out hst)
      have HT := Lib.hid (show l.take j = l from List.take_of_length_le (by rw [HL.out]; exact Nat.le_refl _))
      clear hf hst
      go_wp2
      refine bodyPost_end (results_none rfl _ _ _) rfl ⟨rfl, ?_, HS2.out⟩
      have := HF2.out
      rw [HT.out] at this
      exact this

theorem may_nil (x : Value) (w : World) : Calls Tryd.prog 14 #[.pointer none, x] w fun e w' => e = .returned (.bool true) ∧ w = w' := by
  go_enter Tryd.func14, Tryd.ntmps14
  go_wp2_with fail
  refine (bits_nil x w).mono ?_
  rintro e w' ⟨rfl, rfl⟩
  go_wp2
  refine wp_loop_rounds 1 ?_
  rw [rounds_succ]
  go_wp2
  go_ret
  exact ⟨rfl, rfl⟩

theorem and_table : ∀ c : Fin 256, ∀ j : Fin 8, (bits BinOp.and IntKind.u8 ((c.val : Nat) / (2 : Int) ^ j.val) 1 == 0) = !(c.val.testBit j.val) := by decide +kernel
set_option maxHeartbeats 4000000 in
theorem may_any (w : World) (p g q : Nat) (B : List Bool) (k : List UInt8) (h : FAt w p g q B) (hk : k.length + 1 ≤ 140737488355328) :
    Calls Tryd.prog 14 #[.pointer (some ⟨p, 0, none⟩), strV k] w fun e w' => e = .returned (.bool (mayB B (bitsN B.length q k))) ∧ Stay (fun _ => False) w w' := by
  have H := Lib.hid h
  have hq1 := h.qlo
  have hq2 := h.qhi
  have hb := bits_any w p g q B k h hk
  clear h
  obtain ⟨l, hl⟩ : ∃ l, l = bitsN B.length q k := ⟨_, rfl⟩
  have hlq : l.length = q := by rw [hl, bitsN_len]
  have HLB := Lib.hid (show ∀ n ∈ l, n < B.length from fun n hn => bitsN_lt H.out.lo (hl ▸ hn))
  rw [← hl] at hb ⊢
  clear hl
  have HBI := Lib.hid hb
  clear hb
  obtain ⟨M, hM⟩ : ∃ M, M = mayB B l := ⟨_, rfl⟩
  rw [← hM]
  have HMA := Lib.hid hM
  clear hM
  go_enter Tryd.func14, Tryd.ntmps14
  go_wp2_with fail
  refine HBI.out.mono ?_
  rintro e w1 ⟨v, rfl, ho, hs⟩
  obtain ⟨gi, c, rfl, hgi, hgi2⟩ := ho.at (by omega)
  rw [hlq] at ho ⊢
  have HO := Lib.hid ho
  have HS := Lib.hid hs
  have HL := Lib.hid hlq
  have HF := Lib.hid (H.out.stay0 hs)
  clear ho hs hlq
  go_wp2
  go_loop [11] (fun i => ∃ j : Nat, j ≤ q ∧ i = .int .i64 (j : Int) ∧ mayB B (l.take j) = true) (fun i => q - (intOf i).toNat)
  case atStart => exact ⟨0, Nat.zero_le _, rfl, rfl⟩
  case round =>
    obtain ⟨j, hj, rfl, hm⟩ := hrel
    have HMJ := Lib.hid hm
    clear hm
    by_cases hlt : j < q
    · obtain ⟨n, hn⟩ : ∃ n, l[j]? = some n := ⟨_, List.getElem?_eq_getElem (by have := HL.out; omega)⟩
      have hnB := HLB.out n (List.mem_of_getElem? hn)
      have HN := Lib.hid hn
      have HNB := Lib.hid hnB
      obtain ⟨lo, hi, qlo, qhi, ne, m, cc, hm, hp, ho⟩ := HF.out
      have cp2 : w1.cell? ⟨p, 2, none⟩ = some (.slice (some ⟨g, 0, none⟩) m cc) := by rw [cell_of_row w1 p 2 _ _ _ hp]; rfl
      obtain ⟨c0, hc0⟩ : ∃ c0, (packB B)[n / 8]? = some c0 := ⟨_, List.getElem?_eq_getElem (by rw [len_pack]; exact at_need hnB)⟩
      have cg := owns_cell' (by rw [len_pack]; exact hm) ho hc0
      have hnm : n / 8 < m := by rw [hm]; exact at_need hnB
      have hnb : (n : Int) ≤ 1048576 := by omega
      have ci := IO.cell' HL.out.symm HO.out hn
      have HBT := Lib.hid (show B.getD n false = c0.toNat.testBit (n % 8) by
        rw [← (packB_is B).bit n]
        unfold bt
        rw [List.getD_eq_getElem?_getD, hc0]
        rfl)
      clear hm hp ho hc0 hn hnB
      unfold byteV at cg
      have ht := and_table ⟨c0.toNat, c0.toNat_lt⟩ ⟨n % 8, Nat.mod_lt _ (by decide)⟩
      dsimp only at ht
      cases hbit : c0.toNat.testBit (n % 8)
      · rw [hbit] at ht
        have HBIT := Lib.hid hbit
        clear hbit
        go_wp2
        go_ret
        exact ⟨by rw [HMA.out, mayB_no HN.out (HBT.out.trans HBIT.out)]; rfl, HS.out⟩
      · rw [hbit] at ht
        have HBIT := Lib.hid hbit
        clear hbit
        go_wp2
        exact ⟨⟨j + 1, hlt, by go_num, mayB_succ HMJ.out HN.out (HBT.out.trans HBIT.out)⟩, by simp [intOf]; omega⟩
    · obtain rfl : j = q := by omega
      go_wp2
      go_ret
      rw [HMA.out]
      have := HMJ.out
      rw [show l.take j = l from List.take_of_length_le (by rw [HL.out]; exact Nat.le_refl _)] at this
      exact ⟨by rw [this]; rfl, HS.out⟩

end Go.Proofs.YtgchdgdhjafdbaaDoor.Bo
