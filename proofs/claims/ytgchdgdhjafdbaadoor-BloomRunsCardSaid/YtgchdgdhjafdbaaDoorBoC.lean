/-
  bloom: the bits of a key.
-/
import Derived.Test.YtgchdgdhjafdbaaDoorBoB
namespace Go.Proofs.YtgchdgdhjafdbaaDoor.Bo
open Go.RowKit Pk
set_option maxRecDepth 100000

theorem conv_key (w : World) (b : List UInt8) (hb : b.length ≤ 140737488355328) : ∃ cap w', (convert 9 25 (.string ⟨b.toArray⟩)).run Tryd.prog w = .ok (.slice (some ⟨w.heap.size, 0, none⟩) b.length cap) w' ∧ Slc w' (.slice (some ⟨w.heap.size, 0, none⟩) b.length cap) b ∧ Stay (fun _ => False) w w' ∧ w.heap.size < w'.heap.size := conv_txt w b hb

theorem key_one (k : List UInt8) : ({ data := #[1] } ++ { data := k.toArray } : ByteArray) = { data := (1 :: k).toArray } := by
  apply ByteArray.ext
  simp [ByteArray.data_append]

theorem wrap_small (x : Int) (h0 : 0 ≤ x) (h1 : x ≤ 4611686018427387904) : wrap64 x = x := by
  unfold wrap64
  omega
theorem len_mid {m q j : Nat} {k : List UInt8} (hj : j ≤ q) : (bitsN m j k ++ List.replicate (q - j) 0).length = q := by rw [List.length_append, bitsN_len, List.length_replicate]; omega
theorem at_mid {m q j : Nat} {k : List UInt8} (hj : j < q) : (bitsN m j k ++ List.replicate (q - j) 0)[j]? = some 0 := by
  rw [List.getElem?_append_right (by rw [bitsN_len]; exact Nat.le_refl _), bitsN_len, Nat.sub_self, List.getElem?_replicate, if_pos (by omega)]
theorem set_mid {m q j : Nat} {k : List UInt8} (hj : j < q) : (bitsN m j k ++ List.replicate (q - j) 0).set j (bitN m k j) = bitsN m (j + 1) k ++ List.replicate (q - (j + 1)) 0 := by
  rw [List.set_append_right _ _ (by rw [bitsN_len]; exact Nat.le_refl _), bitsN_len, bitsN_succ, Nat.sub_self, show q - j = (q - (j + 1)) + 1 by omega, List.replicate_succ, List.set_cons_zero, List.append_assoc]
  rfl

set_option maxHeartbeats 4000000 in
theorem bits_any (w : World) (p g q : Nat) (B : List Bool) (k : List UInt8) (h : FAt w p g q B) (hk : k.length + 1 ≤ 140737488355328) :
    Calls Tryd.prog 16 #[.pointer (some ⟨p, 0, none⟩), strV k] w fun e w' => ∃ v, e = .returned v ∧ IO w.heap.size w' v (bitsN B.length q k) ∧ Stay (fun _ => False) w w' := by
  obtain ⟨A, hA⟩ : ∃ A, A = Hn.moreN 1 k := ⟨_, rfl⟩
  obtain ⟨D, hD⟩ : ∃ D, D = Hn.moreN 1 (1 :: k) := ⟨_, rfl⟩
  have hA1 : (A : Int) ≤ 2147483646 := by have := Hn.moreN_lt 1 k; omega
  have hD1 : (D : Int) ≤ 2147483646 := by have := Hn.moreN_lt 1 (1 :: k); omega
  obtain ⟨c1, w1, e1, x1, s1, z1⟩ := conv_key w k (by omega)
  obtain ⟨c2, w2, e2, x2, s2, z2⟩ := conv_key w1 (1 :: k) (by simpa using hk)
  rw [← key_one] at e2
  obtain ⟨m, hm⟩ : ∃ m, m = B.length := ⟨_, rfl⟩
  have H := Lib.hid h
  have HM := Lib.hid hm
  rw [← hm]
  clear hm
  have HA := Lib.hid hA
  have HD := Lib.hid hD
  have X1 := Lib.hid x1
  have X2 := Lib.hid x2
  have S2 := Lib.hid (s1.trans s2)
  clear h hA hD x1 x2 s1 s2
  unfold strV
  go_enter Tryd.func16, Tryd.ntmps16
  go_wp2_with fail
  refine (Hn.sum_any _ _ _ X1.out).mono ?_
  rintro e w' ⟨rfl, rfl⟩
  rw [← HA.out]
  unfold Hn.u32V
  go_wp2_with fail
  refine (Hn.sum_any _ _ _ X2.out).mono ?_
  rintro e w' ⟨rfl, rfl⟩
  rw [← HD.out]
  unfold Hn.u32V
  obtain ⟨lo, hi, qlo, qhi, ne, n, c, hn, hp, ho⟩ := H.out.stay0 S2.out
  have cp0 : w2.cell? ⟨p, 0, none⟩ = some (.int .i64 (B.length : Int)) := by rw [cell_of_row w2 p 0 _ _ _ hp]; rfl
  have cp1 : w2.cell? ⟨p, 1, none⟩ = some (.int .i64 (q : Int)) := by rw [cell_of_row w2 p 1 _ _ _ hp]; rfl
  clear hp ho
  rw [← HM.out] at lo hi cp0
  have HCP := Lib.hid cp0
  have HPL := Lib.hid ((H.out.stay0 S2.out).plt)
  clear cp0
  obtain ⟨b2, hb2⟩ : ∃ b2, b2 = w2.heap.size := ⟨_, rfl⟩
  go_wp2_with (with_reducible refine make_int rfl (.tmp 23) (.tmp 23) rfl q rfl rfl (by omega) ?_; intro w3 ho3 hs3 hz3; have HO := Lib.hid ho3; have HS := Lib.hid hs3; clear ho3 hs3)
  rw [← hb2] at HO ⊢
  have HB2 := Lib.hid hb2
  clear hb2
  go_loopw [5, 27] (fun t i wr => ∃ j T : Nat, j ≤ q ∧ i = .int .i64 (j : Int) ∧ t = .int .u64 (T : Int) ∧ Hid (T = A + j * D) ∧ IO b2 wr (.slice (some ⟨b2, 0, none⟩) q q) (bitsN m j k ++ List.replicate (q - j) 0) ∧ Stay (fun k => k = b2) w3 wr) (fun _ i _ => q - (intOf i).toNat)
  case atStart => exact ⟨0, A, Nat.zero_le _, rfl, rfl, Lib.hid (by omega), HO.out, Stay.refl _ _⟩
  case round =>
    obtain ⟨j, T, hj, rfl, rfl, hT, ho, hst⟩ := hrel
    have HO1 := Lib.hid ho
    have HS1 := Lib.hid hst
    have HT := Lib.hid hT.out
    clear ho hst hT
    by_cases hlt : j < q
    · have cp0 : wr.cell? ⟨p, 0, none⟩ = some (.int .i64 (m : Int)) := HS1.out.cell (HS.out.cell HCP.out (fun x => x)) (fun (x : p = b2) => by have h1 := HPL.out; have h2 := HB2.out; omega)
      have hTb : (T : Int) ≤ 36507222018 := by
        have h9 := Nat.mul_le_mul (show j ≤ 16 by omega) (show D ≤ 2147483646 by omega)
        have := HT.out
        omega
      have hcj : wr.cell? ⟨b2, j, none⟩ = some (.int .i64 0) := IO.cell' (n := 0) (len_mid hj).symm HO1.out (at_mid hlt)
      have hfr := IO.fr (len_mid hj).symm HO1.out j
      have HV := Lib.hid (show wrap64 ((T : Int) % (m : Int)) = ((bitN m k j : Nat) : Int) by
        have h1 : (T : Int) % (m : Int) = ((bitN m k j : Nat) : Int) := by
          rw [HT.out, HA.out, HD.out]
          exact (Int.natCast_emod _ _).symm
        have h2 := bitN_lt (s := m) (by omega) k j
        rw [h1]
        exact wrap_small _ (by omega) (by omega))
      go_wp2
      rw [HV.out]
      refine ⟨⟨j + 1, T + D, hlt, by go_num, by go_num, Lib.hid (by rw [HT.out, Nat.succ_mul]; omega), ?_, HS1.out.trans (Stay.setCell _ ⟨b2, j, none⟩ _ rfl)⟩, by simp [intOf]; omega⟩
      have := IO.set (len_mid hj).symm HO1.out j (bitN m k j)
      rw [set_mid hlt] at this
      exact this
    · obtain rfl : j = q := by omega
      go_wp2
      go_ret
      rw [Nat.sub_self, List.replicate_zero, List.append_nil] at HO1
      refine ⟨_, rfl, ?_, ?_⟩
      · have := row_base (base' := w.heap.size) HO1.out (fun k hk => by cases hk; have h1 := HB2.out; have h2 := S2.out.size; show w.heap.size ≤ b2; omega)
        rw [HM.out] at this ⊢
        have e : j = (bitsN B.length j k).length := (bitsN_len ..).symm
        unfold IO
        rw [bitsN_len] at this ⊢
        exact this
      · exact stay_seal (X := fun i => w.heap.size ≤ i) (((S2.out.mono (fun _ x => x.elim)).trans (HS.out.mono (fun _ x => x.elim))).trans (HS1.out.mono (fun i (hi : i = b2) => by have h1 := HB2.out; have h2 := S2.out.size; omega))) (fun i hi => hi)

end Go.Proofs.YtgchdgdhjafdbaaDoor.Bo
