/-
  The document's answer (chapter 11): New, the bits of a key.
-/
import Derived.Test.YteogdihacohkfaaGreatDoorGaB
import Derived.Test.YteogdihacohkfaaGreatDoorPkRefR
import Derived.Lib.AppendStr
namespace Go.Proofs.YteogdihacohkfaaGreatDoor.Bo
open Go.RowKit Pk
set_option maxRecDepth 100000

/-- The document's filter, as a value. -/
def RV (q : Nat) (v : Value) : Value := .agg #[.int .i64 (q : Int), v]

theorem rnew_end {w1 : World} {a v a0 v0 : Value} {B : Nat} (hb : w1.heap[B]? = some (.cells #[a0, v0] 50 (0, 0))) : ((w1.setCell ⟨B, 0, none⟩ a).setCell ⟨B, 1, none⟩ v).cell? ⟨B, 0, none⟩ = some a ∧ ((w1.setCell ⟨B, 0, none⟩ a).setCell ⟨B, 1, none⟩ v).cell? ⟨B, 1, none⟩ = some v := by
  obtain ⟨d0, d1, _, _⟩ := two_cells (two_set1 (two_set0 hb (u := a)) (u := v))
  exact ⟨d0, d1⟩

theorem rnew_bad (s q : Int) (w : World) (h1 : -9223372036854775808 ≤ s) (h2 : s ≤ 9223372036854775807) (h3 : -9223372036854775808 ≤ q) (h4 : q ≤ 9223372036854775807) (hb : s < 1 ∨ 1048576 < s ∨ q < 1 ∨ 16 < q) :
    Calls Tryz.prog 28 #[.int .i64 s, .int .i64 q] w fun e w' => e = .returned (.tuple #[RV 0 (.slice none 0 0), .int .i64 1]) ∧ Stay (fun _ => False) w w' := by
  unfold RV
  by_cases c1 : s < 1
  · go_enter Tryz.func28, Tryz.ntmps28
    go_wp2
    refine bodyPost_ret (v := .tuple #[.agg #[.int .i64 0, .slice none 0 0], .int .i64 1]) (by simp [results, Tryz.results28, go_sem]) rfl ⟨rfl, ?_⟩
    exact Stay.alloc w _
  · by_cases c2 : 1048576 < s
    · go_enter Tryz.func28, Tryz.ntmps28
      go_wp2
      refine bodyPost_ret (v := .tuple #[.agg #[.int .i64 0, .slice none 0 0], .int .i64 1]) (by simp [results, Tryz.results28, go_sem]) rfl ⟨rfl, ?_⟩
      exact Stay.alloc w _
    · by_cases c3 : q < 1
      · clear hb
        go_enter Tryz.func28, Tryz.ntmps28
        go_wp2
        refine bodyPost_ret (v := .tuple #[.agg #[.int .i64 0, .slice none 0 0], .int .i64 1]) (by simp [results, Tryz.results28, go_sem]) rfl ⟨rfl, ?_⟩
        exact Stay.alloc w _
      · have c4 : 16 < q := by omega
        clear hb
        go_enter Tryz.func28, Tryz.ntmps28
        go_wp2
        refine bodyPost_ret (v := .tuple #[.agg #[.int .i64 0, .slice none 0 0], .int .i64 1]) (by simp [results, Tryz.results28, go_sem]) rfl ⟨rfl, ?_⟩
        exact Stay.alloc w _

set_option maxHeartbeats 1000000 in
theorem rnew_any (s q : Nat) (w : World) (h1 : 1 ≤ s) (h2 : s ≤ 1048576) (h3 : 1 ≤ q) (h4 : q ≤ 16) :
    Calls Tryz.prog 28 #[.int .i64 s, .int .i64 q] w fun e w' => ∃ v, e = .returned (.tuple #[RV q v, .int .i64 0]) ∧ TO w.heap.size w' v (List.replicate s false) ∧ Stay (fun _ => False) w w' := by
  unfold RV
  go_enter Tryz.func28, Tryz.ntmps28
  go_wp2_with (with_reducible refine make_bool rfl (.tmp 22) (.tmp 22) rfl s rfl rfl (by omega) ?_; intro w1 ho1 hs1 hz1; have HO := Lib.hid ho1; have HS := Lib.hid hs1; have hb1 := (hs1.block w.heap.size (by simp) (fun x => x)).trans (heap_alloc_new w _); obtain ⟨c0, c1, f0, f1⟩ := two_cells hb1; have HB1 := Lib.hid hb1; clear ho1 hs1 hb1)
  obtain ⟨d0, d1⟩ := rnew_end (a := .int .i64 (q : Int)) (v := .slice (some ⟨w.heap.size + 1, 0, none⟩) s s) HB1.out
  have hst : Stay (fun k => k = w.heap.size) w1 ((w1.setCell ⟨w.heap.size, 0, none⟩ (.int .i64 (q : Int))).setCell ⟨w.heap.size, 1, none⟩ (.slice (some ⟨w.heap.size + 1, 0, none⟩) s s)) := (Stay.setCell (X := fun k => k = w.heap.size) _ ⟨w.heap.size, 0, none⟩ _ rfl).trans (Stay.setCell (X := fun k => k = w.heap.size) _ ⟨w.heap.size, 1, none⟩ _ rfl)
  refine bodyPost_ret (v := .tuple #[.agg #[.int .i64 (q : Int), .slice (some ⟨w.heap.size + 1, 0, none⟩) s s], .int .i64 0]) (by simp [results, Tryz.results28, go_sem, d0, d1]) rfl ⟨_, rfl, ?_, ?_⟩
  · have h := HO.out
    have hz : (w.alloc (.cells #[.int .i64 0, .slice none 0 0] 50)).heap.size = w.heap.size + 1 := by simp
    rw [hz] at h
    exact (h.stay hst (fun k hk => by cases hk; show ¬ (w.heap.size + 1 = w.heap.size); omega)).base' (fun k hk => by cases hk; exact Nat.le_succ _)
  · exact stay_seal (X := fun k => w.heap.size ≤ k) ((((Stay.alloc w _).trans HS.out).mono (fun _ x => x.elim)).trans (hst.mono (fun i hi => Nat.le_of_eq hi.symm))) (fun k hk => hk)

theorem run_append_i1 {w : World} {base : Nat} {v : Value} {L : List Nat} {n : Nat} (ty : TypeId) (hown : IO base w v L) (hb : base ≤ w.heap.size) (hn : L.length ≤ 65535) :
    ∃ v' w', (Builtin.append_ #[127, 127] ty #[v, .slice (some ⟨w.heap.size, 0, none⟩) 1 1]).run Tryz.prog (w.alloc (.cells #[.int .i64 (n : Int)] 3)) = .ok v' w' ∧ IO base w' v' (L ++ [n]) ∧ Stay (fun i => v.ownBlock = some i) w w' := by
  obtain ⟨i0, hi, hz0, hz1, hz2⟩ := info_parts infoI
  obtain ⟨v', w', hrun, h4, h5, _, _⟩ := run_append_own_at (P := Tryz.prog) (w.alloc (.cells #[.int .i64 (n : Int)] 3)) base 127 ty 3 i0 (.int .i64 0) 1 8 Tryz.underlying127 hi hz0 hz1 hz2 rfl (by decide) v L.length (cellsI L) (World.ownsRow.alloc hown _) ⟨w.heap.size, 0, none⟩ 1 1 [.int .i64 (n : Int)] rfl
    (fun j u hu => by
      have hj : j = 0 := by
        have := (List.getElem?_eq_some_iff.1 hu).1
        simp at this
        exact this
      subst hj
      cases hu
      rw [add_at, cell_of_row _ _ _ _ _ _ (heap_alloc_new w _)]
      rfl)
    (fun u hu => by rw [List.mem_singleton.1 hu]; rfl)
    (by unfold maxLen; omega) (by omega) (by simp; omega)
  refine ⟨v', w', hrun, ?_, (Stay.alloc w _).trans (Stay.grown h5 (fun k e => e))⟩
  unfold IO
  rw [List.length_append, show cellsI (L ++ [n]) = cellsI L ++ [.int .i64 (n : Int)] by simp [cellsI]]
  exact h4
section
variable {ops : Array Oper} {rest : List Oper} {o : Oper} {a : Act} {w : World} {Q : Exit → Act → World → Prop}
theorem append_i1 (hgd : o.guard = none) (s x : Operand) (ho : o.op = .call { callee := .builtin .append, args := #[s, x], argTypes := #[127, 127] })
    {base : Nat} {v : Value} {L : List Nat} {n : Nat} {z : Int} (hs : a.eval s = v) (hx : a.eval x = .slice (some ⟨w.heap.size, 0, none⟩) 1 1) (hown : IO base w v L) (hz : z = (n : Int)) (hb : base ≤ w.heap.size) (hn : L.length ≤ 65535)
    (h : ∀ v' w', IO base w' v' (L ++ [n]) → Stay (fun i => v.ownBlock = some i) w w' → wpList Tryz.prog ops Q rest (a.put o.dst v') w') : wpList Tryz.prog ops Q (o :: rest) a (w.alloc (.cells #[.int .i64 z] 3)) := by
  subst hz
  exact wpList_plain hgd fun _ hK => by
    obtain ⟨v', w', hrun, h2, h3⟩ := run_append_i1 (w := w) (n := n) o.type hown hb hn
    unfold Oper.wp execOp
    simp only [ho, resolve, invoke, builtin, Sem.run_bind, Sem.run_pure, Result.andThen_ok, List.map_toArray, List.map_cons, List.map_nil, hs, hx, hrun]
    exact hK _ _ (h v' w' h2 h3)
end

set_option maxHeartbeats 4000000 in
theorem rbits_any (w : World) (q : Nat) (v : Value) (B : List Bool) (k : List UInt8) (base : Nat) (h : TO base w v B) (h1 : 1 ≤ B.length) (h2 : B.length ≤ 1048576) (hq : q ≤ 16) (hk : k.length + 1 ≤ 140737488355328) :
    Calls Tryz.prog 69 #[RV q v, strV k] w fun e w' => ∃ v, e = .returned v ∧ IO w.heap.size w' v (bitsN B.length q k) ∧ Stay (fun _ => False) w w' := by
  obtain ⟨va, vc, rfl⟩ := h.form
  obtain ⟨m, hm⟩ : ∃ m, m = B.length := ⟨_, rfl⟩
  rw [← hm] at h1 h2 ⊢
  obtain ⟨A, hA⟩ : ∃ A, A = Hn.moreN 1 k := ⟨_, rfl⟩
  obtain ⟨D, hD⟩ : ∃ D, D = Hn.moreN 1 (1 :: k) := ⟨_, rfl⟩
  have hA1 : (A : Int) ≤ 2147483646 := by have := Hn.moreN_lt 1 k; omega
  have hD1 : (D : Int) ≤ 2147483646 := by have := Hn.moreN_lt 1 (1 :: k); omega
  obtain ⟨c1, w1, e1, x1, s1, z1⟩ := conv_key (w.alloc (.cells #[.int .i64 (q : Int), .slice va m vc] 50)) k (by omega)
  rw [show (w.alloc (.cells #[.int .i64 (q : Int), .slice va m vc] 50)).heap.size = w.heap.size + 1 by simp] at x1
  have hb1 := (s1.block w.heap.size (by simp) (fun x => x)).trans (heap_alloc_new w (.cells #[.int .i64 (q : Int), .slice va m vc] 50))
  have hst1 : Stay (fun _ => False) w w1 := (Stay.alloc w _).trans s1
  have hz1 : w.heap.size < w1.heap.size := by have := s1.size; simp at this; omega
  obtain ⟨i0, hi, hi0, hi1, hi2⟩ := info_parts info5
  have hcells : Lib.strCells ⟨k.toArray⟩ = cellsB k := by simp [Lib.strCells, cellsB, byteV]
  have hsz : (⟨k.toArray⟩ : ByteArray).size = k.length := by simp [ByteArray.size]
  have HI := Lib.hid hi
  have HI0 := Lib.hid hi0
  have HI1 := Lib.hid hi1
  have HI2 := Lib.hid hi2
  have HCE := Lib.hid hcells
  have HSZ := Lib.hid hsz
  have HB1 := Lib.hid hb1
  have HM := Lib.hid hm
  have HA := Lib.hid hA
  have HD := Lib.hid hD
  have X1 := Lib.hid x1
  have S1 := Lib.hid hst1
  have HZ1 := Lib.hid hz1
  clear h hm hA hD x1 s1 hi hi0 hi1 hi2 hcells hsz hb1 hst1 hz1 z1
  unfold strV RV
  go_enter Tryz.func69, Tryz.ntmps69
  go_wp2_with fail
  refine (Hn.rsum_any _ _ _ X1.out).mono ?_
  rintro e w' ⟨rfl, rfl⟩
  rw [← HA.out]
  unfold Hn.u32V
  go_wp2_with (at_builtin; refine Lib.wpList_append_own_string _ rfl (.tmp 12) (.tmp 13) 26 9 rfl w1.heap.size 5 i0 Tryz.underlying26 Tryz.underlying9 HI.out HI0.out HI1.out HI2.out (.slice (some ⟨w1.heap.size, 0, none⟩) 1 1) _ _ rfl (Owns.one w1 1 w1.heap.size (Nat.le_refl _) _ rfl) ⟨k.toArray⟩ rfl (by rw [HSZ.out]; unfold maxLen; simp; omega) (by rw [HSZ.out]; simp; omega) (by simp) ?_; intro v2 w2 hown2 hgr2 hnn2)
  have ho2 : Owns w1.heap.size w2 v2 (1 :: k) := owns_join (l := [1]) hown2 HCE.out HSZ.out
  have hs2 : Stay (fun _ => False) w w2 := stay_seal (X := fun i => w1.heap.size ≤ i) ((S1.out.mono (fun _ x => x.elim)).trans ((Stay.alloc (X := fun i => w1.heap.size ≤ i) w1 _).trans (Stay.grown (X := fun i => w1.heap.size ≤ i) hgr2 (fun i hi => by cases hi; exact Nat.le_refl _)))) (fun i hi => Nat.le_trans (Nat.le_of_lt HZ1.out) hi)
  have hb2 := ((Stay.alloc (X := fun i => w1.heap.size ≤ i) w1 (.cells #[.int .u8 1] 5)).trans (Stay.grown (X := fun i => w1.heap.size ≤ i) hgr2 (fun i hi => by cases hi; exact Nat.le_refl _))).block w.heap.size HZ1.out (fun hi => by have := HZ1.out; omega)
  have hb3 := hb2.trans HB1.out
  have hz2 := hs2.size
  have hz3 : w.heap.size < w2.heap.size := lt_of_block hb3
  have HO2 := Lib.hid ho2
  have HS2 := Lib.hid hs2
  have HB2 := Lib.hid hb3
  have HZ2 := Lib.hid hz3
  clear ho2 hs2 hb2 hb3 hz2 hz3 hown2 hgr2 hnn2
  go_wp2_with fail
  refine (Hn.rsum_any _ _ _ HO2.out.slc).mono ?_
  rintro e w' ⟨rfl, rfl⟩
  rw [← HD.out]
  unfold Hn.u32V
  obtain ⟨b2, hb2⟩ : ∃ b2, b2 = w2.heap.size := ⟨_, rfl⟩
  have HBB := Lib.hid hb2
  clear hb2
  go_wp2
  go_loopw [7, 8] (fun l i wr => ∃ j : Nat, j ≤ q ∧ i = .int .i64 (j : Int) ∧ IO b2 wr l (bitsN m j k) ∧ Stay (fun i => b2 ≤ i) w2 wr) (fun _ i _ => q - (intOf i).toNat)
  case atStart => exact ⟨0, Nat.zero_le _, rfl, IO.nil _ _, Stay.refl _ _⟩
  case round =>
    obtain ⟨j, hj, rfl, ho, hst⟩ := hrel
    obtain ⟨la, lc, rfl⟩ := ho.form
    rw [bitsN_len] at ho ⊢
    have hbr := (hst.block w.heap.size HZ2.out (fun hi => by have h1 := HZ2.out; have h2 := HBB.out; omega)).trans HB2.out
    have q0 : wr.cell? ⟨w.heap.size, 0, none⟩ = some (.int .i64 (q : Int)) := by rw [cell_of_row wr _ 0 _ _ _ hbr]; rfl
    have q1 : wr.cell? ⟨w.heap.size, 1, none⟩ = some (.slice va m vc) := by rw [cell_of_row wr _ 1 _ _ _ hbr]; rfl
    have HO := Lib.hid ho
    have HST := Lib.hid hst
    clear ho hst hbr
    by_cases hlt : j < q
    · obtain ⟨T, hT⟩ : ∃ T, T = j * D := ⟨_, rfl⟩
      have hTb : T ≤ 34359738336 := by
        have h9 := Nat.mul_le_mul (show j ≤ 16 by omega) (show D ≤ 2147483646 by omega)
        omega
      have hTi : (j : Int) * (D : Int) = (T : Int) := by rw [hT]; exact (Int.natCast_mul _ _).symm
      have HV := Lib.hid (show wrap64 (((A : Int) + (T : Int)) % (m : Int)) = ((bitN m k j : Nat) : Int) by
        have h1 : ((A : Int) + (T : Int)) % (m : Int) = ((bitN m k j : Nat) : Int) := by
          rw [hT, HA.out, HD.out]
          exact (Int.natCast_emod _ _).symm
        have h3 := bitN_lt (s := m) (by omega) k j
        rw [h1]
        exact wrap_small _ (by omega) (by omega))
      clear hT
      have hszr : b2 ≤ wr.heap.size := by have h1 := HST.out.size; have h2 := HBB.out; omega
      go_wp2_with (at_builtin; refine append_i1 rfl (.tmp 22) (.tmp 37) rfl (n := bitN m k j) rfl rfl HO.out HV.out hszr (by rw [bitsN_len]; omega) ?_; intro v3 w3 ho3 hs3; obtain ⟨a3, c3, rfl⟩ := ho3.form; have HO3 := Lib.hid ho3; have HS3 := Lib.hid hs3; clear ho3 hs3)
      refine ⟨⟨j + 1, hlt, by go_num, ?_, HST.out.trans (HS3.out.mono (fun i hi => (HO.out.lt i hi).1))⟩, by simp [intOf]; omega⟩
      rw [bitsN_succ, show (bitsN m j k).length + 1 = (bitsN m j k ++ [bitN m k j]).length by simp]
      exact HO3.out
    · obtain rfl : j = q := by omega
      go_wp2
      go_ret
      refine ⟨_, rfl, ?_, stay_seal (X := fun i => w.heap.size ≤ i) ((HS2.out.mono (fun _ x => x.elim)).trans (HST.out.mono (fun i hi => by have h8 := HBB.out; have h9 := HS2.out.size; omega))) (fun i hi => hi)⟩
      exact row_base HO.out (fun i hi => by have h7 := (HO.out.lt i hi).1; have h8 := HBB.out; have h9 := HS2.out.size; omega)

end Go.Proofs.YteogdihacohkfaaGreatDoor.Bo
