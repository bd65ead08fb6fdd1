import Derived.Test.YtahfgoafiepioaaGreatDoorGaB
import Derived.Test.YtahfgoafiepioaaGreatDoorGaR
import Derived.Lib.AppendStr
/-
  The document's answer (chapter 11): New, the bits of a key.
-/
namespace Go.Proofs.YtahfgoafiepioaaGreatDoor.Bo
open Go.RowKit Pk
set_option maxRecDepth 100000

/-- The document's filter, as a value. -/
def RV (q : Nat) (v : Value) : Value := .agg #[.int .i64 (q : Int), v]

theorem rnew_end {w1 : World} {a v a0 v0 : Value} {B : Nat} (hb : w1.heap[B]? = some (.cells #[a0, v0] 44 (0, 0))) : ((w1.setCell ⟨B, 0, none⟩ a).setCell ⟨B, 1, none⟩ v).cell? ⟨B, 0, none⟩ = some a ∧ ((w1.setCell ⟨B, 0, none⟩ a).setCell ⟨B, 1, none⟩ v).cell? ⟨B, 1, none⟩ = some v := by
  obtain ⟨d0, d1, _, _⟩ := two_cells (two_set1 (two_set0 hb (u := a)) (u := v))
  exact ⟨d0, d1⟩

theorem run_append_i1 {w : World} {base : Nat} {v : Value} {L : List Nat} {n : Nat} (ty : TypeId) (hown : IO base w v L) (hb : base ≤ w.heap.size) (hn : L.length ≤ 65535) :
    ∃ v' w', (Builtin.append_ #[149, 149] ty #[v, .slice (some ⟨w.heap.size, 0, none⟩) 1 1]).run Tryz.prog (w.alloc (.cells #[.int .i64 (n : Int)] 3)) = .ok v' w' ∧ IO base w' v' (L ++ [n]) ∧ Stay (fun i => v.ownBlock = some i) w w' := by
  obtain ⟨i0, hi, hz0, hz1, hz2⟩ := info_parts infoI
  obtain ⟨v', w', hrun, h4, h5, _, _⟩ := run_append_own_at (P := Tryz.prog) (w.alloc (.cells #[.int .i64 (n : Int)] 3)) base 149 ty 3 i0 (.int .i64 0) 1 8 Tryz.underlying149 hi hz0 hz1 hz2 rfl (by decide) v L.length (cellsI L) (World.ownsRow.alloc hown _) ⟨w.heap.size, 0, none⟩ 1 1 [.int .i64 (n : Int)] rfl
    (fun j u hu => by
      have hj : j = 0 := by
        have := (List.getElem?_eq_some_iff.1 hu).1
        simp at this
        exact this
      subst hj
      cases hu
      rw [add_at, cell_of_row _ _ _ _ _ _ (heap_alloc_new w _)]
      rfl)
    (fun u hu => by rw [List.mem_singleton.1 hu]; rfl)
    (by unfold maxLen; omega) (by omega) (by simp; omega)
  refine ⟨v', w', hrun, ?_, (Stay.alloc w _).trans (Stay.grown h5 (fun k e => e))⟩
  unfold IO
  rw [List.length_append, show cellsI (L ++ [n]) = cellsI L ++ [.int .i64 (n : Int)] by simp [cellsI]]
  exact h4
section
variable {ops : Array Oper} {rest : List Oper} {o : Oper} {a : Act} {w : World} {Q : Exit → Act → World → Prop}
theorem append_i1 (hgd : o.guard = none) (s x : Operand) (ho : o.op = .call { callee := .builtin .append, args := #[s, x], argTypes := #[149, 149] })
    {base : Nat} {v : Value} {L : List Nat} {n : Nat} {z : Int} (hs : a.eval s = v) (hx : a.eval x = .slice (some ⟨w.heap.size, 0, none⟩) 1 1) (hown : IO base w v L) (hz : z = (n : Int)) (hb : base ≤ w.heap.size) (hn : L.length ≤ 65535)
    (h : ∀ v' w', IO base w' v' (L ++ [n]) → Stay (fun i => v.ownBlock = some i) w w' → wpList Tryz.prog ops Q rest (a.put o.dst v') w') : wpList Tryz.prog ops Q (o :: rest) a (w.alloc (.cells #[.int .i64 z] 3)) := by
  subst hz
  exact wpList_plain hgd fun _ hK => by
    obtain ⟨v', w', hrun, h2, h3⟩ := run_append_i1 (w := w) (n := n) o.type hown hb hn
    unfold Oper.wp execOp
    simp only [ho, resolve, invoke, builtin, Sem.run_bind, Sem.run_pure, Result.andThen_ok, List.map_toArray, List.map_cons, List.map_nil, hs, hx, hrun]
    exact hK _ _ (h v' w' h2 h3)
end

set_option maxHeartbeats 4000000 in
theorem rbits_any (w : World) (q : Nat) (v : Value) (B : List Bool) (k : List UInt8) (base : Nat) (h : TO base w v B) (h1 : 1 ≤ B.length) (h2 : B.length ≤ 1048576) (hq : q ≤ 16) (hk : k.length + 1 ≤ 140737488355328) :
    Calls Tryz.prog 83 #[RV q v, strV k] w fun e w' => ∃ v, e = .returned v ∧ IO w.heap.size w' v (bitsN B.length q k) ∧ Stay (fun _ => False) w w' := by
  obtain ⟨va, vc, rfl⟩ := h.form
  obtain ⟨m, hm⟩ : ∃ m, m = B.length := ⟨_, rfl⟩
  rw [← hm] at h1 h2 ⊢
  obtain ⟨A, hA⟩ : ∃ A, A = Hn.moreN 1 k := ⟨_, rfl⟩
  obtain ⟨D, hD⟩ : ∃ D, D = Hn.moreN 1 (1 :: k) := ⟨_, rfl⟩
  have hA1 : (A : Int) ≤ 2147483646 := by have := Hn.moreN_lt 1 k; omega
  have hD1 : (D : Int) ≤ 2147483646 := by have := Hn.moreN_lt 1 (1 :: k); omega
  obtain ⟨c1, w1, e1, x1, s1, z1⟩ := conv_key (w.alloc (.cells #[.int .i64 (q : Int), .slice va m vc] 44)) k (by omega)
  rw [show (w.alloc (.cells #[.int .i64 (q : Int), .slice va m vc] 44)).heap.size = w.heap.size + 1 by simp] at x1
  have hb1 := (s1.block w.heap.size (by simp) (fun x => x)).trans (heap_alloc_new w (.cells #[.int .i64 (q : Int), .slice va m vc] 44))
  have hst1 : Stay (fun _ => False) w w1 := (Stay.alloc w _).trans s1
  have hz1 : w.heap.size < w1.heap.size := by have := s1.size; simp at this; omega
  obtain ⟨i0, hi, hi0, hi1, hi2⟩ := info_parts info5
  have hcells : Lib.strCells ⟨k.toArray⟩ = cellsB k := by simp [Lib.strCells, cellsB, byteV]
  have hsz : (⟨k.toArray⟩ : ByteArray).size = k.length := by simp [ByteArray.size]
  have HI := Lib.hid hi
  have HI0 := Lib.hid hi0
  have HI1 := Lib.hid hi1
  have HI2 := Lib.hid hi2
  have HCE := Lib.hid hcells
  have HSZ := Lib.hid hsz
  have HB1 := Lib.hid hb1
  have HM := Lib.hid hm
  have HA := Lib.hid hA
  have HD := Lib.hid hD
  have X1 := Lib.hid x1
  have S1 := Lib.hid hst1
  have HZ1 := Lib.hid hz1
  clear h hm hA hD x1 s1 hi hi0 hi1 hi2 hcells hsz hb1 hst1 hz1 z1
  unfold strV RV
  go_enter Tryz.func83, Tryz.ntmps83
  go_wp2_with fail
  refine (Hn.rsum_any _ _ _ X1.out).mono ?_
  rintro e w' ⟨rfl, rfl⟩
  rw [← HA.out]
  unfold Hn.u32V
  go_wp2_with (at_builtin; refine Lib.wpList_append_own_string _ rfl (.tmp 12) (.tmp 13) 30 9 rfl w1.heap.size 5 i0 Tryz.underlying30 Tryz.underlying9 HI.out HI0.out HI1.out HI2.out (.slice (some ⟨w1.heap.size, 0, none⟩) 1 1) _ _ rfl (Owns.one w1 1 w1.heap.size (Nat.le_refl _) _ rfl) ⟨k.toArray⟩ rfl (by rw [HSZ.out]; unfold maxLen; simp; omega) (by rw [HSZ.out]; simp; omega) (by simp) ?_; intro v2 w2 hown2 hgr2 hnn2)
  have ho2 : Owns w1.heap.size w2 v2 (1 :: k) := owns_join (l := [1]) hown2 HCE.out HSZ.out
  have hs2 : Stay (fun _ => False) w w2 := stay_seal (X := fun i => w1.heap.size ≤ i) ((S1.out.mono (fun _ x => x.elim)).trans ((Stay.alloc (X := fun i => w1.heap.size ≤ i) w1 _).trans (Stay.grown (X := fun i => w1.heap.size ≤ i) hgr2 (fun i hi => by cases hi; exact Nat.le_refl _)))) (fun i hi => Nat.le_trans (Nat.le_of_lt HZ1.out) hi)
  have hb2 := ((Stay.alloc (X := fun i => w1.heap.size ≤ i) w1 (.cells #[.int .u8 1] 5)).trans (Stay.grown (X := fun i => w1.heap.size ≤ i) hgr2 (fun i hi => by cases hi; exact Nat.le_refl _))).block w.heap.size HZ1.out (fun hi => by have := HZ1.out; omega)
  have hb3 := hb2.trans HB1.out
  have hz2 := hs2.size
  have hz3 : w.heap.size < w2.heap.size := lt_of_block hb3
  have HO2 := Lib.hid ho2
  have HS2 := Lib.hid hs2
  have HB2 := Lib.hid hb3
  have HZ2 := Lib.hid hz3
  clear ho2 hs2 hb2 hb3 hz2 hz3 hown2 hgr2 hnn2
  go_wp2_with fail
  refine (Hn.rsum_any _ _ _ HO2.out.slc).mono ?_
  rintro e w' ⟨rfl, rfl⟩
  rw [← HD.out]
  unfold Hn.u32V
  obtain ⟨b2, hb2⟩ : ∃ b2, b2 = w2.heap.size := ⟨_, rfl⟩
  have HBB := Lib.hid hb2
  clear hb2
  go_wp2
  go_loopw [7, 8] (fun l i wr => ∃ j : Nat, j ≤ q ∧ i = .int .i64 (j : Int) ∧ IO b2 wr l (bitsN m j k) ∧ Stay (fun i => b2 ≤ i) w2 wr) (fun _ i _ => q - (intOf i).toNat)
  case atStart => exact ⟨0, Nat.zero_le _, rfl, IO.nil _ _, Stay.refl _ _⟩
  case round =>
    obtain ⟨j, hj, rfl, ho, hst⟩ := hrel
    obtain ⟨la, lc, rfl⟩ := ho.form
    rw [bitsN_len] at ho ⊢
    have hbr := (hst.block w.heap.size HZ2.out (fun hi => by have h1 := HZ2.out; have h2 := HBB.out; omega)).trans HB2.out
    have q0 : wr.cell? ⟨w.heap.size, 0, none⟩ = some (.int .i64 (q : Int)) := by rw [cell_of_row wr _ 0 _ _ _ hbr]; rfl
    have q1 : wr.cell? ⟨w.heap.size, 1, none⟩ = some (.slice va m vc) := by rw [cell_of_row wr _ 1 _ _ _ hbr]; rfl
    have HO := Lib.hid ho
    have HST := Lib.hid hst
    clear ho hst hbr
    by_cases hlt : j < q
    · obtain ⟨T, hT⟩ : ∃ T, T = j * D := ⟨_, rfl⟩
      have hTb : T ≤ 34359738336 := by
        have h9 := Nat.mul_le_mul (show j ≤ 16 by omega) (show D ≤ 2147483646 by omega)
        omega
      have hTi : (j : Int) * (D : Int) = (T : Int) := by rw [hT]; exact (Int.natCast_mul _ _).symm
      have HV := Lib.hid (show wrap64 (((A : Int) + (T : Int)) % (m : Int)) = ((bitN m k j : Nat) : Int) by
        have h1 : ((A : Int) + (T : Int)) % (m : Int) = ((bitN m k j : Nat) : Int) := by
          rw [hT, HA.out, HD.out]
          exact (Int.natCast_emod _ _).symm
        have h3 := bitN_lt (s := m) (by omega) k j
        rw [h1]
        exact wrap_small _ (by omega) (by omega))
      clear hT
      have hszr : b2 ≤ wr.heap.size := by have h1 := HST.out.size; have h2 := HBB.out; omega
      go_wp2_with (at_builtin; refine append_i1 rfl (.tmp 22) (.tmp 37) rfl (n := bitN m k j) rfl rfl HO.out HV.out hszr (by rw [bitsN_len]; omega) ?_; intro v3 w3 ho3 hs3; obtain ⟨a3, c3, rfl⟩ := ho3.form; have HO3 := Lib.hid ho3; have HS3 := Lib.hid hs3; clear ho3 hs3)
      refine ⟨⟨j + 1, hlt, by go_num, ?_, HST.out.trans (HS3.out.mono (fun i hi => (HO.out.lt i hi).1))⟩, by simp [intOf]; omega⟩
      rw [bitsN_succ, show (bitsN m j k).length + 1 = (bitsN m j k ++ [bitN m k j]).length by simp]
      exact HO3.out
    · obtain rfl : j = q := by omega
      go_wp2
      go_ret
      refine ⟨_, rfl, ?_, stay_seal (X := fun i => w.heap.size ≤ i) ((HS2.out.mono (fun _ x => x.elim)).trans (HST.out.mono (fun i hi => by have h8 := HBB.out; have h9 := HS2.out.size; omega))) (fun i hi => hi)⟩
      exact row_base HO.out (fun i hi => by have h7 := (HO.out.lt i hi).1; have h8 := HBB.out; have h9 := HS2.out.size; omega)

end Go.Proofs.YtahfgoafiepioaaGreatDoor.Bo

/-
  The document's answer (chapter 11): whether a key may be there; a key laid in; how many bits are set.
-/
namespace Go.Proofs.YtahfgoafiepioaaGreatDoor.Bo
open Go.RowKit Pk
set_option maxRecDepth 100000

theorem getD_of {B : List Bool} {n : Nat} (h : n < B.length) : B[n]? = some (B.getD n false) := by
  rw [List.getD_eq_getElem?_getD, List.getElem?_eq_getElem h]
  rfl

set_option maxHeartbeats 4000000 in
theorem rmay_any (w : World) (q : Nat) (v : Value) (B : List Bool) (k : List UInt8) (base : Nat) (h : TO base w v B) (h1 : 1 ≤ B.length) (h2 : B.length ≤ 1048576) (hq : q ≤ 16) (hk : k.length + 1 ≤ 140737488355328) :
    Calls Tryz.prog 44 #[RV q v, strV k] w fun e w' => e = .returned (.bool (mayB B (bitsN B.length q k))) ∧ Stay (fun _ => False) w w' := by
  obtain ⟨gb, vc, rfl, hgb1, hgb2⟩ := h.at (by omega)
  have hb := fun (w : World) (h : TO base w (.slice (some ⟨gb, 0, none⟩) B.length vc) B) => rbits_any w q _ B k base h h1 h2 hq hk
  obtain ⟨l, hl⟩ : ∃ l, l = bitsN B.length q k := ⟨_, rfl⟩
  have hlq : l.length = q := by rw [hl, bitsN_len]
  have HLB := Lib.hid (show ∀ n ∈ l, n < B.length from fun n hn => bitsN_lt h1 (hl ▸ hn))
  rw [← hl] at hb ⊢
  obtain ⟨m, hm⟩ : ∃ m, m = B.length := ⟨_, rfl⟩
  obtain ⟨M, hM⟩ : ∃ M, M = mayB B l := ⟨_, rfl⟩
  rw [← hM]
  rw [← hm] at hb h h1 h2 HLB ⊢
  have HBI := Lib.hid hb
  have HMA := Lib.hid hM
  have H := Lib.hid h
  have HM := Lib.hid hm
  clear hl hb hM h hm
  unfold RV
  go_enter Tryz.func44, Tryz.ntmps44
  go_wp2_with fail
  refine (HBI.out _ (H.out.stay0 (Stay.alloc _ _))).mono ?_
  rintro e w1 ⟨lv, rfl, ho, hs⟩
  obtain ⟨la, lc, rfl⟩ := ho.form
  have hst1 : Stay (fun _ => False) w w1 := (Stay.alloc w _).trans hs
  have hb1 := (hs.block w.heap.size (by simp) (fun x => x)).trans (heap_alloc_new w _)
  have HQ1 := Lib.hid (show w1.cell? ⟨w.heap.size, 1, none⟩ = some (.slice (some ⟨gb, 0, none⟩) m vc) by rw [cell_of_row w1 _ 1 _ _ _ hb1]; rfl)
  rw [hlq] at ho ⊢
  have HO := Lib.hid ho
  have HL := Lib.hid hlq
  have HS := Lib.hid hst1
  have HT := Lib.hid (H.out.stay0 hst1)
  clear ho hs hb1 hst1 hlq
  go_wp2
  go_loopw [6] (fun i wr => ∃ j : Nat, j ≤ q ∧ i = .int .i64 (j : Int) ∧ mayB B (l.take j) = true ∧ Stay (fun _ => False) w1 wr) (fun i _ => q - (intOf i).toNat)
  case atStart => exact ⟨0, Nat.zero_le _, rfl, rfl, Stay.refl _ _⟩
  case round =>
    obtain ⟨j, hj, rfl, hmj, hst⟩ := hrel
    have HMJ := Lib.hid hmj
    have HST := Lib.hid hst
    have q1 := hst.cell HQ1.out (fun x => x)
    clear hmj hst
    by_cases hlt : j < q
    · obtain ⟨n, hn⟩ : ∃ n, l[j]? = some n := ⟨_, List.getElem?_eq_getElem (by have := HL.out; omega)⟩
      have hnB := HLB.out n (List.mem_of_getElem? hn)
      obtain ⟨gi, ic, hie, _, _⟩ := row_at HO.out (by rw [HL.out]; omega)
      rw [HL.out] at hie
      cases hie
      have ci := IO.cell' HL.out.symm (HO.out.stay0 HST.out) hn
      have hbn := getD_of (B := B) (n := n) (by rw [← HM.out]; exact hnB)
      have cb := TO.cell' HM.out (HT.out.stay0 HST.out) hbn
      have HN := Lib.hid hn
      clear hn hbn
      cases hbit : B.getD n false
      · rw [hbit] at cb
        have HBIT := Lib.hid hbit
        clear hbit
        go_wp2
        go_region
        have HSD := Lib.hid (HS.out.trans (HST.out.trans (Stay.drew (X := fun _ => False) (w := wr))))
        generalize wr.drew = wd at *
        go_wp2
        go_ret
        exact ⟨by rw [HMA.out, mayB_no HN.out HBIT.out]; rfl, HSD.out⟩
      · rw [hbit] at cb
        have HBIT := Lib.hid hbit
        clear hbit
        go_wp2
        go_region
        have HSD := Lib.hid (HST.out.trans (Stay.drew (X := fun _ => False) (w := wr)))
        generalize wr.drew = wd at *
        go_wp2
        exact ⟨⟨j + 1, hlt, by go_num, mayB_succ HMJ.out HN.out HBIT.out, HSD.out⟩, by simp [intOf]; omega⟩
    · obtain rfl : j = q := by omega
      go_wp2
      go_ret
      rw [HMA.out]
      have := HMJ.out
      rw [show l.take j = l from List.take_of_length_le (by rw [HL.out]; exact Nat.le_refl _)] at this
      exact ⟨by rw [this]; rfl, HS.out.trans HST.out⟩

end Go.Proofs.YtahfgoafiepioaaGreatDoor.Bo

/-
  The document's answer (chapter 11): a key laid in.
-/
namespace Go.Proofs.YtahfgoafiepioaaGreatDoor.Bo
open Go.RowKit Pk
set_option maxRecDepth 100000

theorem run_append_T {w : World} {base gb vc : Nat} {B : List Bool} (ty : TypeId) (hx : TO base w (.slice (some ⟨gb, 0, none⟩) B.length vc) B) (hn : B.length ≤ 1048576) :
    ∃ v' w', (Builtin.append_ #[42, 42] ty #[.slice none 0 0, .slice (some ⟨gb, 0, none⟩) B.length vc]).run Tryz.prog w = .ok v' w' ∧ TO w.heap.size w' v' B ∧ Stay (fun _ => False) w w' := by
  obtain ⟨i0, hi, hz0, hz1, hz2⟩ := info_parts infoB
  obtain ⟨v', w', hrun, h4, h5, _, h7⟩ := run_append_own_at (P := Tryz.prog) w w.heap.size 42 ty 4 i0 (.bool false) 1 1 Tryz.underlying42 hi hz0 hz1 hz2 rfl (by decide) (.slice none 0 0) 0 [] (World.ownsRow_nil w w.heap.size _ _) ⟨gb, 0, none⟩ B.length vc (cellsT B) (by rw [len_T, Nat.mul_one])
    (fun j u hu => by
      rw [add_at, Nat.zero_add]
      exact row_cell hx hu)
    (fun u hu => by
      obtain ⟨i, _, rfl⟩ := List.mem_map.1 hu
      rfl)
    (by unfold maxLen; omega) (by omega) (Nat.le_refl _)
  rw [Nat.zero_add, List.nil_append] at h4
  exact ⟨v', w', hrun, h4, Stay.grown (X := fun _ => False) h5 (fun k (e : (Value.slice none 0 0).ownBlock = some k) => by cases e)⟩
section
variable {ops : Array Oper} {rest : List Oper} {o : Oper} {a : Act} {w : World} {Q : Exit → Act → World → Prop}
theorem append_T (hgd : o.guard = none) (s x : Operand) (ho : o.op = .call { callee := .builtin .append, args := #[s, x], argTypes := #[42, 42] })
    {base gb m vc : Nat} {B : List Bool} (hm : m = B.length) (hs : a.eval s = .slice none 0 0) (hx : a.eval x = .slice (some ⟨gb, 0, none⟩) m vc) (hown : TO base w (.slice (some ⟨gb, 0, none⟩) m vc) B) (hn : B.length ≤ 1048576)
    (h : ∀ v' w', TO w.heap.size w' v' B → Stay (fun _ => False) w w' → wpList Tryz.prog ops Q rest (a.put o.dst v') w') : wpList Tryz.prog ops Q (o :: rest) a w := by
  subst hm
  exact wpList_plain hgd fun _ hK => by
    obtain ⟨v', w', hrun, h2, h3⟩ := run_append_T (w := w) o.type hown hn
    unfold Oper.wp execOp
    simp only [ho, resolve, invoke, builtin, Sem.run_bind, Sem.run_pure, Result.andThen_ok, List.map_toArray, List.map_cons, List.map_nil, hs, hx, hrun]
    exact hK _ _ (h v' w' h2 h3)
end

end Go.Proofs.YtahfgoafiepioaaGreatDoor.Bo

/-
  The document's answer (chapter 11): a filter as bytes.
-/
namespace Go.Proofs.YtahfgoafiepioaaGreatDoor.Bo
open Go.RowKit Pk
set_option maxRecDepth 100000

/-- The first i bits, and no others. -/
def midB (B : List Bool) (i : Nat) : List Bool := B.take i ++ List.replicate (B.length - i) false
theorem midB_len {B : List Bool} {i : Nat} (h : i ≤ B.length) : (midB B i).length = B.length := by
  unfold midB
  rw [List.length_append, List.length_take, List.length_replicate]
  omega
theorem midB_at {B : List Bool} {i : Nat} (h : i ≤ B.length) (n : Nat) : (midB B i).getD n false = (decide (n < i) && B.getD n false) := by
  unfold midB
  by_cases hn : n < i
  · rw [decide_eq_true hn, Bool.true_and, List.getD_eq_getElem?_getD, List.getElem?_append_left (by rw [List.length_take]; omega), List.getElem?_take_of_lt hn, List.getD_eq_getElem?_getD]
  · rw [decide_eq_false hn, Bool.false_and, List.getD_eq_getElem?_getD, List.getElem?_append_right (by rw [List.length_take]; omega), List.getElem?_replicate]
    split <;> rfl
theorem midB_zero (B : List Bool) : midB B 0 = List.replicate B.length false := by simp [midB]
theorem midB_all (B : List Bool) : midB B B.length = B := by simp [midB]
theorem midB_no {B : List Bool} {i : Nat} (h : i < B.length) (hb : B.getD i false = false) : midB B (i + 1) = midB B i := by
  refine bits_eq (by rw [midB_len h, midB_len (Nat.le_of_lt h)]) (fun n => ?_)
  rw [midB_at h, midB_at (Nat.le_of_lt h)]
  by_cases e : n = i
  · subst e; rw [hb]; simp
  · have : decide (n < i + 1) = decide (n < i) := by
      by_cases h1 : n < i
      · rw [decide_eq_true h1, decide_eq_true (by omega)]
      · rw [decide_eq_false h1, decide_eq_false (by omega)]
    rw [this]
theorem midB_yes {B : List Bool} {i : Nat} (h : i < B.length) (hb : B.getD i false = true) : midB B (i + 1) = (midB B i).set i true := by
  refine bits_eq (by rw [midB_len h, List.length_set, midB_len (Nat.le_of_lt h)]) (fun n => ?_)
  rw [midB_at h, getD_set (by rw [midB_len (Nat.le_of_lt h)]; exact h), midB_at (Nat.le_of_lt h)]
  by_cases e : n = i
  · subst e; rw [if_pos rfl, hb]; simp
  · have : decide (n < i + 1) = decide (n < i) := by
      by_cases h1 : n < i
      · rw [decide_eq_true h1, decide_eq_true (by omega)]
      · rw [decide_eq_false h1, decide_eq_false (by omega)]
    rw [if_neg e, this]

theorem plus_table : ∀ c : Fin 256, ∀ j : Fin 8, c.val.testBit j.val = false → (((c.val : Nat) : Int) + (2 : Int) ^ j.val) % 256 = ((c.val ||| 2 ^ j.val : Nat) : Int) := by decide +kernel

end Go.Proofs.YtahfgoafiepioaaGreatDoor.Bo

/-
  The document's answer (chapter 11): the filter of bytes.
-/
namespace Go.Proofs.YtahfgoafiepioaaGreatDoor.Bo
open Go.RowKit Pk
set_option maxRecDepth 100000

theorem midB_set {B : List Bool} {i : Nat} (h : i < B.length) : (midB B i).set i (B.getD i false) = midB B (i + 1) := by
  cases hb : B.getD i false
  · rw [midB_no h hb]
    refine bits_eq (by rw [List.length_set]) (fun n => ?_)
    rw [getD_set (by rw [midB_len (Nat.le_of_lt h)]; exact h), midB_at (Nat.le_of_lt h)]
    by_cases e : n = i
    · subst e; simp
    · rw [if_neg e]
  · exact (midB_yes h hb).symm
theorem rem_table : ∀ c : Fin 256, ∀ j : Fin 8, (((((c.val : Nat) : Int) / (2 : Int) ^ j.val).tmod 2) == 1) = c.val.testBit j.val := by decide +kernel
theorem rdone_at (s : RS) (w : World) (x : Value) (hx : Slc w x s.b) : Calls Tryz.prog 37 #[.agg #[x, .int .i64 (s.err : Int)]] w fun e w' => e = .returned (.int .i64 (doneB s : Nat)) ∧ Stay (fun _ => False) w w' := rdone_ref s.b s.err w x hx

theorem run_make_boolU (w : World) (n : Nat) (hn : n ≤ 4294967296) : (Instr.makeSlice 42 (.int .u64 (n : Int)) (.int .u64 (n : Int))).run Tryz.prog w = .ok (.slice (some ⟨w.heap.size, 0, none⟩) n n) (w.alloc (.cells (cellsT (List.replicate n false)).toArray 4)) := by
  obtain ⟨i0, hi, hz0, hz1, hz2⟩ := info_parts infoB
  have hm := run_make (P := Tryz.prog) w 42 4 i0 (.bool false) Tryz.underlying42 hi hz0 .u64 .u64 n n (by omega) (Int.le_refl _) (by rw [hz2]; omega) (by omega)
  rw [hz1, Int.toNat_natCast, Nat.mul_one, made_one _ rfl] at hm
  rw [show cellsT (List.replicate n false) = List.replicate n (.bool false) by simp [cellsT]]
  exact hm
section
variable {ops : Array Oper} {rest : List Oper} {o : Oper} {a : Act} {w : World} {Q : Exit → Act → World → Prop}
theorem make_boolU (hgd : o.guard = none) (x y : Operand) (ho : o.op = .makeSlice 42 x y) (n : Nat) (hx : a.eval x = .int .u64 (n : Int)) (hy : a.eval y = .int .u64 (n : Int)) (hn : n ≤ 4294967296)
    (h : ∀ w1, TO w.heap.size w1 (.slice (some ⟨w.heap.size, 0, none⟩) n n) (List.replicate n false) → Stay (fun _ => False) w w1 → w1.heap.size = w.heap.size + 1 → wpList Tryz.prog ops Q rest (a.put o.dst (.slice (some ⟨w.heap.size, 0, none⟩) n n)) w1) : wpList Tryz.prog ops Q (o :: rest) a w :=
  wpList_plain hgd fun _ hK => by
    unfold Oper.wp execOp
    simp only [ho, hx, hy, Sem.run_bind, Sem.run_pure, run_make_boolU w n hn, Result.andThen_ok]
    refine hK _ _ (h _ ?_ (Stay.alloc _ _) (by simp))
    have := row_made w 4 (cellsT (List.replicate n false)) (by rw [len_T]; unfold maxLen; simp; omega)
    rw [len_T] at this
    unfold TO
    rw [List.length_replicate] at this ⊢
    exact this
end
theorem slc_stay {X : Nat → Prop} {w w' : World} {x : Value} {b : List UInt8} (h : Slc w x b) (hs : Stay X w w') (hx : 0 < b.length → ∀ k, x.ownBlock = some k → ¬ X k) : Slc w' x b := by
  obtain ⟨a0, c, rfl, hr, hn⟩ := h
  exact ⟨a0, c, rfl, hr.stay hs (fun h0 ad ha => hx h0 ad.block (by rw [ha]; rfl)), hn⟩
/-- A slice that reads as bytes, which lie in elder blocks. -/
structure In0 (B : Nat) (w : World) (x : Value) (b : List UInt8) : Prop where
  slc : Slc w x b
  lt : 0 < b.length → ∀ k, x.ownBlock = some k → k < B
theorem In0.stay {B : Nat} {w w' : World} {x : Value} {b : List UInt8} (h : In0 B w x b) (hs : Stay (fun k => B ≤ k) w w') : In0 B w' x b :=
  ⟨slc_stay h.slc hs (fun h0 k hk hB => by have := h.lt h0 k hk; omega), h.lt⟩
theorem In0.sub {B : Nat} {w w' : World} {x y : Value} {b c : List UInt8} (h : In0 B w x b) (hy : Sub w' x y c) (hl : c.length ≤ b.length) : In0 B w' y c :=
  ⟨hy.1, fun h0 k hk => h.lt (by omega) k (hy.2 k hk)⟩
theorem In0.form {B : Nat} {w : World} {x : Value} {b : List UInt8} (h : In0 B w x b) : ∃ a c, x = .slice a b.length c := by
  obtain ⟨a, c, e, _⟩ := h.slc
  exact ⟨a, c, e⟩
theorem take_text_len (m : Int) (s : RS) : (takeB (textB m) [] s).1.length ≤ s.b.length ∧ (takeB (textB m) [] s).2.b.length ≤ s.b.length := by
  by_cases he : s.err = 0
  · cases hv : textB m s.b with
    | error c => rw [takeB_error he hv]; exact ⟨Nat.zero_le _, Nat.le_refl _⟩
    | ok p =>
      obtain ⟨v, r⟩ := p
      rw [takeB_ok he hv]
      obtain ⟨r1, h1, _, h3, h4, _⟩ := text_of hv
      have := numB_len h1
      refine ⟨by show v.length ≤ s.b.length; omega, ?_⟩
      show r.length ≤ s.b.length
      rw [h3, List.length_drop]
      omega
  · rw [takeB_bad he]; exact ⟨Nat.zero_le _, Nat.le_refl _⟩
/-- A block of two cells written anew. -/
theorem two_put {w : World} {B : Nat} {a0 v0 a v : Value} {t : TypeId} (h : w.heap[B]? = some (.cells #[a0, v0] t (0, 0))) : ((w.setCell ⟨B, 0, none⟩ a).setCell ⟨B, 1, none⟩ v).heap[B]? = some (.cells #[a, v] t (0, 0)) := two_set1 (two_set0 h (u := a)) (u := v)
theorem stay_put {X : Nat → Prop} (w : World) (B : Nat) (a v : Value) (h : X B) : Stay X w ((w.setCell ⟨B, 0, none⟩ a).setCell ⟨B, 1, none⟩ v) :=
  ((Stay.setCell (X := fun k => k = B) w ⟨B, 0, none⟩ a rfl).trans (Stay.setCell (X := fun k => k = B) _ ⟨B, 1, none⟩ v rfl)).mono (fun k (e : k = B) => e ▸ h)

/-- What the document's Decode answers. -/
def RDecRet (w w' : World) (b : List UInt8) (e : Ending) : Prop :=
  if goodB b = true then ∃ u, e = .returned (.tuple #[RV (decK b).1 u, .int .i64 0]) ∧ TO w.heap.size w' u (decBits b) else e = .returned (.tuple #[RV 0 (.slice none 0 0), .int .i64 3])

set_option maxHeartbeats 4000000 in
theorem rdecode_any (w : World) (v : Value) (b : List UInt8) (hv : Slc w v b) (hlen : b.length ≤ 140737488355328) :
    Calls Tryz.prog 36 #[v] w fun e w' => RDecRet w w' b e ∧ Stay (fun _ => False) w w' := by
  obtain ⟨R, hR⟩ : ∃ R : World → Ending → Prop, R = fun w' e => RDecRet w w' b e := ⟨_, rfl⟩
  have HRB := Lib.hid (show ∀ w', goodB b = false → R w' (.returned (.tuple #[.agg #[.int .i64 0, .slice none 0 0], .int .i64 3])) by
    intro w' hg
    rw [hR]
    show RDecRet _ _ _ _
    unfold RDecRet
    rw [if_neg (by rw [hg]; decide)]
    rfl)
  have HRG := Lib.hid (show ∀ w' u, goodB b = true → TO w.heap.size w' u (bitsOf (decA b).1 (rX b).1) → R w' (.returned (.tuple #[.agg #[.int .i64 ((decK b).1 : Nat), u], .int .i64 0])) by
    intro w' u hg h1
    rw [hR]
    show RDecRet _ _ _ _
    unfold RDecRet
    rw [if_pos hg]
    rw [good_rx hg] at h1
    exact ⟨u, rfl, h1⟩)
  rw [show (fun e w' => RDecRet w w' b e ∧ Stay (fun _ => False) w w') = fun e w' => R w' e ∧ Stay (fun _ => False) w w' by rw [hR]]
  clear hR
  obtain ⟨G, hG⟩ : ∃ G, G = goodB b := ⟨_, rfl⟩
  rw [← hG] at HRB HRG
  rw [good_r] at hG
  have hnl := Good.nle (b := b)
  have hkl := Good.kle (b := b)
  have hA : decA b = takeB (numB 1048576) 0 ⟨b, 0⟩ := rfl
  have hK : decK b = takeB (numB 16) 0 (decA b).2 := rfl
  have hX : rX b = takeB (textB (b.length : Int)) [] (decK b).2 := rfl
  generalize rX b = DX at *
  generalize decK b = DK at *
  generalize decA b = DA at *
  obtain ⟨n, ba, ea⟩ := DA
  obtain ⟨k, bk, ek⟩ := DK
  obtain ⟨x, bx, ex⟩ := DX
  dsimp only at *
  have HG := Lib.hid hG
  have HA := Lib.hid hA
  have HK := Lib.hid hK
  have HX := Lib.hid hX
  have hal := take_b_len 1048576 ⟨b, 0⟩
  rw [← hA] at hal
  have hkb := take_b_len 16 ⟨ba, ea⟩
  rw [← hK] at hkb
  have hxb := take_text_len (b.length : Int) ⟨bk, ek⟩
  rw [← hX] at hxb
  dsimp only at hal hkb hxb
  have HAL := Lib.hid hal
  have HKB := Lib.hid hkb
  have HXB := Lib.hid hxb
  have hin : In0 w.heap.size w v b := ⟨hv, fun h0 => hv.blk_lt h0⟩
  have HIN := Lib.hid hin
  have HV := Lib.hid hv
  obtain ⟨va, vc, rfl, _, _, hcap, hcm⟩ := hv
  have hbl : (b.length : Int) ≤ 9223372036854775807 := by omega
  have hs0 : Stay (fun _ => False) w (w.alloc (.cells #[.int .i64 0, .slice none 0 0] 44)) := Stay.alloc _ _
  have HC1 := Lib.hid (rruint_at b 0 1048576 1048576 (w.alloc (.cells #[.int .i64 0, .slice none 0 0] 44)) (.slice va b.length vc) (.agg #[.slice va b.length vc, .int .i64 0]) rfl rfl (HV.out.stay0 hs0) (by unfold M64; omega))
  have HR0 := Lib.hid (heap_alloc_new w (.cells #[.int .i64 0, .slice none 0 0] 44))
  have HS0 := Lib.hid hs0
  clear hG hA hK hX hs0 hal hkb hxb hin
  go_enter Tryz.func36, Tryz.ntmps36
  go_wp2_with fail
  refine HC1.out.mono ?_
  rw [← HA.out]
  rintro e w1 ⟨⟨x1, rfl, hx1⟩, hs1⟩
  dsimp only at hx1 ⊢
  obtain ⟨a1, c1, rfl⟩ : ∃ a1 c1, x1 = .slice a1 ba.length c1 := by obtain ⟨a, c, e, _⟩ := hx1.1; exact ⟨a, c, e⟩
  have hS1 : Stay (fun _ => False) w w1 := HS0.out.trans hs1
  have hz1 : w.heap.size < w1.heap.size := by have := hs1.size; simp at this; omega
  have HIN1 := Lib.hid ((HIN.out.stay (hS1.mono (fun _ x => x.elim))).sub hx1 HAL.out)
  have HS1 := Lib.hid hS1
  have HR1 := Lib.hid ((hs1.block w.heap.size (by simp) (fun x => x)).trans HR0.out)
  obtain ⟨B, hB⟩ : ∃ B, B = w1.heap.size := ⟨_, rfl⟩
  have hBw : w.heap.size < B := by omega
  have HBW := Lib.hid hBw
  have hb2 := heap_alloc_new w1 (.cells #[.slice a1 ba.length c1, .int .i64 (ea : Int)] 84)
  rw [← hB] at hb2
  have HB2 := Lib.hid hb2
  have HB := Lib.hid hB
  clear hx1 hs1 hS1 hz1 hBw hb2 hB
  unfold rdV u64V
  go_wp2_with fail
  refine (rruint_at ba ea 16 16 _ (.slice a1 ba.length c1) _ rfl rfl (HIN1.out.slc.stay0 (Stay.alloc _ _)) (by unfold M64; omega)).mono ?_
  rw [← HK.out, ← HB.out]
  rintro e w2 ⟨⟨x2, rfl, hx2⟩, hs2⟩
  dsimp only at hx2 ⊢
  have hin2 : In0 w.heap.size w2 x2 bk := (HIN1.out.stay (((Stay.alloc w1 _).trans hs2).mono (fun _ x => x.elim))).sub hx2 HKB.out
  obtain ⟨a2, c2, rfl⟩ := hin2.form
  have hS2 : Stay (fun _ => False) w w2 := HS1.out.trans ((Stay.alloc w1 _).trans hs2)
  have hbr := (hs2.block B (lt_of_block HB2.out) (fun x => x)).trans HB2.out
  obtain ⟨r0, r1, f0, f1⟩ := two_cells hbr
  have HR2 := Lib.hid (((Stay.alloc (X := fun _ => False) w1 _).trans hs2 |>.block w.heap.size (lt_of_block HR1.out) (fun x => x)).trans HR1.out)
  obtain ⟨w3, hw3⟩ : ∃ w3, w3 = (w2.setCell ⟨B, 0, none⟩ (.slice a2 bk.length c2)).setCell ⟨B, 1, none⟩ (.int .i64 (ek : Int)) := ⟨_, rfl⟩
  have hs3 : Stay (fun k => k = B) w2 w3 := by rw [hw3]; exact stay_put w2 B _ _ rfl
  have HB3 := Lib.hid (show w3.heap[B]? = some (.cells #[.slice a2 bk.length c2, .int .i64 (ek : Int)] 84 (0, 0)) by rw [hw3]; exact two_put hbr)
  have HS3 := Lib.hid (show Stay (fun _ => False) w w3 from stay_seal (X := fun k => w.heap.size ≤ k) ((hS2.mono (fun _ x => x.elim)).trans (hs3.mono (fun k (e : k = B) => by have := HBW.out; omega))) (fun k hk => hk))
  have HIN3 := Lib.hid (hin2.stay (hs3.mono (fun k (e : k = B) => by have := HBW.out; omega)))
  have HR3 := Lib.hid ((hs3.block w.heap.size (lt_of_block HR2.out) (fun (e : w.heap.size = B) => by have := HBW.out; omega)).trans HR2.out)
  have HW3 := Lib.hid hw3
  clear hin2 hS2 hbr hs3 hw3 hs2 hx2
  unfold rdV u64V
  go_wp2_with fail
  rw [← HW3.out]
  clear r0 r1 f0 f1
  refine (rrbytes_any bk ek (b.length : Int) w3 (.slice a2 bk.length c2) HIN3.out.slc (by omega)).mono ?_
  rw [← HX.out]
  rintro e w4 ⟨⟨x3, y3, rfl, hx3, hy3⟩, hs4⟩
  dsimp only at hx3 hy3 ⊢
  have hin3 : In0 w.heap.size w4 x3 bx := (HIN3.out.stay (hs4.mono (fun _ x => x.elim))).sub hx3 HXB.out.2
  have hin4 : In0 w.heap.size w4 y3 x := (HIN3.out.stay (hs4.mono (fun _ x => x.elim))).sub hy3 HXB.out.1
  obtain ⟨a3, c3, rfl⟩ := hin3.form
  obtain ⟨a4, c4, rfl⟩ := hin4.form
  have hbr := (hs4.block B (lt_of_block HB3.out) (fun x => x)).trans HB3.out
  obtain ⟨r0, r1, f0, f1⟩ := two_cells hbr
  obtain ⟨w5, hw5⟩ : ∃ w5, w5 = (w4.setCell ⟨B, 0, none⟩ (.slice a3 bx.length c3)).setCell ⟨B, 1, none⟩ (.int .i64 (ex : Int)) := ⟨_, rfl⟩
  have hs5 : Stay (fun k => k = B) w4 w5 := by rw [hw5]; exact stay_put w4 B _ _ rfl
  have HS5 := Lib.hid (show Stay (fun _ => False) w w5 from stay_seal (X := fun k => w.heap.size ≤ k) (((HS3.out.trans hs4).mono (fun _ x => x.elim)).trans (hs5.mono (fun k (e : k = B) => by have := HBW.out; omega))) (fun k hk => hk))
  have HIN5 := Lib.hid (hin3.stay (hs5.mono (fun k (e : k = B) => by have := HBW.out; omega)))
  have HX5 := Lib.hid (hin4.stay (hs5.mono (fun k (e : k = B) => by have := HBW.out; omega)))
  have HR5 := Lib.hid ((hs5.block w.heap.size (lt_of_block ((hs4.block _ (lt_of_block HR3.out) (fun x => x)).trans HR3.out)) (fun (e : w.heap.size = B) => by have := HBW.out; omega)).trans ((hs4.block _ (lt_of_block HR3.out) (fun x => x)).trans HR3.out))
  have HW5 := Lib.hid hw5
  clear hin3 hin4 hbr hs5 hw5 hs4 hx3 hy3
  unfold rdV
  go_wp2_with fail
  rw [← HW5.out]
  clear r0 r1 f0 f1
  refine (rdone_at ⟨bx, ex⟩ w5 (.slice a3 bx.length c3) HIN5.out.slc).mono ?_
  rintro e w6 ⟨rfl, hs6⟩
  have HS6 := Lib.hid (HS5.out.trans hs6)
  have HX6 := Lib.hid (HX5.out.stay (hs6.mono (fun _ x => x.elim)))
  have hr6 := (hs6.block _ (lt_of_block HR5.out) (fun x => x)).trans HR5.out
  obtain ⟨r0, r1, f0, f1⟩ := two_cells hr6
  have HR6 := Lib.hid hr6
  clear hs6 hr6
  have hxl : (x.length : Int) ≤ 9223372036854775807 := by have := HXB.out.1; have := HKB.out; have := HAL.out; omega
  obtain ⟨dn, hdn⟩ : ∃ dn, dn = doneB ⟨bx, ex⟩ := ⟨_, rfl⟩
  rw [← hdn] at HG ⊢
  clear hdn
  by_cases hd : dn = 0
  · subst hd
    by_cases hn0 : n = 0
    · have HGF := Lib.hid (show G = false by rw [HG.out, decide_eq_false (p := 1 ≤ n) (by omega)]; simp)
      subst hn0
      go_wp2
      obtain ⟨d0, d1⟩ := rnew_end (a := .int .i64 0) (v := .slice none 0 0) HR6.out
      have hsE : Stay (fun _ => False) w ((w6.setCell ⟨w.heap.size, 0, none⟩ (.int .i64 0)).setCell ⟨w.heap.size, 1, none⟩ (.slice none 0 0)) := stay_set2 HS6.out (Nat.le_refl _) _ _
      exact bodyPost_ret (v := .tuple #[.agg #[.int .i64 0, .slice none 0 0], .int .i64 3]) (by simp [results, Tryz.results36, go_sem, d0, d1]) rfl ⟨HRB.out _ HGF.out, hsE⟩
    · have hn1 : 1 ≤ n := by omega
      have hnz : ((n : Int) == 0) = false := beq_eq_false_iff_ne.2 (by omega)
      by_cases hk0 : k = 0
      · have HGF := Lib.hid (show G = false by rw [HG.out, decide_eq_false (p := 1 ≤ k) (by omega)]; simp)
        subst hk0
        go_wp2
        obtain ⟨d0, d1⟩ := rnew_end (a := .int .i64 0) (v := .slice none 0 0) HR6.out
        have hsE : Stay (fun _ => False) w ((w6.setCell ⟨w.heap.size, 0, none⟩ (.int .i64 0)).setCell ⟨w.heap.size, 1, none⟩ (.slice none 0 0)) := stay_set2 HS6.out (Nat.le_refl _) _ _
        exact bodyPost_ret (v := .tuple #[.agg #[.int .i64 0, .slice none 0 0], .int .i64 3]) (by simp [results, Tryz.results36, go_sem, d0, d1]) rfl ⟨HRB.out _ HGF.out, hsE⟩
      · have hk1 : 1 ≤ k := by omega
        have hkz : ((k : Int) == 0) = false := beq_eq_false_iff_ne.2 (by omega)
        have hnd : ((n : Int) + 7) / 8 = (need n : Nat) := by unfold need; omega
        obtain ⟨m, hm⟩ : ∃ m, m = need n := ⟨_, rfl⟩
        have HM := Lib.hid (show m = (n + 7) / 8 from hm)
        rw [← hm] at hnd HG
        clear hm
        by_cases hl : x.length = m
        · subst hl
          obtain ⟨gt, hgt⟩ : ∃ gt, gt = w6.heap.size := ⟨_, rfl⟩
          have HGT := Lib.hid hgt
          clear hgt r0 r1 f0 f1
          go_wp2_with (at_make; refine make_boolU rfl (.tmp 52) (.tmp 52) rfl n rfl rfl (by omega) ?_; intro w7 ho7 hs7 hz7; have HO7 := Lib.hid ho7; have HS7 := Lib.hid hs7; have HZ7 := Lib.hid hz7; clear ho7 hs7 hz7)
          have hw68 : Stay (fun _ => False) w6 (w7.alloc (.cells #[.int .i64 (k : Int), .slice (some ⟨w6.heap.size, 0, none⟩) n n] 44)) := HS7.out.trans (Stay.alloc _ _)
          have hp8 := heap_alloc_new w7 (.cells #[.int .i64 (k : Int), .slice (some ⟨w6.heap.size, 0, none⟩) n n] 44)
          have ho8 := HO7.out.stay0 (Stay.alloc w7 (.cells #[.int .i64 (k : Int), .slice (some ⟨w6.heap.size, 0, none⟩) n n] 44))
          have hr8 := (hw68.block _ (lt_of_block HR6.out) (fun x => x)).trans HR6.out
          have hz6 := HS6.out.size
          rw [← HGT.out] at hp8 ho8 ⊢
          obtain ⟨w8, hw8⟩ : ∃ w8, w8 = w7.alloc (.cells #[.int .i64 (k : Int), .slice (some ⟨gt, 0, none⟩) n n] 44) := ⟨_, rfl⟩
          have HS8 := Lib.hid (show Stay (fun _ => False) w6 w8 by rw [hw8, HGT.out]; exact hw68)
          obtain ⟨P, hP⟩ : ∃ P, P = w7.heap.size := ⟨_, rfl⟩
          rw [← hw8] at hp8 ho8 ⊢
          rw [← hP] at hp8 ⊢
          have HP8 := Lib.hid hp8
          have HO8 := Lib.hid ho8
          have HR8 := Lib.hid (show w8.heap[w.heap.size]? = some (.cells #[.int .i64 0, .slice none 0 0] 44 (0, 0)) by rw [hw8, HGT.out]; exact hr8)
          have HPG := Lib.hid (show P = gt + 1 by rw [hP, HZ7.out, HGT.out])
          have hx0 : 0 < x.length := by have := HM.out; omega
          have hxs : x.length ≤ 131072 := by have := HM.out; omega
          obtain ⟨ad, had, _⟩ : ∃ ad, a4 = some ad ∧ True := by
            obtain ⟨a9, c9, e9, hr9, _⟩ := HX6.out.slc
            cases e9
            obtain ⟨ad, e, _⟩ := hr9 hx0
            exact ⟨ad, e, trivial⟩
          subst had
          have HGW := Lib.hid (show w.heap.size < gt by have h1 := HGT.out; have h2 := lt_of_block HR6.out; omega)
          obtain ⟨D, hD⟩ : ∃ D, D = bitsOf n x := ⟨_, rfl⟩
          have HD := Lib.hid hD
          have HDL := Lib.hid (show D.length = n by rw [hD]; exact bitsOf_len _ _)
          rw [← hD] at HRG
          clear hw68 hp8 ho8 hr8 hw8 hP HO7 HS7 HZ7 hz6 hD
          go_loopw [9] (fun i wr => ∃ j : Nat, j ≤ 8 * x.length ∧ i = .int .i64 (j : Int) ∧ TO gt wr (.slice (some ⟨gt, 0, none⟩) n n) (midB D (min j n)) ∧ (∀ t, n ≤ t → t < j → bt x t = false) ∧ Stay (fun i => i = gt) w8 wr) (fun i _ => 8 * x.length - (intOf i).toNat)
          case atStart => exact ⟨0, Nat.zero_le _, rfl, by rw [Nat.zero_min, midB_zero, HDL.out]; exact HO8.out, fun t _ h => by omega, Stay.refl _ _⟩
          case round =>
            obtain ⟨j, hj, rfl, ho, hall, hst⟩ := hrel
            have HO := Lib.hid ho
            have HALL := Lib.hid hall
            have HST := Lib.hid hst
            have hwr : Stay (fun k => w.heap.size ≤ k) w6 wr := (HS8.out.mono (fun _ x => x.elim)).trans (hst.mono (fun i (e : i = gt) => by have := HGW.out; omega))
            have HWR := Lib.hid (show Stay (fun _ => False) w wr from stay_seal (X := fun k => w.heap.size ≤ k) ((HS6.out.mono (fun _ x => x.elim)).trans hwr) (fun k hk => hk))
            have hrr := (hst.block _ (lt_of_block HR8.out) (fun (e : w.heap.size = gt) => by have := HGW.out; omega)).trans HR8.out
            have HRR := Lib.hid hrr
            have HPR := Lib.hid ((hst.block _ (lt_of_block HP8.out) (fun (e : P = gt) => by have := HPG.out; omega)).trans HP8.out)
            have hxr := HX6.out.stay hwr
            clear ho hall hst hwr
            by_cases hlt : j < 8 * x.length
            · obtain ⟨c0, hc0⟩ : ∃ c0, x[j / 8]? = some c0 := ⟨_, List.getElem?_eq_getElem (by omega)⟩
              have hcx : wr.cell? (ad.add (j / 8)) = some (byteV c0) := by
                obtain ⟨a9, c9, e9, hr9, _⟩ := hxr.slc
                cases e9
                obtain ⟨ad2, e, hc⟩ := hr9 hx0
                cases e
                exact hc _ _ (by simp [cellsB, hc0])
              unfold byteV at hcx
              have hbt : bt x j = c0.toNat.testBit (j % 8) := by unfold bt; rw [List.getD_eq_getElem?_getD, hc0]; rfl
              have ht : (((((c0.toNat : Nat) : Int) / (2 : Int) ^ (j % 8)).tmod 2) == 1) = bt x j := by rw [hbt]; exact rem_table ⟨c0.toNat, c0.toNat_lt⟩ ⟨j % 8, Nat.mod_lt _ (by decide)⟩
              have hj8 : j / 8 < x.length := by omega
              clear hc0 hbt hxr hrr
              by_cases hjn : j < n
              · have hmin : min j n = j := Nat.min_eq_left (Nat.le_of_lt hjn)
                rw [hmin] at HO
                have hml : n = (midB D j).length := by rw [midB_len (by rw [HDL.out]; omega), HDL.out]
                have HML := Lib.hid hml
                obtain ⟨prq, hprq⟩ := two_cells HPR.out
                obtain ⟨p1, pf0, pf1⟩ := hprq
                have ct := TO.cell' HML.out HO.out (getD_of (B := midB D j) (n := j) (by rw [← HML.out]; exact hjn))
                have ft := TO.fr HML.out HO.out j
                have HSET := Lib.hid (show (midB D j).set j (bt x j) = midB D (min (j + 1) n) by
                  rw [Nat.min_eq_left hjn, ← midB_set (by rw [HDL.out]; exact hjn)]
                  congr 1
                  rw [HD.out, List.getD_eq_getElem?_getD, bitsOf_at x hjn]
                  rfl)
                clear hml hmin prq pf0 pf1
                have HTB := Lib.hid ht
                clear ht
                go_wp2
                rw [HTB.out]
                refine ⟨⟨j + 1, hlt, by go_num, ?_, fun t h1 h2 => HALL.out t h1 (by omega), HST.out.trans (Stay.setCell (X := fun i => i = gt) _ ⟨gt, j, none⟩ _ rfl)⟩, by simp [intOf]; omega⟩
                rw [← HSET.out]
                exact TO.set HML.out HO.out j (bt x j)
              · cases hbit : bt x j
                · rw [hbit] at ht
                  have HBIT := Lib.hid hbit
                  clear hbit
                  go_wp2
                  refine ⟨⟨j + 1, hlt, by go_num, ?_, fun t h1 h2 => ?_, HST.out⟩, by simp [intOf]; omega⟩
                  · have h := HO.out
                    rw [Nat.min_eq_right (by omega)] at h ⊢
                    exact h
                  · rcases Nat.lt_or_ge t j with h3 | h3
                    · exact HALL.out t h1 h3
                    · obtain rfl : t = j := by omega
                      exact HBIT.out
                · rw [hbit] at ht
                  have HGF := Lib.hid (show G = false by rw [HG.out, (odd_iff hn1 HM.out).2 ⟨j, by omega, hbit⟩]; simp)
                  obtain ⟨r0, r1, f0, f1⟩ := two_cells HRR.out
                  go_wp2
                  obtain ⟨d0, d1⟩ := rnew_end (a := .int .i64 0) (v := .slice none 0 0) HRR.out
                  have hsE : Stay (fun _ => False) w ((wr.setCell ⟨w.heap.size, 0, none⟩ (.int .i64 0)).setCell ⟨w.heap.size, 1, none⟩ (.slice none 0 0)) := stay_set2 HWR.out (Nat.le_refl _) _ _
                  exact bodyPost_ret (v := .tuple #[.agg #[.int .i64 0, .slice none 0 0], .int .i64 3]) (by simp [results, Tryz.results36, go_sem, d0, d1]) rfl ⟨HRB.out _ HGF.out, hsE⟩
            · obtain rfl : j = 8 * x.length := by omega
              have hGT : G = true := by
                rw [HG.out, decide_eq_true hn1, decide_eq_true hk1]
                have ho : oddB x n = false := by
                  cases h : oddB x n with
                  | false => rfl
                  | true =>
                    obtain ⟨i, h1, h2⟩ := (odd_iff hn1 HM.out).1 h
                    rcases Nat.lt_or_ge i (8 * x.length) with h3 | h3
                    · rw [HALL.out i h1 h3] at h2; cases h2
                    · unfold bt at h2
                      rw [getD_out _ (by omega)] at h2
                      rw [show (0 : UInt8).toNat = 0 from rfl, Nat.zero_testBit] at h2
                      cases h2
                rw [ho]
                simp
              have HGT2 := Lib.hid hGT
              have HTO := Lib.hid (show TO gt wr (.slice (some ⟨gt, 0, none⟩) n n) D by
                have h := HO.out
                rw [Nat.min_eq_right (by have := HM.out; omega)] at h
                have e : midB D n = D := by have h := midB_all D; rw [HDL.out] at h; exact h
                rw [e] at h
                exact h)
              obtain ⟨r0, r1, f0, f1⟩ := two_cells HRR.out
              obtain ⟨p0, p1, _, _⟩ := two_cells HPR.out
              clear hGT hxr hrr
              go_wp2
              obtain ⟨d0, d1⟩ := rnew_end (a := .int .i64 (k : Int)) (v := .slice (some ⟨gt, 0, none⟩) n n) HRR.out
              have hs9 : Stay (fun i => i = w.heap.size) wr ((wr.setCell ⟨w.heap.size, 0, none⟩ (.int .i64 (k : Int))).setCell ⟨w.heap.size, 1, none⟩ (.slice (some ⟨gt, 0, none⟩) n n)) := stay_put wr _ _ _ rfl
              refine bodyPost_ret (v := .tuple #[.agg #[.int .i64 (k : Int), .slice (some ⟨gt, 0, none⟩) n n], .int .i64 0]) (by simp [results, Tryz.results36, go_sem, d0, d1]) rfl ⟨HRG.out _ _ HGT2.out ?_, stay_set2 HWR.out (Nat.le_refl _) _ _⟩
              exact (HTO.out.stay hs9 (fun i hi => by cases hi; show ¬ gt = w.heap.size; have := HGW.out; omega)).base' (fun i hi => by cases hi; show w.heap.size ≤ gt; have := HGW.out; omega)
        · have HGF := Lib.hid (show G = false by rw [HG.out, decide_eq_false (p := x.length = m) hl]; simp)
          have hlz : ((x.length : Int) == (m : Int)) = false := beq_eq_false_iff_ne.2 (by omega)
          go_wp2
          obtain ⟨d0, d1⟩ := rnew_end (a := .int .i64 0) (v := .slice none 0 0) HR6.out
          have hsE : Stay (fun _ => False) w ((w6.setCell ⟨w.heap.size, 0, none⟩ (.int .i64 0)).setCell ⟨w.heap.size, 1, none⟩ (.slice none 0 0)) := stay_set2 HS6.out (Nat.le_refl _) _ _
          exact bodyPost_ret (v := .tuple #[.agg #[.int .i64 0, .slice none 0 0], .int .i64 3]) (by simp [results, Tryz.results36, go_sem, d0, d1]) rfl ⟨HRB.out _ HGF.out, hsE⟩
  · have HGF := Lib.hid (show G = false by rw [HG.out, decide_eq_false hd]; simp)
    have hdz : ((dn : Int) == 0) = false := beq_eq_false_iff_ne.2 (by omega)
    go_wp2
    obtain ⟨d0, d1⟩ := rnew_end (a := .int .i64 0) (v := .slice none 0 0) HR6.out
    have hsE : Stay (fun _ => False) w ((w6.setCell ⟨w.heap.size, 0, none⟩ (.int .i64 0)).setCell ⟨w.heap.size, 1, none⟩ (.slice none 0 0)) := stay_set2 HS6.out (Nat.le_refl _) _ _
    exact bodyPost_ret (v := .tuple #[.agg #[.int .i64 0, .slice none 0 0], .int .i64 3]) (by simp [results, Tryz.results36, go_sem, d0, d1]) rfl ⟨HRB.out _ HGF.out, hsE⟩

end Go.Proofs.YtahfgoafiepioaaGreatDoor.Bo

