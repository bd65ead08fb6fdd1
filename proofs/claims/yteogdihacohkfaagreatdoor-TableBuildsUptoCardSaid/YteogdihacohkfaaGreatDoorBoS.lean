/-
  The document's answer (chapter 11): whether a key may be there; a key laid in; how many bits are set.
-/
import Derived.Test.YteogdihacohkfaaGreatDoorBoR
namespace Go.Proofs.YteogdihacohkfaaGreatDoor.Bo
open Go.RowKit Pk
set_option maxRecDepth 100000

theorem getD_of {B : List Bool} {n : Nat} (h : n < B.length) : B[n]? = some (B.getD n false) := by
  rw [List.getD_eq_getElem?_getD, List.getElem?_eq_getElem h]
  rfl

set_option maxHeartbeats 4000000 in
theorem rmay_any (w : World) (q : Nat) (v : Value) (B : List Bool) (k : List UInt8) (base : Nat) (h : TO base w v B) (h1 : 1 ≤ B.length) (h2 : B.length ≤ 1048576) (hq : q ≤ 16) (hk : k.length + 1 ≤ 140737488355328) :
    Calls Tryz.prog 57 #[RV q v, strV k] w fun e w' => e = .returned (.bool (mayB B (bitsN B.length q k))) ∧ Stay (fun _ => False) w w' := by
  obtain ⟨gb, vc, rfl, hgb1, hgb2⟩ := h.at (by omega)
  have hb := fun (w : World) (h : TO base w (.slice (some ⟨gb, 0, none⟩) B.length vc) B) => rbits_any w q _ B k base h h1 h2 hq hk
  obtain ⟨l, hl⟩ : ∃ l, l = bitsN B.length q k := ⟨_, rfl⟩
  have hlq : l.length = q := by rw [hl, bitsN_len]
  have HLB := Lib.hid (show ∀ n ∈ l, n < B.length from fun n hn => bitsN_lt h1 (hl ▸ hn))
  rw [← hl] at hb ⊢
  obtain ⟨m, hm⟩ : ∃ m, m = B.length := ⟨_, rfl⟩
  obtain ⟨M, hM⟩ : ∃ M, M = mayB B l := ⟨_, rfl⟩
  rw [← hM]
  rw [← hm] at hb h h1 h2 HLB ⊢
  have HBI := Lib.hid hb
  have HMA := Lib.hid hM
  have H := Lib.hid h
  have HM := Lib.hid hm
  clear hl hb hM h hm
  unfold RV
  go_enter Tryz.func57, Tryz.ntmps57
  go_wp2_with fail
  refine (HBI.out _ (H.out.stay0 (Stay.alloc _ _))).mono ?_
  rintro e w1 ⟨lv, rfl, ho, hs⟩
  obtain ⟨la, lc, rfl⟩ := ho.form
  have hst1 : Stay (fun _ => False) w w1 := (Stay.alloc w _).trans hs
  have hb1 := (hs.block w.heap.size (by simp) (fun x => x)).trans (heap_alloc_new w _)
  have HQ1 := Lib.hid (show w1.cell? ⟨w.heap.size, 1, none⟩ = some (.slice (some ⟨gb, 0, none⟩) m vc) by rw [cell_of_row w1 _ 1 _ _ _ hb1]; rfl)
  rw [hlq] at ho ⊢
  have HO := Lib.hid ho
  have HL := Lib.hid hlq
  have HS := Lib.hid hst1
  have HT := Lib.hid (H.out.stay0 hst1)
  clear ho hs hb1 hst1 hlq
  go_wp2
  go_loopw [6] (fun i wr => ∃ j : Nat, j ≤ q ∧ i = .int .i64 (j : Int) ∧ mayB B (l.take j) = true ∧ Stay (fun _ => False) w1 wr) (fun i _ => q - (intOf i).toNat)
  case atStart => exact ⟨0, Nat.zero_le _, rfl, rfl, Stay.refl _ _⟩
  case round =>
    obtain ⟨j, hj, rfl, hmj, hst⟩ := hrel
    have HMJ := Lib.hid hmj
    have HST := Lib.hid hst
    have q1 := hst.cell HQ1.out (fun x => x)
    clear hmj hst
    by_cases hlt : j < q
    · obtain ⟨n, hn⟩ : ∃ n, l[j]? = some n := ⟨_, List.getElem?_eq_getElem (by have := HL.out; omega)⟩
      have hnB := HLB.out n (List.mem_of_getElem? hn)
      obtain ⟨gi, ic, hie, _, _⟩ := row_at HO.out (by rw [HL.out]; omega)
      rw [HL.out] at hie
      cases hie
      have ci := IO.cell' HL.out.symm (HO.out.stay0 HST.out) hn
      have hbn := getD_of (B := B) (n := n) (by rw [← HM.out]; exact hnB)
      have cb := TO.cell' HM.out (HT.out.stay0 HST.out) hbn
      have HN := Lib.hid hn
      clear hn hbn
      cases hbit : B.getD n false
      · rw [hbit] at cb
        have HBIT := Lib.hid hbit
        clear hbit
        go_wp2
        go_region
        have HSD := Lib.hid (HS.out.trans (HST.out.trans (Stay.drew (X := fun _ => False) (w := wr))))
        generalize wr.drew = wd at *
        go_wp2
        go_ret
        exact ⟨by rw [HMA.out, mayB_no HN.out HBIT.out]; rfl, HSD.out⟩
      · rw [hbit] at cb
        have HBIT := Lib.hid hbit
        clear hbit
        go_wp2
        go_region
        have HSD := Lib.hid (HST.out.trans (Stay.drew (X := fun _ => False) (w := wr)))
        generalize wr.drew = wd at *
        go_wp2
        exact ⟨⟨j + 1, hlt, by go_num, mayB_succ HMJ.out HN.out HBIT.out, HSD.out⟩, by simp [intOf]; omega⟩
    · obtain rfl : j = q := by omega
      go_wp2
      go_ret
      rw [HMA.out]
      have := HMJ.out
      rw [show l.take j = l from List.take_of_length_le (by rw [HL.out]; exact Nat.le_refl _)] at this
      exact ⟨by rw [this]; rfl, HS.out.trans HST.out⟩

end Go.Proofs.YteogdihacohkfaaGreatDoor.Bo
