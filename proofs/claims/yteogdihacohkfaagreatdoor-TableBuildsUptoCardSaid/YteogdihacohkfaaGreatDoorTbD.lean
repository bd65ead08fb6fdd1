/-
  table: the filter of entries; a part as bytes.
-/
import Derived.Test.YteogdihacohkfaaGreatDoorTbB
import Derived.Test.YteogdihacohkfaaGreatDoorGaK
import Derived.Test.YteogdihacohkfaaGreatDoorGaH
namespace Go.Proofs.YteogdihacohkfaaGreatDoor.Tb
open Go.RowKit
open Pk (stay_seal)
open Me (En EnS EnO Box enC enV norm ltB Sorted getL posN hasB sizeL)
open Pk (spellB bytesB boolB Slc Owns WrAt)
open Bo (FAt)
set_option maxRecDepth 100000
set_option linter.unusedVariables false

/-- Keys and values that are not too long. -/
def Fit (L : List En) : Prop := ∀ e ∈ L, e.k.length + 1 ≤ 140737488355328
theorem fit_of {L : List En} (h : sizeL L ≤ 100000000000000) : Fit L := by
  intro e he
  obtain ⟨i, hi, rfl⟩ := List.getElem_of_mem he
  have h1 := keyAt_le L i
  rw [keyAt_of (List.getElem?_eq_getElem hi)] at h1
  omega
theorem keysL_succ {L : List En} {i : Nat} {e : En} (he : L[i]? = some e) : keysL (L.take (i + 1)) = keysL (L.take i) ++ [e.k] := by
  obtain ⟨h1, h2⟩ := List.getElem?_eq_some_iff.1 he
  rw [List.take_succ_eq_append_getElem h1, h2]
  simp [keysL]

set_option maxHeartbeats 4000000 in
theorem filterOf_any (w : World) (x : Value) (L : List En) (q : Nat) (hx : EnS w x L) (hf : Fit L) (hq : 1 ≤ q) (hn : 1 ≤ L.length) (hqn : q * L.length ≤ 1048576) (hl : L.length ≤ 1000000) (hq2 : q ≤ 1000) :
    Calls Tryz.prog 25 #[x, .int .i64 (q : Int)] w fun e w' => ∃ pf gf, e = .returned (.tuple #[.pointer (some ⟨pf, 0, none⟩), .nilIface]) ∧ FAt w' pf gf 3 (filtB L q) ∧ Stay (fun _ => False) w w' := by
  have HX := Lib.hid hx
  have HFT := Lib.hid hf
  obtain ⟨a0, c, rfl⟩ := hx.form
  have HEQ := Lib.hid (show filtB L q = Bo.addAll 3 (List.replicate (q * L.length) false) (keysL (L.take L.length)) by rw [List.take_length]; rfl)
  have hcm : (L.length : Int) ≤ 1000000 := by omega
  have hcq : (q : Int) ≤ 1000 := by omega
  have hp1 : 1 ≤ q * L.length := Nat.mul_pos hq hn
  obtain ⟨s, hs⟩ : ∃ s, s = q * L.length := ⟨_, rfl⟩
  have HSS := Lib.hid (show (q : Int) * (L.length : Int) = (s : Int) by rw [hs]; simp)
  have hwr : wrap64 ((q : Int) * (L.length : Int)) = (s : Int) := by rw [HSS.out]; exact Bo.wrap_small _ (by omega) (by omega)
  rw [← hs] at hqn hp1 HEQ
  have HWR := Lib.hid hwr
  have HN := Lib.hid (Bo.new_any s 3 w hp1 hqn (by decide) (by decide))
  clear hx hf hs hwr hl hq2
  go_enter Tryz.func25, Tryz.ntmps25
  go_wp2_with fail
  rw [HWR.out]
  refine HN.out.mono ?_
  rintro e w1 ⟨pf, gf, rfl, hpl, hgl, hf1, hs1⟩
  have HF1 := Lib.hid hf1
  have HS1 := Lib.hid hs1
  clear hf1 hs1
  go_wp2
  go_loopw [23] (fun i wr => ∃ j : Nat, j ≤ L.length ∧ i = .int .i64 (j : Int) ∧ Hid (FAt wr pf gf 3 (Bo.addAll 3 (List.replicate s false) (keysL (L.take j)))) ∧ Stay (fun _ => False) w wr) (fun i _ => L.length - (intOf i).toNat)
  case atStart => exact ⟨0, Nat.zero_le _, rfl, HF1, HS1.out⟩
  case round =>
    obtain ⟨j, hj, rfl, hfa, hst⟩ := hrel
    have HT := Lib.hid hst
    clear hst
    by_cases hlt : j < L.length
    · obtain ⟨e, he⟩ : ∃ e, L[j]? = some e := ⟨_, List.getElem?_eq_getElem (by omega)⟩
      obtain ⟨g, o, rfl, _, hc⟩ := (HX.out.stay0 HT.out).at (by omega)
      obtain ⟨h0, h1, h2⟩ := hc _ e he
      have kl := Lib.hid (Me.run_load_at h0 h1 h2)
      have HK := Lib.hid (show Bo.addAll 3 (List.replicate s false) (keysL (L.take (j + 1))) = Bo.addK 3 (Bo.addAll 3 (List.replicate s false) (keysL (L.take j))) e.k by rw [keysL_succ he, Bo.addAll_snoc])
      have HFE := Lib.hid (HFT.out e (List.mem_of_getElem? he))
      have HBX := Lib.hid (Box.new wr ⟨[], [], false⟩)
      have HA := Lib.hid (show Stay (fun _ => False) wr (wr.alloc (.cells (enC ⟨[], [], false⟩).toArray 38)) from Stay.alloc _ _)
      clear he hc h0 h1 h2
      generalize Bo.addAll 3 (List.replicate s false) (keysL (L.take j)) = B at *
      go_wp2_with (first
        | (refine Me.wpList_load_run (by rfl) 38 (.tmp 25) rfl ⟨g, o + j * 3, none⟩ rfl _ kl.out ?_)
        | (with_reducible refine Me.alloc_en rfl rfl ?_)
        | (refine Box.store HBX.out rfl (.tmp 9) (.tmp 26) rfl rfl e rfl ?_
           intro w3 hb3 hs3
           have c0 := hb3.c (j := 0) rfl
           have HS3 := Lib.hid (stay_seal (HA.out.mono (fun _ x => x.elim) |>.trans hs3) (fun k hk => by have hk' : k = wr.heap.size := hk; omega))
           clear hb3 hs3))
      refine (Bo.add_any w3 pf gf 3 B e.k (hfa.out.stay0 HS3.out) HFE.out).mono ?_
      rintro e' w4 ⟨rfl, hf4, hs4⟩
      have HF4 := Lib.hid hf4
      have HT4 := Lib.hid (show Stay (fun _ => False) w w4 from stay_seal (X := fun k => w.heap.size ≤ k) (((HT.out.trans HS3.out).mono (fun _ x => x.elim)).trans (hs4.mono (fun k hk => by have hk' : k = gf := hk; omega))) (fun k hk => hk))
      clear hf4 hs4
      go_wp2
      go_roundw
      case rel => exact ⟨j + 1, hlt, by go_num, by rw [HK.out]; exact HF4, HT4.out⟩
      case measure => simp [intOf]; omega
    · obtain rfl : j = L.length := by omega
      rw [← HEQ.out] at hfa
      go_wp2
      go_ret2
      exact ⟨pf, gf, rfl, hfa.out, HT.out⟩
end Go.Proofs.YteogdihacohkfaaGreatDoor.Tb
