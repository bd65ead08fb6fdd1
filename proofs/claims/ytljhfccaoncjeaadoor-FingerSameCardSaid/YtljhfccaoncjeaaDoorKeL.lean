/-
  keccak: Text.
-/
import Derived.Test.YtljhfccaoncjeaaDoorKeK
import Derived.Shelf.RegionOpen
import Derived.Deep.RegionWith
namespace Go.Proofs.YtljhfccaoncjeaaDoor.Ke
open Go.RowKit
set_option maxRecDepth 100000

def digitsA : ByteArray := ⟨#[48, 49, 50, 51, 52, 53, 54, 55, 56, 57, 97, 98, 99, 100, 101, 102]⟩
theorem digit_at : ∀ n : Fin 16, digitsA[n.val]? = some (digitK n.val) := by decide +kernel
theorem run_digit (n : Nat) (hn : n < 16) (w : World) : (Instr.index 9 (.string digitsA) (.int .u8 (n : Int))).run Tryd.prog w = .ok (.int .u8 ((digitK n).toNat : Int)) w := by
  have h := digit_at ⟨n, hn⟩
  simp only at h
  simp [Instr.index, asIntOf, Sem.run_bind, run_underlying Tryd.underlying9, h]

theorem textK_snoc (l : List UInt8) (c : UInt8) : textK (l ++ [c]) = textK l ++ [digitK (c.toNat / 16), digitK (c.toNat % 16)] := by simp [textK]
theorem textK_len (l : List UInt8) : (textK l).length = 2 * l.length := by
  induction l with
  | nil => rfl
  | cons c r ih => simp only [textK, List.flatMap_cons, List.length_append, List.length_cons, List.length_nil] at ih ⊢; omega

set_option maxHeartbeats 1000000 in
theorem text_any (w : World) (h : List UInt8) (hl : h.length = 32) :
    Calls Tryd.prog 22 #[arrV h] w fun e w' => e = .returned (strV (textK h)) ∧ Stay (fun _ => False) w w' := by
  obtain ⟨i0, hi, hz0, hz1, hz2⟩ := info_parts info5
  have hb := BAt.new w 25 h
  have hsz : (w.alloc (.cells (cellsB h).toArray 25)).heap.size = w.heap.size + 1 := by simp
  obtain ⟨w1, hmk, how, hgr⟩ := run_make_own (P := Tryd.prog) (w.alloc (.cells (cellsB h).toArray 25)) (w.heap.size + 1) 34 5 i0 (.int .u8 0) 1 Tryd.underlying34 hi hz0 hz1 .i64 .i64 64 (by rw [hz2]; omega) (by unfold maxLen; omega) (by rw [hsz]; exact Nat.le_refl _)
  have hst : Stay (fun _ => False) (w.alloc (.cells (cellsB h).toArray 25)) w1 := Stay.grown hgr (fun k e => by cases e)
  have HB := Lib.hid (hb.stay hst (fun x => x))
  have HOW := Lib.hid (show Owns (w.heap.size + 1) w1 _ [] from how)
  have HST := Lib.hid ((Stay.alloc (X := fun _ => False) w _).trans hst)
  have HL := Lib.hid hl
  have HSZ := Lib.hid (show w.heap.size + 1 ≤ w1.heap.size by have := hst.size; omega)
  have HI := Lib.hid hi
  have HZ0 := Lib.hid hz0
  have HZ1 := Lib.hid hz1
  have HZ2 := Lib.hid hz2
  unfold arrV
  clear hb hsz how hgr hst hl hi hz0 hz1 hz2
  rw [show (w.alloc (.cells (cellsB h).toArray 25)).heap.size = w.heap.size + 1 by simp] at hmk HOW
  rw [show ((64 : Nat) : Int) = 64 from rfl] at hmk
  go_enter Tryd.func22, Tryd.ntmps22
  go_wp2_with (refine arr_32.load rfl (.tmp 1) rfl w.heap.size rfl h HL.out HB.out ?_)
  have HMK := Lib.hid hmk
  clear hmk
  go_loopw [3, 8] (fun v i wr => ∃ k : Nat, k ≤ 32 ∧ i = .int .i64 (k : Int) ∧ Owns (w.heap.size + 1) wr v (textK (h.take k)) ∧ Stay (fun _ => False) w wr) (fun _ i _ => 32 - (intOf i).toNat)
  case atStart => exact ⟨0, by omega, rfl, HOW.out, HST.out⟩
  case round =>
    obtain ⟨k, hk, rfl, how, hst⟩ := hrel
    by_cases hlt : k < 32
    · obtain ⟨c, hkc⟩ : ∃ c, h[k]? = some c := ⟨_, List.getElem?_eq_getElem (by have := HL.out; omega)⟩
      have hix : ∀ W, (Instr.index 25 (arrV h) (.int .i64 (k : Int))).run Tryd.prog W = .ok (.int .u8 (c.toNat : Int)) W := fun W => run_index_arr (P := Tryd.prog) W 25 5 32 k (cellsB h) (.int .u8 (c.toNat : Int)) _ Tryd.underlying25 Tryd.underlying5 rfl (by kernel_rfl) hlt (by simp [cellsB, hkc, byteV])
      have hts : textK (h.take (k + 1)) = textK (h.take k) ++ [digitK (c.toNat / 16), digitK (c.toNat % 16)] := by rw [List.take_add_one, hkc]; exact textK_snoc _ _
      have hlen := textK_len (h.take k)
      rw [List.length_take] at hlen
      obtain ⟨a, ha⟩ : ∃ a, a = c.toNat / 16 := ⟨_, rfl⟩
      obtain ⟨r, hr⟩ : ∃ r, r = c.toNat % 16 := ⟨_, rfl⟩
      have hc := c.toNat_lt
      have d1 : ∀ W, _ := fun W => run_digit a (by omega) W
      have d2 : ∀ W, _ := fun W => run_digit r (by omega) W
      unfold digitsA at d1 d2
      rw [← ha, ← hr] at hts
      have q0 : (k : Int) < 32 := by omega
      have HOW := Lib.hid how
      have HST := Lib.hid hst
      have HA := Lib.hid ha
      have HR := Lib.hid hr
      have HTS := Lib.hid hts
      have HKC := Lib.hid hkc
      have HLEN := Lib.hid hlen
      clear how hst ha hr hkc hts hlen
      go_wp2
      have e1 : IntKind.u8.wrap (a : Int) = (a : Int) := by have h1 := HA.out; rw [IntKind.wrap_u8]; omega
      have e2 : (c.toNat : Int) / 16 = (a : Int) := by have h1 := HA.out; omega
      have e3 : (c.toNat : Int).tmod 16 = (r : Int) := by have h1 := HR.out; rw [Int.tmod_eq_emod_of_nonneg (by omega)]; omega
      have e4 : (c.toNat : Int) % 16 = (r : Int) := by have h1 := HR.out; omega
      go_region_law (refine step_append_slc rfl (.tmp 11) (.tmp 18) 34 rfl (w.heap.size + 1) i0 Tryd.underlying34 HI.out HZ0.out HZ1.out HZ2.out u3 (.slice (some ⟨wr.heap.size, 0, none⟩) 2 2) (textK (h.take k)) [digitK a, digitK r] rfl rfl ((HOW.out.stay0 Stay.drew).alloc _) (slc_block wr.drew [digitK a, digitK r] 5 (0, 0) (by simp)) (by have := HLEN.out; simp; omega) (by have := HST.out.size; have := HSZ.out; simp; omega) ?_; intro v1 w7 hown1 hgr1 hnn1)
      all_goals
        have how1 : Owns (w.heap.size + 1) w7 v1 (textK (h.take (k + 1))) := by rw [HTS.out]; exact hown1
        have hst1 : Stay (fun _ => False) w w7 := stay_append (HST.out.trans Stay.drew) (HOW.out.stay0 Stay.drew) (Nat.le_succ _) _ hgr1
        have HOW1 := Lib.hid how1
        have HST1 := Lib.hid hst1
        clear how1 hst1 hown1 hgr1 hnn1
        go_wp2
        try simp only [List.getElem_toArray, List.getElem_cons_succ, List.getElem_cons_zero]
        try go_frame
        exact ⟨⟨k + 1, by omega, by go_num, HOW1.out, HST1.out⟩, by simp [intOf]; omega⟩
    · obtain rfl : k = 32 := by omega
      rw [List.take_of_length_le (by have := HL.out; omega)] at how
      have hcv := conv_slc how.slc
      have HST := Lib.hid hst
      clear how hst
      go_wp2
      go_ret
      exact ⟨rfl, HST.out⟩
end Go.Proofs.YtljhfccaoncjeaaDoor.Ke
