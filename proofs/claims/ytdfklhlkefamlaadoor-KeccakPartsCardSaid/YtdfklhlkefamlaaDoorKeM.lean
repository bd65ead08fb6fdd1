/-
  keccak: Shake.
-/
import Derived.Test.YtdfklhlkefamlaaDoorKeL
namespace Go.Proofs.YtdfklhlkefamlaaDoor.Ke
open Go.RowKit
set_option maxRecDepth 100000

def lenV : Value → Nat
  | .slice _ l _ => l
  | _ => 0
def errK (c : Nat) : Value := if c = 0 then .nilIface else .iface 47 (.int .i64 (c : Int))

theorem shake_low (w : World) (x : Value) (n : Int) (hn : n < 0) : Calls Tryd.prog 13 #[x, .int .i64 n] w fun e w' => e = .returned (.tuple #[.slice none 0 0, errK 1]) ∧ w = w' := by
  go_enter Tryd.func13, Tryd.ntmps13
  go_wp2
  go_ret2
  exact ⟨rfl, rfl⟩
theorem shake_high (w : World) (x : Value) (n : Int) (hn : 1048576 < n) : Calls Tryd.prog 13 #[x, .int .i64 n] w fun e w' => e = .returned (.tuple #[.slice none 0 0, errK 2]) ∧ w = w' := by
  have h0 : ¬ n < 0 := by omega
  go_enter Tryd.func13, Tryd.ntmps13
  go_wp2
  go_ret2
  exact ⟨rfl, rfl⟩

/-- What comes out at a place. -/
def atK (f : St) (i : Nat) : UInt8 := byteK (permN f (i / 136)) (i % 136)
theorem outK_fill (f : St) (n : Nat) : fill (atK f) n n = outK f n := fill_all _ _

theorem fill_more (f : St) (j n k : Nat) (ho : 136 * j ≤ n) (hk : k ≤ 136) (hkn : 136 * j + k ≤ n) :
    (fill (atK f) (136 * j) n).take (136 * j) ++ (blockK (permN f j)).take k ++ (fill (atK f) (136 * j) n).drop (136 * j + k) = fill (atK f) (136 * j + k) n := by
  apply List.ext_getElem?
  intro i
  have l1 : ((fill (atK f) (136 * j) n).take (136 * j)).length = 136 * j := by rw [List.length_take, length_fill]; omega
  have l2 : ((blockK (permN f j)).take k).length = k := by rw [List.length_take, length_blockK]; omega
  by_cases hin : i < n
  · have hr : (fill (atK f) (136 * j + k) n)[i]? = some (if i < 136 * j + k then atK f i else 0) := by simp [fill, hin]
    rw [hr]
    by_cases h1 : i < 136 * j
    · rw [List.append_assoc, List.getElem?_append_left (by omega), List.getElem?_take, if_pos h1, if_pos (by omega)]
      simp [fill, hin, h1]
    · by_cases h2 : i < 136 * j + k
      · rw [List.getElem?_append_left (by rw [List.length_append, l1, l2]; exact h2), List.getElem?_append_right (by omega), l1, List.getElem?_take, if_pos (by omega), if_pos h2]
        unfold blockK atK
        rw [List.getElem?_map, List.getElem?_range (by omega)]
        simp only [Option.map_some]
        rw [show i / 136 = j by omega, show i % 136 = i - 136 * j by omega]
      · rw [List.getElem?_append_right (by rw [List.length_append, l1, l2]; omega), List.length_append, l1, l2, if_neg h2, List.getElem?_drop, show 136 * j + k + (i - (136 * j + k)) = i by omega]
        simp [fill, hin, h1]
  · rw [List.getElem?_eq_none (by simp [length_fill, l1, l2]; omega), List.getElem?_eq_none (by rw [length_fill]; omega)]

theorem made_u8 (k : Nat) : madeCells (Value.int .u8 0).cells k = (cellsB (List.replicate k 0)).toArray := by
  unfold madeCells
  apply Array.ext
  · simp [cellsB]
  · intro i h1 h2
    simp [cellsB, byteV, Value.cells, Nat.mod_one]

set_option maxHeartbeats 2000000 in
theorem shake_any (w : World) (x : Value) (b : List UInt8) (n : Nat) (hn : n ≤ 1048576) (hx : Slc w x b) (hp : PathAt w) (hg0 : 1 < w.heap.size) :
    Calls Tryd.prog 13 #[x, .int .i64 n] w fun e w' => ∃ v, e = .returned (.tuple #[v, errK 0]) ∧ Owns w.heap.size w' v (fromK b 31 n) ∧ Stay (fun _ => False) w w' := by
  obtain ⟨i0, hi, hz0, hz1, hz2⟩ := info_parts info5
  have HXL := Lib.hid (fun h0 k hk => Slc.lt hx h0 k hk)
  have HX := Lib.hid hx
  have HP := Lib.hid hp
  have HG := Lib.hid hg0
  have HI := Lib.hid hi
  have HZ0 := Lib.hid hz0
  have HZ1 := Lib.hid hz1
  have HZ2 := Lib.hid hz2
  have hn1 : (n : Int) ≤ 1048576 := by omega
  have HN := Lib.hid hn
  clear hx hp hg0 hn hi hz0 hz1 hz2
  go_enter Tryd.func13, Tryd.ntmps13
  go_wp2_with fail
  refine (new_any _).mono ?_
  rintro e w2 ⟨rfl, hs2, st2⟩
  have hn1 : w.heap.size ≠ 1 := by have := HG.out; omega
  have HN1 := Lib.hid hn1
  have HS2 := Lib.hid hs2
  have HST2 := Lib.hid st2
  clear hn1 hs2 st2
  go_wp2_with fail
  refine (write_any w2 w.heap.size (zeroSt, 0) x b HS2.out (by decide) (HP.out.stay HST2.out (fun x => x)) HN1.out (HX.out.stay0 HST2.out) (fun h0 k hk e => by have := HXL.out h0 k hk; omega)).mono ?_
  rintro e w3 ⟨rfl, hs3, st3⟩
  have HS3 := Lib.hid hs3
  have HST3 := Lib.hid ((HST2.out.mono (Y := fun k => k = w.heap.size) (fun _ x => x.elim)).trans st3)
  clear hs3 st3
  go_wp2_with fail
  refine (end_any w3 w.heap.size _ _ 31 HS3.out (eats_lt _ _ (by decide)) (HP.out.stay HST3.out (fun e => HN1.out e.symm)) HN1.out).mono ?_
  rintro e w4 ⟨rfl, hs4, st4⟩
  obtain ⟨f, hf⟩ : ∃ f, f = endK (eats (zeroSt, 0) b) 31 := ⟨_, rfl⟩
  obtain ⟨t, ht⟩ : ∃ t, t = (eats (zeroSt, 0) b).2 := ⟨_, rfl⟩
  have HS4 := Lib.hid (show StAt w4 w.heap.size f t by rw [hf, ht]; exact hs4)
  have HST4 := Lib.hid (HST3.out.trans st4)
  have HF := Lib.hid hf
  have HGL := Lib.hid (show w.heap.size < w4.heap.size from hs4.lt)
  have hmk := run_make (P := Tryd.prog) w4 22 5 i0 (.int .u8 0) Tryd.underlying22 HI.out HZ0.out .i64 .i64 n n (by omega) (Int.le_refl _) (by rw [HZ2.out]; omega) (by omega)
  rw [HZ1.out, Int.toNat_natCast, made_u8, Nat.mul_one] at hmk
  have HB := Lib.hid (BAt.new w4 5 (List.replicate n 0))
  have HSB := Lib.hid (HS4.out.stay (Stay.alloc (X := fun _ => False) w4 (.cells (cellsB (List.replicate n 0)).toArray 5)) (fun x => x))
  clear hs4 st4 hf ht
  go_wp2_with fail
  have HMK := Lib.hid hmk
  clear hmk
  go_loopw [8] (fun v wr => ∃ (j : Nat) (a' : Addr), 136 * j ≤ n + 135 ∧ v = .slice (some a') (n - 136 * j) (n - 136 * j) ∧ (136 * j < n → a' = ⟨w4.heap.size, 136 * j, none⟩) ∧ BAt wr w4.heap.size 5 (fill (atK f) (min (136 * j) n) n) ∧ StAt wr w.heap.size (permN f j) t ∧ Stay (fun k => w.heap.size ≤ k) w wr) (fun v _ => lenV v)
  case atStart =>
    refine ⟨0, _, by omega, rfl, fun _ => rfl, ?_, HSB.out, (HST4.out.mono (fun k e => by omega)).trans (Stay.alloc _ _)⟩
    rw [show min (136 * 0) n = 0 by omega, fill_none]
    exact HB.out
  case round =>
    obtain ⟨j, a', hj, rfl, ha, hb, hs, hst⟩ := hrel
    by_cases hlt : 136 * j < n
    · obtain rfl := ha hlt
      obtain ⟨o, ho⟩ : ∃ o, o = 136 * j := ⟨_, rfl⟩
      rw [← ho] at hb hlt
      rw [← ho]
      rw [show min o n = o by omega] at hb
      obtain ⟨m, hm⟩ : ∃ m, m = n - o := ⟨_, rfl⟩
      rw [← hm]
      have q0 : 0 < m := by omega
      have HM := Lib.hid hm
      clear hm
      have HB := Lib.hid hb
      have HS := Lib.hid hs
      have HST := Lib.hid hst
      have HLT := Lib.hid hlt
      have HO := Lib.hid ho
      clear hb hs hst hlt ha ho
      go_wp2_with fail
      refine (out_any wr w.heap.size (permN f j) t HS.out).mono ?_
      rintro e w5 ⟨rfl, st5⟩
      obtain ⟨k, hk⟩ : ∃ k, k = min m 136 := ⟨_, rfl⟩
      have HK := Lib.hid hk
      clear hk
      have HB5 := Lib.hid (HB.out.stay st5 (fun x => x))
      have HS5 := Lib.hid (HS.out.stay st5 (fun x => x))
      have HST5 := Lib.hid (HST.out.trans (st5.mono (fun _ x => x.elim)))
      have HN5 := Lib.hid (BAt.new w5 49 (List.replicate 136 0))
      clear st5
      have k1 : k ≤ m := by have := HK.out; omega
      have HN0 := Lib.hid (show w.heap.size < wr.heap.size from HS.out.lt)
      by_cases hmk : m = k
      · subst hmk
        go_wp2_with (first
          | ((with_reducible refine arr_136.alloc rfl rfl ?_))
          | (refine arr_136.store rfl (.tmp 9) (.tmp 31) rfl w5.heap.size rfl (List.replicate 136 0) (blockK (permN f j)) rfl (by simp) (length_blockK _) HN5.out ?_
             intro w6 h6 s6
             have HB6 := Lib.hid h6
             have HST6 := Lib.hid (show Stay (fun k => k = w5.heap.size) w5 w6 from (Stay.alloc _ _).trans s6)
             obtain ⟨w7, hcp, h7, s7⟩ := run_copy_bytes w6 w4.heap.size o m m w5.heap.size 136 _ _ 3 (fill (atK f) o n) (blockK (permN f j)) (HB5.out.stay HST6.out (fun (e : w4.heap.size = w5.heap.size) => by have := HB5.out.lt; omega)) HB6.out (by rw [length_fill]; have := HM.out; have := HLT.out; omega) (by rw [length_blockK]; exact Nat.le_refl _) m HK.out
             have HB7 := Lib.hid h7
             have HST7 := Lib.hid s7
             clear h6 s6 h7 s7))
        have g7 : w.heap.size ≠ w5.heap.size := Nat.ne_of_lt HS5.out.lt
        have g8 : w.heap.size ≠ w4.heap.size := Nat.ne_of_lt HGL.out
        have HS7 := Lib.hid ((HS5.out.stay HST6.out g7).stay HST7.out g8)
        have HST8 := Lib.hid ((HST5.out.trans (HST6.out.mono (Y := fun k => w.heap.size ≤ k) (fun k (e : k = w5.heap.size) => by have := HS5.out.lt; omega))).trans (HST7.out.mono (Y := fun k => w.heap.size ≤ k) (fun k (e : k = w4.heap.size) => by have := HGL.out; omega)))
        clear g7 g8
        refine (stir_any w7 w.heap.size (permN f j) t HS7.out (HP.out.stay HST8.out (fun (e : w.heap.size ≤ 1) => by have := HG.out; omega)) HN1.out).mono ?_
        rintro e w9 ⟨rfl, hs9, st9⟩
        have HS9 := Lib.hid (show StAt w9 w.heap.size (permN f (j + 1)) t from hs9)
        have HST9 := Lib.hid (HST8.out.trans (st9.mono (Y := fun k => w.heap.size ≤ k) (fun k (e : k = w.heap.size) => by omega)))
        have HB9 := Lib.hid (HB7.out.stay st9 (Nat.ne_of_gt HGL.out))
        clear hs9 st9
        go_wp2
        have h1 := HO.out
        have h2 := HM.out
        have h3 := HK.out
        have h4 := HLT.out
        refine ⟨⟨j + 1, _, by omega, by rw [show n - 136 * (j + 1) = 0 by omega], fun h => by omega, ?_, HS9.out, HST9.out⟩, by simp [lenV]; omega⟩
        rw [show min (136 * (j + 1)) n = 136 * j + m by omega, ← fill_more f j n m (by omega) (by omega) (by omega), ← h1]
        exact HB9.out
      · have k2 : k < m := by omega
        go_wp2_with (first
          | ((with_reducible refine arr_136.alloc rfl rfl ?_))
          | (refine arr_136.store rfl (.tmp 9) (.tmp 31) rfl w5.heap.size rfl (List.replicate 136 0) (blockK (permN f j)) rfl (by simp) (length_blockK _) HN5.out ?_
             intro w6 h6 s6
             have HB6 := Lib.hid h6
             have HST6 := Lib.hid (show Stay (fun k => k = w5.heap.size) w5 w6 from (Stay.alloc _ _).trans s6)
             obtain ⟨w7, hcp, h7, s7⟩ := run_copy_bytes w6 w4.heap.size o m m w5.heap.size 136 _ _ 3 (fill (atK f) o n) (blockK (permN f j)) (HB5.out.stay HST6.out (fun (e : w4.heap.size = w5.heap.size) => by have := HB5.out.lt; omega)) HB6.out (by rw [length_fill]; have := HM.out; have := HLT.out; omega) (by rw [length_blockK]; exact Nat.le_refl _) k HK.out
             have HB7 := Lib.hid h7
             have HST7 := Lib.hid s7
             clear h6 s6 h7 s7))
        have g7 : w.heap.size ≠ w5.heap.size := Nat.ne_of_lt HS5.out.lt
        have g8 : w.heap.size ≠ w4.heap.size := Nat.ne_of_lt HGL.out
        have HS7 := Lib.hid ((HS5.out.stay HST6.out g7).stay HST7.out g8)
        have HST8 := Lib.hid ((HST5.out.trans (HST6.out.mono (Y := fun k => w.heap.size ≤ k) (fun k (e : k = w5.heap.size) => by have := HS5.out.lt; omega))).trans (HST7.out.mono (Y := fun k => w.heap.size ≤ k) (fun k (e : k = w4.heap.size) => by have := HGL.out; omega)))
        clear g7 g8
        refine (stir_any w7 w.heap.size (permN f j) t HS7.out (HP.out.stay HST8.out (fun (e : w.heap.size ≤ 1) => by have := HG.out; omega)) HN1.out).mono ?_
        rintro e w9 ⟨rfl, hs9, st9⟩
        have HS9 := Lib.hid (show StAt w9 w.heap.size (permN f (j + 1)) t from hs9)
        have HST9 := Lib.hid (HST8.out.trans (st9.mono (Y := fun k => w.heap.size ≤ k) (fun k (e : k = w.heap.size) => by omega)))
        have HB9 := Lib.hid (HB7.out.stay st9 (Nat.ne_of_gt HGL.out))
        clear hs9 st9
        go_wp2
        have h1 := HO.out
        have h2 := HM.out
        have h3 := HK.out
        have h4 := HLT.out
        refine ⟨⟨j + 1, _, by omega, by rw [show n - 136 * (j + 1) = m - k by omega], fun _ => by rw [show 136 * (j + 1) = o + k by omega], ?_, HS9.out, HST9.out⟩, by simp [lenV]; omega⟩
        rw [show min (136 * (j + 1)) n = 136 * j + k by omega, ← fill_more f j n k (by omega) (by omega) (by omega), ← h1]
        exact HB9.out
    · have h0 : n - 136 * j = 0 := by omega
      rw [h0]
      have hb' : BAt wr w4.heap.size 5 (outK f n) := by
        rw [← outK_fill]
        rw [show min (136 * j) n = n by omega] at hb
        exact hb
      have HB := Lib.hid hb'
      have HST := Lib.hid hst
      clear hb hb' hs hst ha h0
      go_wp2
      go_ret2
      refine ⟨_, rfl, ?_, stay_seal HST.out (fun _ hk => hk)⟩
      have e : fromK b 31 n = outK f n := by rw [HF.out]; rfl
      rw [e]
      have hl : (outK f n).length = n := by simp [outK]
      have hm := HN.out
      refine ⟨by rw [length_cellsB, hl, Nat.mul_one], .inr ⟨w4.heap.size, n, (cellsB (outK f n)).toArray, by rw [hl]; rfl, Nat.le_of_lt HGL.out, HB.out, by omega, by unfold maxLen; omega, by rw [List.size_toArray, length_cellsB, hl, Nat.mul_one], ?_⟩⟩
      rw [hl, Nat.mul_one]
      exact List.take_of_length_le (by simp [length_cellsB, hl])
end Go.Proofs.YtdfklhlkefamlaaDoor.Ke
