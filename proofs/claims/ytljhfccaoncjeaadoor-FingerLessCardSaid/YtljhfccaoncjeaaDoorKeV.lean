/-
  keccak, the document's: Text.
-/
import Derived.Test.YtljhfccaoncjeaaDoorKeL
namespace Go.Proofs.YtljhfccaoncjeaaDoor.Ke
open Go.RowKit
set_option maxRecDepth 100000

def bs (l : List UInt8) : ByteArray := ⟨l.toArray⟩
theorem bs_append (l m : List UInt8) : bs l ++ bs m = bs (l ++ m) := by
  apply ByteArray.ext
  show (bs l ++ bs m).data = _
  rw [ByteArray.data_append]
  simp [bs]
theorem run_part (n : Nat) (hn : n < 16) (w : World) : (Instr.sliceAt 9 (.string digitsA) (some (.int .u8 (n : Int))) (some (.int .u8 ((n + 1 : Nat) : Int))) none).run Tryd.prog w = .ok (.string (bs [digitK n])) w := by
  have h : n = 0 ∨ n = 1 ∨ n = 2 ∨ n = 3 ∨ n = 4 ∨ n = 5 ∨ n = 6 ∨ n = 7 ∨ n = 8 ∨ n = 9 ∨ n = 10 ∨ n = 11 ∨ n = 12 ∨ n = 13 ∨ n = 14 ∨ n = 15 := by omega
  rcases h with rfl | rfl | rfl | rfl | rfl | rfl | rfl | rfl | rfl | rfl | rfl | rfl | rfl | rfl | rfl | rfl <;> rfl

set_option maxHeartbeats 1000000 in
theorem rtext_any (w : World) (h : List UInt8) (hl : h.length = 32) :
    Calls Tryd.prog 11 #[arrV h] w fun e w' => e = .returned (strV (textK h)) ∧ Stay (fun _ => False) w w' := by
  have HB := Lib.hid (BAt.new w 25 h)
  have HL := Lib.hid hl
  unfold arrV
  clear hl
  go_enter Tryd.func11, Tryd.ntmps11
  go_wp2
  go_loopw [3, 4] (fun v i wr => ∃ k : Nat, k ≤ 32 ∧ i = .int .i64 (k : Int) ∧ v = .string (bs (textK (h.take k))) ∧ BAt wr w.heap.size 25 h ∧ Stay (fun _ => False) w wr) (fun _ i _ => 32 - (intOf i).toNat)
  case atStart => exact ⟨0, by omega, rfl, rfl, HB.out, Stay.alloc _ _⟩
  case round =>
    obtain ⟨k, hk, rfl, rfl, hb, hst⟩ := hrel
    by_cases hlt : k < 32
    · obtain ⟨c, hkc⟩ : ∃ c, h[k]? = some c := ⟨_, List.getElem?_eq_getElem (by have := HL.out; omega)⟩
      have hts : textK (h.take (k + 1)) = textK (h.take k) ++ [digitK (c.toNat / 16), digitK (c.toNat % 16)] := by rw [List.take_add_one, hkc]; exact textK_snoc _ _
      have cc := hb.c k
      rw [show (cellsB h)[k]? = some (.int .u8 (c.toNat : Int)) by simp [cellsB, hkc, byteV]] at cc
      obtain ⟨a, ha⟩ : ∃ a, a = c.toNat / 16 := ⟨_, rfl⟩
      obtain ⟨r, hr⟩ : ∃ r, r = c.toNat % 16 := ⟨_, rfl⟩
      have hc := c.toNat_lt
      obtain ⟨a1, ha1⟩ : ∃ a1, a1 = a + 1 := ⟨_, rfl⟩
      obtain ⟨r1, hr1⟩ : ∃ r1, r1 = r + 1 := ⟨_, rfl⟩
      have d1 : ∀ W, _ := fun W => run_part a (by omega) W
      have d2 : ∀ W, _ := fun W => run_part r (by omega) W
      rw [← ha1] at d1
      rw [← hr1] at d2
      unfold digitsA at d1 d2
      rw [← ha, ← hr] at hts
      have e0 : IntKind.u8.wrap ((c.toNat : Int) / 16) = (a : Int) := by rw [IntKind.wrap_u8]; omega
      have e1 : IntKind.u8.wrap (a : Int) = (a : Int) := by rw [IntKind.wrap_u8]; omega
      have e2 : (c.toNat : Int) / 16 = (a : Int) := by omega
      have e3 : (c.toNat : Int).tmod 16 = (r : Int) := by rw [Int.tmod_eq_emod_of_nonneg (by omega)]; omega
      have e4 : (c.toNat : Int) % 16 = (r : Int) := by omega
      have e5 : IntKind.u8.wrap ((a : Int) + 1) = (a1 : Int) := by rw [IntKind.wrap_u8]; omega
      have e6 : IntKind.u8.wrap ((r : Int) + 1) = (r1 : Int) := by rw [IntKind.wrap_u8]; omega
      have e7 := bs_append (textK (h.take k)) [digitK a]
      have e8 := bs_append (textK (h.take k) ++ [digitK a]) [digitK r]
      have hln := textK_len (h.take k)
      rw [List.length_take] at hln
      have z1 : (bs (textK (h.take k))).size ≤ 64 := by show (textK (h.take k)).toArray.size ≤ 64; simp; omega
      have z2 : (bs (textK (h.take k) ++ [digitK a])).size ≤ 65 := by show (textK (h.take k) ++ [digitK a]).toArray.size ≤ 65; simp; omega
      have z3 : (bs [digitK a]).size = 1 := rfl
      have z4 : (bs [digitK r]).size = 1 := rfl
      clear hln
      have q0 : (k : Int) < 32 := by omega
      have HTS := Lib.hid hts
      have HBB := Lib.hid hb
      have HST := Lib.hid hst
      have HLT := Lib.hid hlt
      clear hts hb hst hlt hkc ha hr ha1 hr1
      go_wp2
      go_quiet (fail)
      rw [← HTS.out]
      have HB9 := Lib.hid (HBB.out.stay (stay_drewN (X := fun _ => False) wr nq) (fun x => x))
      have HST9 := Lib.hid (HST.out.trans (stay_drewN (X := fun _ => False) wr nq))
      clear e0 e1 e2 e3 e4 e5 e6 e7 e8 d1 d2 z1 z2 z3 z4 cc
      go_wp2
      have hl := HLT.out
      first
        | exact ⟨⟨k + 1, by omega, by go_num, rfl, HB9.out, HST9.out⟩, by simp [intOf]; omega⟩
        | (go_round
           case rel => exact ⟨k + 1, by omega, by go_num, rfl, HB9.out, HST9.out⟩
           case measure => simp [intOf]; omega)
    · obtain rfl : k = 32 := by omega
      rw [List.take_of_length_le (by have := HL.out; omega)]
      have HST := Lib.hid hst
      clear hst hb
      go_wp2
      go_ret
      exact ⟨rfl, HST.out⟩
end Go.Proofs.YtljhfccaoncjeaaDoor.Ke
