/-
  toggle: so many bytes read from a sector on.
-/
import Derived.Test.YtlmaooeeklhelaaGreatDoorTgC
import Derived.Test.YtlmaooeeklhelaaGreatDoorTgH
namespace Go.Proofs.YtlmaooeeklhelaaGreatDoor.Tg
open Go.RowKit Pk
set_option maxRecDepth 100000

/-- The bytes of k sectors from i on. -/
def secsB (d : DS) (i : Nat) : Nat → List UInt8
  | 0 => []
  | k + 1 => secsB d i k ++ d.cur (i + k)
theorem length_secsB {d : DS} (h : ∀ j, (d.cur j).length = 64) (i : Nat) : ∀ k, (secsB d i k).length = 64 * k
  | 0 => rfl
  | k + 1 => by rw [secsB, List.length_append, length_secsB h i k, h]; omega
/-- So many bytes from sector i on. -/
def bytesB (d : DS) (i n : Nat) : List UInt8 := (secsB d i (parts n)).take n

theorem take_secs {d : DS} (h : ∀ j, (d.cur j).length = 64) (i n k : Nat) : (secsB d i (k + 1)).take n = (secsB d i k).take n ++ (d.cur (i + k)).take (n - 64 * k) := by
  rw [secsB, List.take_append, length_secsB h]

set_option maxHeartbeats 2000000 in
theorem read_bytes (w : World) (pd ps pm : Nat) (d : DS) (i n : Nat) (h : DevAt w pd ps pm d) (hup : ¬ down d = true) (hi : i + parts n ≤ d.n) (hn : n ≤ 1048576) :
    Calls Tryz.prog 44 #[.pointer (some ⟨pd, 0, none⟩), .int .i64 i, .int .i64 n] w fun e w' => ∃ v, e = .returned (.tuple #[v, .nilIface]) ∧ Owns w.heap.size w' v (bytesB d i n) ∧ Stay (fun _ => False) w w' := by
  have hcur : ∀ j, (d.cur j).length = 64 := fun j => cur64 h j
  have HCUR := Lib.hid hcur
  have HD := Lib.hid h
  have hn2 := h.n2
  have HUP := Lib.hid hup
  obtain ⟨i0, hi0, hz0, hz1, hz2⟩ := info_parts info5
  have HI := Lib.hid hi0
  have HZ0 := Lib.hid hz0
  have HZ1 := Lib.hid hz1
  have HZ2 := Lib.hid hz2
  clear hi0 hz0 hz1 hz2 hcur h hup
  go_enter Tryz.func44, Tryz.ntmps44
  go_wp2
  go_loopw [1, 8] (fun s t wr => ∃ k : Nat, k ≤ parts n ∧ s = .int .i64 ((i + k : Nat) : Int) ∧ Owns w.heap.size wr t ((secsB d i k).take n) ∧ Stay (fun _ => False) w wr)
    (fun s _ _ => i + parts n - valI s)
  case atStart => exact ⟨0, Nat.zero_le _, rfl, by simpa [secsB] using Owns.nil _ _, Stay.refl _ _⟩
  case round =>
    obtain ⟨k, hk, rfl, ho, hst⟩ := hrel
    obtain ⟨a1, c1, rfl⟩ := ho.form
    have hlt : ((secsB d i k).take n).length = min n (64 * k) := by rw [List.length_take, length_secsB HCUR.out]
    have HO := Lib.hid ho
    have HST := Lib.hid hst
    rw [hlt]
    clear ho hst
    by_cases hmore : 64 * k < n
    · have hk1 : k + 1 ≤ parts n := parts_lt.2 hmore
      have hm1 : min n (64 * k) = 64 * k := by omega
      rw [hm1]
      have ho' := HO.out
      rw [hlt, hm1] at ho'
      have HO := Lib.hid ho'
      clear ho' hlt hm1
      by_cases hfull : 64 ≤ n - 64 * k
      · have hc := read_all wr pd ps pm d (i + k) (HD.out.stay HST.out (fun x => x) (fun x => x) (fun x => x)) (by omega)
        have e1 : readD d (i + k) = (d.cur (i + k), 0) := if_neg HUP.out
        simp only [e1, errV_zero] at hc
        have HC := Lib.hid hc
        clear hc e1
        go_wp2_with (first
          | (go_at_call 22
             refine HC.out.mono ?_
             rintro e w3 ⟨v3, rfl, ho3, hs3⟩
             obtain ⟨a3, c3, rfl⟩ := ho3.form
             have HO3 := Lib.hid (show Slc w3 (.slice a3 64 c3) ((d.cur (i + k)).take (n - 64 * k)) from by have hq := ho3.slc; have e2 : (d.cur (i + k)).take (n - 64 * k) = d.cur (i + k) := List.take_of_length_le (by rw [HCUR.out]; omega); rw [e2]; rw [HCUR.out (i + k)] at hq; exact hq)
             have HB3 := Lib.hid (HO.out.stay0 hs3)
             have HS3 := Lib.hid (HST.out.trans hs3)
             obtain ⟨_, _, ex3, _, _, hc3, hc3m⟩ := ho3.slc
             cases ex3
             rw [HCUR.out (i + k)] at hc3
             clear ho3 hs3
             rw [HCUR.out (i + k)])
          | (at_builtin
             refine wpList_append_slc rfl (.tmp 24) (.tmp 33) 37 rfl w.heap.size i0 Tryz.underlying37 HI.out HZ0.out HZ1.out HZ2.out _ _ ((secsB d i k).take n) ((d.cur (i + k)).take (n - 64 * k)) rfl rfl HB3.out HO3.out ?elen ?ebase ?_
             case elen => rw [List.length_take, List.length_take, HCUR.out, length_secsB HCUR.out]; omega
             case ebase => exact HS3.out.size
             intro v4 w4 ho4 hg4 _
             have HS4 := Lib.hid (stay_seal (X := fun q => some q = (Value.slice a1 (64 * k) c1).ownBlock) ((HS3.out.mono (fun _ x => x.elim)).trans (Stay.grown hg4 (fun q e => e.symm))) (fun q hq => (HB3.out.lt q hq.symm).1))
             have HO4 := Lib.hid (show Owns w.heap.size w4 v4 ((secsB d i (k + 1)).take n) from by rw [take_secs HCUR.out]; exact ho4)
             clear ho4 hg4))
        go_roundw
        case rel => exact ⟨k + 1, hk1, by go_num, HO4.out, HS4.out⟩
        case measure => simp [valI]; omega
      · have hc := read_all wr pd ps pm d (i + k) (HD.out.stay HST.out (fun x => x) (fun x => x) (fun x => x)) (by omega)
        have e1 : readD d (i + k) = (d.cur (i + k), 0) := if_neg HUP.out
        simp only [e1, errV_zero] at hc
        have HC := Lib.hid hc
        clear hc e1
        go_wp2_with (first
          | (go_at_call 22
             refine HC.out.mono ?_
             rintro e w3 ⟨v3, rfl, ho3, hs3⟩
             obtain ⟨a3, c3, rfl⟩ := ho3.form
             have HO3 := Lib.hid (show Slc w3 (.slice a3 (n - 64 * k) c3) ((d.cur (i + k)).take (n - 64 * k)) from ho3.slc.first (k := n - 64 * k) (by rw [HCUR.out]; omega))
             have HB3 := Lib.hid (HO.out.stay0 hs3)
             have HS3 := Lib.hid (HST.out.trans hs3)
             obtain ⟨_, _, ex3, _, _, hc3, hc3m⟩ := ho3.slc
             cases ex3
             rw [HCUR.out (i + k)] at hc3
             clear ho3 hs3
             rw [HCUR.out (i + k)])
          | (at_builtin
             refine wpList_append_slc rfl (.tmp 24) (.tmp 33) 37 rfl w.heap.size i0 Tryz.underlying37 HI.out HZ0.out HZ1.out HZ2.out _ _ ((secsB d i k).take n) ((d.cur (i + k)).take (n - 64 * k)) rfl rfl HB3.out ?hsrc ?elen ?ebase ?_
             case hsrc => have e2 : (if (n : Int) - 64 * (k : Int) < 64 then (n : Int) - 64 * (k : Int) else 64).toNat = n - 64 * k := (by rw [if_pos (by omega)]; omega); show Slc w3 (.slice a3 (if (n : Int) - 64 * (k : Int) < 64 then (n : Int) - 64 * (k : Int) else 64).toNat c3) _; rw [e2]; exact HO3.out
             case elen => rw [List.length_take, List.length_take, HCUR.out, length_secsB HCUR.out]; omega
             case ebase => exact HS3.out.size
             intro v4 w4 ho4 hg4 _
             have HS4 := Lib.hid (stay_seal (X := fun q => some q = (Value.slice a1 (64 * k) c1).ownBlock) ((HS3.out.mono (fun _ x => x.elim)).trans (Stay.grown hg4 (fun q e => e.symm))) (fun q hq => (HB3.out.lt q hq.symm).1))
             have HO4 := Lib.hid (show Owns w.heap.size w4 v4 ((secsB d i (k + 1)).take n) from by rw [take_secs HCUR.out]; exact ho4)
             clear ho4 hg4))
        go_roundw
        case rel => exact ⟨k + 1, hk1, by go_num, HO4.out, HS4.out⟩
        case measure => simp [valI]; omega
    · have hkp : k = parts n := by have := mt (parts_lt (n := n) (k := k)).1 hmore; omega
      have hm1 : min n (64 * k) = n := by omega
      rw [hm1]
      have ho' := HO.out
      rw [hlt, hm1] at ho'
      have HO := Lib.hid ho'
      clear ho' hlt hm1
      go_wp2
      go_ret2
      exact ⟨_, rfl, by unfold bytesB; rw [← hkp]; exact HO.out, HST.out⟩

end Go.Proofs.YtlmaooeeklhelaaGreatDoor.Tg
