/-
  table: Build where it succeeds; the filter; where a key would be; a key's entry; all entries.
-/
import Derived.Test.YtahfgoafiepioaaGreatDoorGaT
import Derived.Test.YtahfgoafiepioaaGreatDoorTbK
import Derived.Test.YtahfgoafiepioaaGreatDoorGaM
namespace Go.Proofs.YtahfgoafiepioaaGreatDoor.Tb
open Go.RowKit
open Pk (stay_seal)
open Me (En EnS EnO Box enC enV norm ltB Sorted getL posN hasB sizeL)
open Pk (spellB bytesB Slc Owns)
open Bo (FAt)
set_option maxRecDepth 100000
set_option linter.unusedVariables false

set_option maxHeartbeats 4000000 in
theorem build_ok (w : World) (x : Value) (L : List En) (p q : Nat) (hx : EnS w x L) (hs : Sorted L) (hp : 1 ≤ p) (hp2 : p ≤ 1000) (hq : 1 ≤ q) (hq2 : q ≤ 64) (hn : 1 ≤ L.length) (hl : L.length ≤ 1000) (hz : sizeL L ≤ 1000000000) (ht : (tabB L p q).length ≤ 1048576) :
    Calls Tryz.prog 7 #[x, .int .i64 (p : Int), .int .i64 (q : Int)] w fun e w' => (∃ v, e = .returned (.tuple #[v, .nilIface]) ∧ Owns w.heap.size w' v (tabB L p q)) ∧ Stay (fun _ => False) w w' := by
  have HX := Lib.hid hx
  obtain ⟨a0, c, rfl⟩ := hx.form
  have hsd : decide (Sorted L) = true := decide_eq_true hs
  have HA := Lib.hid (asc_any w _ L hx (by omega))
  rw [hsd] at HA
  have hqn : q * L.length ≤ 64 * 1000 := Nat.mul_le_mul hq2 hl
  have HFO := Lib.hid (show ∀ W, Stay (fun _ => False) w W → Calls Tryz.prog 21 #[.slice a0 L.length c, .int .i64 (q : Int)] W fun e w' => ∃ pf gf, e = .returned (.tuple #[.pointer (some ⟨pf, 0, none⟩), .nilIface]) ∧ FAt w' pf gf 3 (filtB L q) ∧ Stay (fun _ => False) W w' from fun W hW =>
    filterOf_any W _ L q (HX.out.stay0 hW) (fit_of (by omega)) hq hn (by omega) (by omega) (by omega))
  have HLY := Lib.hid (show ∀ W pf gf, Stay (fun _ => False) w W → FAt W pf gf 3 (filtB L q) → Calls Tryz.prog 22 #[.slice a0 L.length c, .int .i64 (p : Int), .pointer (some ⟨pf, 0, none⟩)] W fun e w' => ∃ v, e = .returned v ∧ Owns W.heap.size w' v (tabB L p q) ∧ Stay (fun _ => False) W w' from fun W pf gf hW hf =>
    lay_any W _ L p pf gf q (HX.out.stay0 hW) hf hp (by omega) hn hl hz (by omega))
  obtain ⟨T, hT⟩ : ∃ T, T = tabB L p q := ⟨_, rfl⟩
  rw [← hT] at HLY ht ⊢
  generalize L.length = n at *
  have h1 : (1 : Int) ≤ p := by omega
  have h2 : (p : Int) ≤ 1000 := by omega
  have h3 : (1 : Int) ≤ q := by omega
  have h4 : (q : Int) ≤ 64 := by omega
  have h5 : (n : Int) ≤ 1000 := by omega
  have h6 : (1 : Int) ≤ n := by omega
  have h7 : (T.length : Int) ≤ 1048576 := by omega
  have hn0 : ((n : Int) == 0) = false := beq_eq_false_iff_ne.2 (by omega)
  have hd1 : decide ((p : Int) < 1) = false := decide_eq_false (by omega)
  have hd2 : decide ((1000 : Int) < p) = false := decide_eq_false (by omega)
  have hd3 : decide ((q : Int) < 1) = false := decide_eq_false (by omega)
  have hd4 : decide ((64 : Int) < q) = false := decide_eq_false (by omega)
  clear hx hs hsd hT hz hqn hp hp2 hq hq2 hn hl ht
  go_enter Tryz.func7, Tryz.ntmps7
  go_wp2_with fail
  refine HA.out.mono ?_
  rintro e w1 ⟨rfl, hs1⟩
  have HS1 := Lib.hid hs1
  clear hs1
  go_wp2_with fail
  refine (HFO.out w1 HS1.out).mono ?_
  rintro e w2 ⟨pf, gf, rfl, hf2, hs2⟩
  have HS2 := Lib.hid (HS1.out.trans hs2)
  have HF2 := Lib.hid hf2
  clear hs2 hf2
  go_wp2_with fail
  refine (HLY.out w2 pf gf HS2.out HF2.out).mono ?_
  rintro e w3 ⟨v3, rfl, ho3, hs3⟩
  have HO3 := Lib.hid ho3
  have HS3 := Lib.hid (HS2.out.trans hs3)
  have hz2 := HS2.out.size
  obtain ⟨a3, c3, rfl⟩ := ho3.form
  clear ho3 hs3
  go_wp2
  go_ret2
  exact ⟨⟨_, rfl, HO3.out.base (fun j hj => Nat.le_trans hz2 (HO3.out.lt j hj).1)⟩, HS3.out⟩

/-- In which part a key would be; -1: in none. -/
def findN (L : List En) (p q : Nat) (k : List UInt8) (j : Nat) : Int := if mayT L q k = true ∧ ltB (lastK L) k = false then (j : Int) - 1 else -1
theorem from_isJ {L : List En} {p j : Nat} {k : List UInt8} (h : From (cN L.length p) (fun i => ltB k (keyAt L (i * p))) j) : IsJ L p k j := ⟨h.le, h.lo, fun hj => h.hi j (Nat.le_refl _) hj⟩
theorem find_mono {L : List En} {p : Nat} {k : List UInt8} (hp : 1 ≤ p) (hs : Sorted L) (i j : Nat) (hij : i ≤ j) (hj : j < cN L.length p) (h : ltB k (keyAt L (i * p)) = true) : ltB k (keyAt L (j * p)) = true := by
  have h1 := (cN_lt (n := L.length) hp).1 hj
  exact Me.lt_le h (key_le hs (Nat.mul_le_mul_right p hij) h1)
theorem isJ_ex (L : List En) (p : Nat) (k : List UInt8) (hp : 1 ≤ p) (hs : Sorted L) : ∃ j, IsJ L p k j := by
  have key : ∀ m, m ≤ cN L.length p → (∃ j, j ≤ m ∧ (∀ i, i < j → ltB k (keyAt L (i * p)) = false) ∧ (j < m → ltB k (keyAt L (j * p)) = true)) := by
    intro m
    induction m with
    | zero => exact fun _ => ⟨0, Nat.le_refl _, fun i hi => by omega, fun h => by omega⟩
    | succ m ih =>
      intro hm
      obtain ⟨j, h1, h2, h3⟩ := ih (by omega)
      by_cases hj : j < m
      · exact ⟨j, by omega, h2, fun _ => h3 hj⟩
      · obtain rfl : j = m := by omega
        cases hb : ltB k (keyAt L (j * p)) with
        | true => exact ⟨j, by omega, h2, fun _ => hb⟩
        | false => exact ⟨j + 1, Nat.le_refl _, fun i hi => by
            by_cases h : i = j
            · subst h; exact hb
            · exact h2 i (by omega), fun h => by omega⟩
  obtain ⟨j, h1, h2, h3⟩ := key _ (Nat.le_refl _)
  exact ⟨j, h1, h2, h3⟩
end Go.Proofs.YtahfgoafiepioaaGreatDoor.Tb
