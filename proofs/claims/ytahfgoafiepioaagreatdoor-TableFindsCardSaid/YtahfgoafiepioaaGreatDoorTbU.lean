/-
  table: Build, refused; Build of any entries.
-/
import Derived.Test.YtahfgoafiepioaaGreatDoorTbT
import Derived.Test.YtahfgoafiepioaaGreatDoorTbL
namespace Go.Proofs.YtahfgoafiepioaaGreatDoor.Tb
open Go.RowKit
open Pk (stay_seal)
open Me (En EnS EnO Box enC enV norm ltB Sorted getL posN hasB sizeL)
open Pk (spellB bytesB Slc Owns)
open Bo (FAt)
set_option maxRecDepth 100000
set_option linter.unusedVariables false

def errT (c : Nat) : Value := if c = 0 then .nilIface else .iface 59 (.int .i64 (c : Int))

set_option maxHeartbeats 1200000 in
theorem build_bad (w : World) (a0 : Option Addr) (n c : Nat) (x0 x1 : Int) (hn : (n : Int) ≤ 1000000) (hb : n = 0 ∨ x0 < 1 ∨ 1000 < x0 ∨ x1 < 1 ∨ 64 < x1) :
    Calls Tryz.prog 7 #[.slice a0 n c, .int .i64 x0, .int .i64 x1] w fun e w' => e = .returned (.tuple #[.slice none 0 0, errT 1]) ∧ Stay (fun _ => False) w w' := by
  have HB := Lib.hid hb
  clear hb
  by_cases h0 : n = 0
  · have d0 : ((n : Int) == 0) = true := beq_iff_eq.2 (by omega)
    clear h0
    go_enter Tryz.func7, Tryz.ntmps7
    go_wp2
    go_ret2
    exact ⟨rfl, Stay.refl _ _⟩
  · have d0 : ((n : Int) == 0) = false := beq_eq_false_iff_ne.2 (by omega)
    by_cases h1 : x0 < 1
    · have d1 : (decide (x0 < 1)) = true := decide_eq_true (by omega)
      clear h1
      go_enter Tryz.func7, Tryz.ntmps7
      go_wp2
      go_ret2
      exact ⟨rfl, Stay.refl _ _⟩
    · have d1 : (decide (x0 < 1)) = false := decide_eq_false (by omega)
      by_cases h2 : 1000 < x0
      · have d2 : (decide (1000 < x0)) = true := decide_eq_true (by omega)
        clear h2
        go_enter Tryz.func7, Tryz.ntmps7
        go_wp2
        go_ret2
        exact ⟨rfl, Stay.refl _ _⟩
      · have d2 : (decide (1000 < x0)) = false := decide_eq_false (by omega)
        by_cases h3 : x1 < 1
        · have d3 : (decide (x1 < 1)) = true := decide_eq_true (by omega)
          clear h3
          go_enter Tryz.func7, Tryz.ntmps7
          go_wp2
          go_ret2
          exact ⟨rfl, Stay.refl _ _⟩
        · have d3 : (decide (x1 < 1)) = false := decide_eq_false (by omega)
          by_cases h4 : 64 < x1
          · have d4 : (decide (64 < x1)) = true := decide_eq_true (by omega)
            clear h4
            go_enter Tryz.func7, Tryz.ntmps7
            go_wp2
            go_ret2
            exact ⟨rfl, Stay.refl _ _⟩
          · have d4 : (decide (64 < x1)) = false := decide_eq_false (by omega)
            exact absurd HB.out (by omega)

set_option maxHeartbeats 1200000 in
theorem build_order (w : World) (x : Value) (L : List En) (p q : Nat) (hx : EnS w x L) (hs : ¬ Sorted L) (hp : 1 ≤ p) (hp2 : p ≤ 1000) (hq : 1 ≤ q) (hq2 : q ≤ 64) (hn : 1 ≤ L.length) (hl : L.length ≤ 1000) :
    Calls Tryz.prog 7 #[x, .int .i64 (p : Int), .int .i64 (q : Int)] w fun e w' => e = .returned (.tuple #[.slice none 0 0, errT 41]) ∧ Stay (fun _ => False) w w' := by
  have HX := Lib.hid hx
  obtain ⟨a0, c, rfl⟩ := hx.form
  have hsd : decide (Sorted L) = false := decide_eq_false hs
  have HA := Lib.hid (asc_any w _ L hx (by omega))
  rw [hsd] at HA
  generalize L.length = n at *
  have h1 : (1 : Int) ≤ p := by omega
  have h2 : (p : Int) ≤ 1000 := by omega
  have h3 : (1 : Int) ≤ q := by omega
  have h4 : (q : Int) ≤ 64 := by omega
  have h5 : (n : Int) ≤ 1000 := by omega
  have h6 : (1 : Int) ≤ n := by omega
  have hn0 : ((n : Int) == 0) = false := beq_eq_false_iff_ne.2 (by omega)
  have hd1 : decide ((p : Int) < 1) = false := decide_eq_false (by omega)
  have hd2 : decide ((1000 : Int) < p) = false := decide_eq_false (by omega)
  have hd3 : decide ((q : Int) < 1) = false := decide_eq_false (by omega)
  have hd4 : decide ((64 : Int) < q) = false := decide_eq_false (by omega)
  clear hx hs hsd hp hp2 hq hq2 hn hl
  go_enter Tryz.func7, Tryz.ntmps7
  go_wp2_with fail
  refine HA.out.mono ?_
  rintro e w1 ⟨rfl, hs1⟩
  have HS1 := Lib.hid hs1
  clear hs1
  go_wp2
  go_ret2
  exact ⟨rfl, HS1.out⟩

set_option maxHeartbeats 4000000 in
theorem build_gen (w : World) (x : Value) (L : List En) (p q : Nat) (D : List UInt8) (f : Nat) (hx : EnS w x L) (hs : Sorted L) (hp : 1 ≤ p) (hp2 : p ≤ 1000) (hq : 1 ≤ q) (hq2 : q ≤ 64) (hn : 1 ≤ L.length) (hl : L.length ≤ 1000) (hz : sizeL L ≤ 1000000000) (hD : if (tabB L p q).length ≤ 1048576 then D = tabB L p q ∧ f = 0 else D = [] ∧ f = 2) :
    Calls Tryz.prog 7 #[x, .int .i64 (p : Int), .int .i64 (q : Int)] w fun e w' => (∃ v, e = .returned (.tuple #[v, errT f]) ∧ Owns w.heap.size w' v D) ∧ Stay (fun _ => False) w w' := by
  have HX := Lib.hid hx
  obtain ⟨a0, c, rfl⟩ := hx.form
  have hsd : decide (Sorted L) = true := decide_eq_true hs
  have HA := Lib.hid (asc_any w _ L hx (by omega))
  rw [hsd] at HA
  have hqn : q * L.length ≤ 64 * 1000 := Nat.mul_le_mul hq2 hl
  have HFO := Lib.hid (show ∀ W, Stay (fun _ => False) w W → Calls Tryz.prog 21 #[.slice a0 L.length c, .int .i64 (q : Int)] W fun e w' => ∃ pf gf, e = .returned (.tuple #[.pointer (some ⟨pf, 0, none⟩), .nilIface]) ∧ FAt w' pf gf 3 (filtB L q) ∧ Stay (fun _ => False) W w' from fun W hW =>
    filterOf_any W _ L q (HX.out.stay0 hW) (fit_of (by omega)) hq hn (by omega) (by omega) (by omega))
  have HLY := Lib.hid (show ∀ W pf gf, Stay (fun _ => False) w W → FAt W pf gf 3 (filtB L q) → Calls Tryz.prog 22 #[.slice a0 L.length c, .int .i64 (p : Int), .pointer (some ⟨pf, 0, none⟩)] W fun e w' => ∃ v, e = .returned v ∧ Owns W.heap.size w' v (tabB L p q) ∧ Stay (fun _ => False) W w' from fun W pf gf hW hf =>
    lay_any W _ L p pf gf q (HX.out.stay0 hW) hf hp (by omega) hn hl hz (by omega))
  obtain ⟨T, hT⟩ : ∃ T, T = tabB L p q := ⟨_, rfl⟩
  rw [← hT] at HLY hD
  have HDD := Lib.hid hD
  generalize L.length = n at *
  have h1 : (1 : Int) ≤ p := by omega
  have h2 : (p : Int) ≤ 1000 := by omega
  have h3 : (1 : Int) ≤ q := by omega
  have h4 : (q : Int) ≤ 64 := by omega
  have h5 : (n : Int) ≤ 1000 := by omega
  have h6 : (1 : Int) ≤ n := by omega
  have hn0 : ((n : Int) == 0) = false := beq_eq_false_iff_ne.2 (by omega)
  have hd1 : decide ((p : Int) < 1) = false := decide_eq_false (by omega)
  have hd2 : decide ((1000 : Int) < p) = false := decide_eq_false (by omega)
  have hd3 : decide ((q : Int) < 1) = false := decide_eq_false (by omega)
  have hd4 : decide ((64 : Int) < q) = false := decide_eq_false (by omega)
  clear hx hs hsd hT hz hqn hp hp2 hq hq2 hn hl hD
  go_enter Tryz.func7, Tryz.ntmps7
  go_wp2_with fail
  refine HA.out.mono ?_
  rintro e w1 ⟨rfl, hs1⟩
  have HS1 := Lib.hid hs1
  clear hs1
  go_wp2_with fail
  refine (HFO.out w1 HS1.out).mono ?_
  rintro e w2 ⟨pf, gf, rfl, hf2, hs2⟩
  have HS2 := Lib.hid (HS1.out.trans hs2)
  have HF2 := Lib.hid hf2
  clear hs2 hf2
  go_wp2_with fail
  refine (HLY.out w2 pf gf HS2.out HF2.out).mono ?_
  rintro e w3 ⟨v3, rfl, ho3, hs3⟩
  have HO3 := Lib.hid ho3
  have HS3 := Lib.hid (HS2.out.trans hs3)
  have hz2 := HS2.out.size
  obtain ⟨a3, c3, rfl⟩ := ho3.form
  clear ho3 hs3
  have hdd := HDD.out
  by_cases htl : T.length ≤ 1048576
  · rw [if_pos htl] at hdd
    obtain ⟨rfl, rfl⟩ := hdd
    have htl' : decide ((1048576 : Int) < (D.length : Int)) = false := decide_eq_false (by omega)
    clear htl
    go_wp2
    go_ret2
    exact ⟨⟨_, rfl, HO3.out.base (fun j hj => Nat.le_trans hz2 (HO3.out.lt j hj).1)⟩, HS3.out⟩
  · rw [if_neg htl] at hdd
    obtain ⟨rfl, rfl⟩ := hdd
    have htl' : decide ((1048576 : Int) < (T.length : Int)) = true := decide_eq_true (by omega)
    clear htl
    go_wp2
    go_ret2
    exact ⟨⟨_, rfl, Owns.nil _ _⟩, HS3.out⟩

end Go.Proofs.YtahfgoafiepioaaGreatDoor.Tb
