/-
  The document's answer (chapter 2): the number that bytes begin with.
-/
import Derived.Test.YteogdihacohkfaaGreatDoorPkRef
import Derived.Test.YteogdihacohkfaaGreatDoorGaK
import Derived.Test.YteogdihacohkfaaGreatDoorPkLess
namespace Go.Proofs.YteogdihacohkfaaGreatDoor.Pk
open Go.RowKit
set_option maxRecDepth 100000

/-- What the document's 'number' hands back: it, how many bytes it has, no error; or the error. -/
def RNumRet (b : List UInt8) : Except Nat (Nat × List UInt8) → Ending → Prop
  | .error c, e => e = .returned (.tuple #[.int .u64 0, .int .i64 0, .int .i64 (c : Int)])
  | .ok (n, r), e => ∃ k : Nat, k ≤ b.length ∧ r = b.drop k ∧ e = .returned (.tuple #[.int .u64 (n : Int), .int .i64 (k : Int), .int .i64 0])

theorem lead_step_table : ∀ c : Fin 256, ∀ j : Fin 8, (j.val < leadN c.val → onesN (j.val + 1) ≤ c.val) ∧ (j.val = leadN c.val → c.val < onesN (j.val + 1)) := by decide +kernel
theorem lead_step (c : UInt8) {j : Nat} (hj : j < 8) : (j < leadN c.toNat → onesN (j + 1) ≤ c.toNat) ∧ (j = leadN c.toNat → c.toNat < onesN (j + 1)) := lead_step_table ⟨c.toNat, c.toNat_lt⟩ ⟨j, hj⟩
theorem lead_ge_table : ∀ c : Fin 256, onesN (leadN c.val) ≤ c.val := by decide +kernel
theorem lead_ge (c : UInt8) : onesN (leadN c.toNat) ≤ c.toNat := lead_ge_table ⟨c.toNat, c.toNat_lt⟩

theorem more_less {N k : Nat} (hk : k ≤ 8) (h0 : 0 < k) (h : N < 2 ^ (7 * k)) : kOf N < k := by
  rcases Nat.lt_or_ge (kOf N) k with hlt | hge
  · exact hlt
  · have := kOf_lt (n := N) (j := k - 1) (by omega)
    rw [show 7 * (k - 1) + 7 = 7 * k by omega] at this
    omega
theorem more_not {N k : Nat} (hk : k ≤ 8) (h : 0 < k → 2 ^ (7 * k) ≤ N) : ¬ kOf N < k := by
  intro hlt
  have h1 := kOf_ge (n := N) (by omega)
  have h2 : 2 ^ (7 * kOf N + 7) ≤ 2 ^ (7 * k) := Nat.pow_le_pow_right (by decide) (by omega)
  have := h (by omega)
  omega

set_option maxHeartbeats 2000000 in
theorem rnum_main (c : UInt8) (r : List UInt8) (w : World) (x : Value) (hx : Slc w x (c :: r)) : Calls Tryz.prog 97 #[x] w fun e w' => RNumRet (c :: r) (numB M64 (c :: r)) e ∧ Stay (fun _ => False) w w' := by
  obtain ⟨a0, cap, rfl, hr, hn, hcap, hm⟩ := hx
  obtain ⟨ad, rfl, hcell⟩ := hr (by simp)
  have hc : w.cell? ad = some (.int .u8 (c.toNat : Int)) := hcell 0 _ rfl
  simp only [List.length_cons] at hcap hcell hn hr
  rw [List.length_cons]
  have h0 : (((r.length + 1 : Nat) : Int) == 0) = false := beq_eq_false_iff_ne.2 (by omega)
  have hl8 := leadN_le c.toNat
  have hcb := c.toNat_lt
  have hrl : (r.length : Int) ≤ 9223372036854775806 := by omega
  have HC := Lib.hid hcell
  clear hr hcell hn
  go_enter Tryz.func97, Tryz.ntmps97
  go_wp2
  go_loopw [5] (fun k wr => ∃ j : Nat, j ≤ leadN c.toNat ∧ k = .int .i64 j ∧ Stay (fun _ => False) w wr) (fun k _ => 8 - (intOf k).toNat)
  case atStart => exact ⟨0, Nat.zero_le _, rfl, Stay.refl _ _⟩
  case round =>
    obtain ⟨j, hj, rfl, hst⟩ := hrel
    have hcr := hst.cell hc (fun x => x)
    have e1 : IntKind.i64.wrap ((j : Int) + 1) = (j : Int) + 1 := IntWalk.i64_in _ (by omega)
    have hl1 : (0 : Int) < (r.length : Int) + 1 := by omega
    by_cases hlt : j < leadN c.toNat
    · have hj8 : (j : Int) < 8 := by omega
      have hge := (lead_step c (by omega : j < 8)).1 hlt
      go_wp2_with fail
      go_quiet ((go_at_call 72; exact Calls.quiet_of_same (rones_any (j + 1) _ _ (by omega) (by omega))))
      go_wp2
      go_roundw
      case rel => exact ⟨j + 1, by omega, by go_num, hst.trans (stay_drewN _ _)⟩
      case measure => simp [intOf]; omega
    · obtain rfl : leadN c.toNat = j := by omega
      have hcase : ((leadN c.toNat : Int) < 8 ∧ c.toNat < onesN (leadN c.toNat + 1)) ∨ decide ((leadN c.toNat : Int) < 8) = false := by
        by_cases h : leadN c.toNat < 8
        · exact .inl ⟨by omega, (lead_step c h).2 rfl⟩
        · exact .inr (decide_eq_false (by omega))
      have HKEY := Lib.hid (fun n => hst.trans (stay_drewN (X := fun _ => False) wr n))
      obtain ⟨h1, h2, h3⟩ := lead_first c
      have HF := Lib.hid (fun l hl => fold_small hl8 h1 h2 l hl)
      have HT := Lib.hid (fun l hl => fold_top hl8 h1 h2 l hl)
      have hlg := lead_ge c
      have e2 : IntKind.u8.wrap ((c.toNat : Int) - ((onesN (leadN c.toNat) : Nat) : Int)) = ((c.toNat - onesN (leadN c.toNat) : Nat) : Int) := by
        rw [IntWalk.u8_in _ (by omega)]
        omega
      have HE2 := Lib.hid e2
      clear hlt h1 h2 e2
      rcases hcase with ⟨hj8, hge⟩ | hd
      all_goals
        go_wp2_with fail
        first
          | go_quiet ((go_at_call 72; exact Calls.quiet_of_same (rones_any (leadN c.toNat + 1) _ _ (by omega) (by omega))))
          | go_quiet (fail)
        generalize hw2 : wr.drewN nq = w2
        have hst2 : Stay (fun _ => False) w w2 := hw2 ▸ HKEY.out nq
        have hcr2 := hst2.cell hc (fun x => x)
        have HKEY2 := Lib.hid (fun n => hst2.trans (stay_drewN (X := fun _ => False) w2 n))
        clear hw2 hst hcr HKEY
        by_cases hk : r.length < leadN c.toNat
        · have hnum : numB M64 (c :: r) = .error 12 := by
            unfold numB
            simp only []
            rw [if_pos hk]
          have HN := Lib.hid hnum
          clear hnum
          go_wp2
          go_ret3
          exact ⟨by rw [HN.out]; rfl, hst2⟩
        · go_wp2_with fail
          have e2 := HE2.out
          go_quiet ((go_at_call 72; exact Calls.quiet_of_same (rones_any (leadN c.toNat) _ _ rfl hl8)))
          clear e2
          generalize hw3 : w2.drewN nq = w3
          have hst3 : Stay (fun _ => False) w w3 := hw3 ▸ HKEY2.out nq
          clear hw3 hst2 hcr2 HKEY2
          go_wp2
          go_loop [6, 7] (fun n i => ∃ j : Nat, j ≤ leadN c.toNat ∧ i = .int .i64 ((j + 1 : Nat) : Int) ∧ n = .int .u64 ((foldB (c.toNat - onesN (leadN c.toNat)) (r.take j) : Nat) : Int)) (fun _ i => leadN c.toNat + 1 - (intOf i).toNat)
          case atStart => exact ⟨0, Nat.zero_le _, rfl, rfl⟩
          case round =>
            obtain ⟨j, hj, rfl, rfl⟩ := hrel
            by_cases hlt : j < leadN c.toNat
            · obtain ⟨b, hb⟩ : ∃ b, r[j]? = some b := ⟨_, List.getElem?_eq_getElem (by omega)⟩
              have hcj := hst3.cell (HC.out (j + 1) (byteV b) (by simp [cellsB, hb])) (fun x => x)
              unfold byteV at hcj
              have hcj2 := hcj
              unfold Addr.add at hcj2
              rw [if_neg (by omega)] at hcj2
              have HS := Lib.hid (show foldB (c.toNat - onesN (leadN c.toNat)) (r.take (j + 1)) = foldB (c.toNat - onesN (leadN c.toNat)) (r.take j) * 256 + b.toNat by rw [List.take_add_one, hb]; exact foldB_snoc _ _ _)
              have hsm := HF.out (r.take j) (by rw [List.length_take]; omega)
              have hbb := b.toNat_lt
              clear hb
              generalize foldB (c.toNat - onesN (leadN c.toNat)) (r.take j) = F at *
              go_wp2
              go_round
              case rel => exact ⟨j + 1, by omega, by go_num, by rw [HS.out]; congr 1; omega⟩
              case measure => simp [intOf]; omega
            · obtain rfl : leadN c.toNat = j := by omega
              obtain ⟨N, hN⟩ : ∃ N, N = foldB (c.toNat - onesN (leadN c.toNat)) (r.take (leadN c.toNat)) := ⟨_, rfl⟩
              have hNt : N < 18446744073709551616 := by rw [hN]; exact HT.out _ (by rw [List.length_take]; omega)
              have HN := Lib.hid hN
              rw [← hN]
              have hk8 := kOf_le N
              clear hN hlt
              by_cases hform : 0 < leadN c.toNat ∧ N < 2 ^ (7 * leadN c.toNat)
              · have hnum := Lib.hid (numB_form (most := M64) (Nat.le_of_not_lt hk) hform.1 HN.out hform.2)
                have hm := more_less hl8 hform.1 hform.2
                clear hform
                go_wp2_with fail
                refine (more_any N w3).mono ?_
                rintro e w4 ⟨rfl, rfl⟩
                go_wp2
                go_ret3
                exact ⟨by rw [hnum.out]; rfl, hst3⟩
              · have hge : 0 < leadN c.toNat → 2 ^ (7 * leadN c.toNat) ≤ N := fun h => Nat.le_of_not_lt (fun h' => hform ⟨h, h'⟩)
                have hnum := Lib.hid (numB_ok (most := M64) (Nat.le_of_not_lt hk) HN.out hge (by unfold M64; omega))
                have hm := more_not hl8 hge
                clear hform hge
                go_wp2_with fail
                refine (more_any N w3).mono ?_
                rintro e w4 ⟨rfl, rfl⟩
                go_wp2
                go_ret3
                refine ⟨?_, hst3⟩
                rw [hnum.out]
                exact ⟨leadN c.toNat + 1, by simp; omega, rfl, rfl⟩

theorem rnum_any (b : List UInt8) (w : World) (x : Value) (hx : Slc w x b) : Calls Tryz.prog 97 #[x] w fun e w' => RNumRet b (numB M64 b) e ∧ Stay (fun _ => False) w w' := by
  cases b with
  | nil =>
    obtain ⟨a0, c, rfl, _⟩ := hx
    go_enter Tryz.func97, Tryz.ntmps97
    go_wp2
    go_ret3
    exact ⟨rfl, Stay.refl _ _⟩
  | cons c r => exact rnum_main c r w x hx

end Go.Proofs.YteogdihacohkfaaGreatDoor.Pk
