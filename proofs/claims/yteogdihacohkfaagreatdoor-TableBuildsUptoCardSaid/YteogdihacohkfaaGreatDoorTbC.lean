/-
  table: sort.Search, for any closure over two boxes that tells one way from some place on; the two closures.
-/
import Derived.Test.YteogdihacohkfaaGreatDoorTbB
namespace Go.Proofs.YteogdihacohkfaaGreatDoor.Tb
open Go.RowKit
open Me (En EnS EnO Box enC enV norm ltB Sorted getL posN hasB sizeL)
open Bo (FAt)
set_option maxRecDepth 100000
set_option linter.unusedVariables false

/-- Where it begins to be so. -/
structure From (n : Nat) (f : Nat → Bool) (j : Nat) : Prop where
  le : j ≤ n
  lo : ∀ i, i < j → f i = false
  hi : ∀ i, j ≤ i → i < n → f i = true

set_option maxHeartbeats 4000000 in
theorem search_get (n : Nat) (f : Nat → Bool) (p1 p2 : Value) (w : World) (hn : n ≤ 1000000) (hm : ∀ i j, i ≤ j → j < n → f i = true → f j = true)
    (hc : ∀ W, Stay (fun _ => False) w W → ∀ i : Nat, i < n → Calls Tryz.prog 53 #[.int .i64 (i : Int), p1, p2] W fun e w' => e = .returned (.bool (f i)) ∧ Stay (fun _ => False) W w') :
    Calls Tryz.prog 52 #[.int .i64 (n : Int), .func (.func 53) #[] #[p1, p2]] w fun e w' => (∃ j : Nat, e = .returned (.int .i64 (j : Int)) ∧ From n f j) ∧ Stay (fun _ => False) w w' := by
  have HC := Lib.hid hc
  have HM := Lib.hid hm
  have hcm : (n : Int) ≤ 1000000 := by omega
  clear hc hm hn
  go_enter Tryz.func52, Tryz.ntmps52
  go_wp2
  go_loopw [5, 6] (fun i j wr => ∃ lo hi : Nat, i = .int .i64 (lo : Int) ∧ j = .int .i64 (hi : Int) ∧ lo ≤ hi ∧ hi ≤ n ∧ Hid (∀ t, t < lo → f t = false) ∧ Hid (∀ t, hi ≤ t → t < n → f t = true) ∧ Stay (fun _ => False) w wr) (fun i j _ => (intOf j).toNat - (intOf i).toNat)
  case atStart => exact ⟨0, n, rfl, rfl, Nat.zero_le _, Nat.le_refl _, Lib.hid (fun t ht => by omega), Lib.hid (fun t h1 h2 => by omega), Stay.refl _ _⟩
  case round =>
    obtain ⟨lo, hi, rfl, rfl, hle, hlen, hlo, hhi, hst⟩ := hrel
    have HT := Lib.hid hst
    clear hst
    by_cases hlt : lo < hi
    · have HCC := Lib.hid (HC.out wr HT.out ((lo + hi) / 2) (by omega))
      obtain ⟨b, hb⟩ : ∃ b, f ((lo + hi) / 2) = b := ⟨_, rfl⟩
      rw [hb] at HCC
      have HB := Lib.hid hb
      clear hb
      go_wp2_with fail
      refine HCC.out.mono ?_
      rintro e w2 ⟨rfl, s2⟩
      have HT2 := Lib.hid (HT.out.trans s2)
      clear s2
      cases b with
      | true =>
        have H2 := Lib.hid (show ∀ t, (lo + hi) / 2 ≤ t → t < n → f t = true from fun t h1 h2 => HM.out _ t h1 h2 HB.out)
        go_wp2
        refine ⟨⟨lo, (lo + hi) / 2, rfl, rfl, by omega, by omega, hlo, H2, HT2.out⟩, by simp [intOf]; omega⟩
      | false =>
        have H2 := Lib.hid (show ∀ t, t < (lo + hi) / 2 + 1 → f t = false from fun t h1 => by
          cases h : f t with
          | false => rfl
          | true => have := HM.out t ((lo + hi) / 2) (by omega) (by omega) h; rw [HB.out] at this; cases this)
        go_wp2
        refine ⟨⟨(lo + hi) / 2 + 1, hi, by go_num, rfl, by omega, by omega, H2, hhi, HT2.out⟩, by simp [intOf]; omega⟩
    · obtain rfl : lo = hi := by omega
      go_wp2
      go_ret
      exact ⟨⟨lo, rfl, ⟨hlen, hlo.out, hhi.out⟩⟩, HT.out⟩

set_option maxHeartbeats 4000000 in
theorem search_find (n : Nat) (f : Nat → Bool) (p1 p2 : Value) (w : World) (hn : n ≤ 1000000) (hm : ∀ i j, i ≤ j → j < n → f i = true → f j = true)
    (hc : ∀ W, Stay (fun _ => False) w W → ∀ i : Nat, i < n → Calls Tryz.prog 56 #[.int .i64 (i : Int), p1, p2] W fun e w' => e = .returned (.bool (f i)) ∧ Stay (fun _ => False) W w') :
    Calls Tryz.prog 52 #[.int .i64 (n : Int), .func (.func 56) #[] #[p1, p2]] w fun e w' => (∃ j : Nat, e = .returned (.int .i64 (j : Int)) ∧ From n f j) ∧ Stay (fun _ => False) w w' := by
  have HC := Lib.hid hc
  have HM := Lib.hid hm
  have hcm : (n : Int) ≤ 1000000 := by omega
  clear hc hm hn
  go_enter Tryz.func52, Tryz.ntmps52
  go_wp2
  go_loopw [5, 6] (fun i j wr => ∃ lo hi : Nat, i = .int .i64 (lo : Int) ∧ j = .int .i64 (hi : Int) ∧ lo ≤ hi ∧ hi ≤ n ∧ Hid (∀ t, t < lo → f t = false) ∧ Hid (∀ t, hi ≤ t → t < n → f t = true) ∧ Stay (fun _ => False) w wr) (fun i j _ => (intOf j).toNat - (intOf i).toNat)
  case atStart => exact ⟨0, n, rfl, rfl, Nat.zero_le _, Nat.le_refl _, Lib.hid (fun t ht => by omega), Lib.hid (fun t h1 h2 => by omega), Stay.refl _ _⟩
  case round =>
    obtain ⟨lo, hi, rfl, rfl, hle, hlen, hlo, hhi, hst⟩ := hrel
    have HT := Lib.hid hst
    clear hst
    by_cases hlt : lo < hi
    · have HCC := Lib.hid (HC.out wr HT.out ((lo + hi) / 2) (by omega))
      obtain ⟨b, hb⟩ : ∃ b, f ((lo + hi) / 2) = b := ⟨_, rfl⟩
      rw [hb] at HCC
      have HB := Lib.hid hb
      clear hb
      go_wp2_with fail
      refine HCC.out.mono ?_
      rintro e w2 ⟨rfl, s2⟩
      have HT2 := Lib.hid (HT.out.trans s2)
      clear s2
      cases b with
      | true =>
        have H2 := Lib.hid (show ∀ t, (lo + hi) / 2 ≤ t → t < n → f t = true from fun t h1 h2 => HM.out _ t h1 h2 HB.out)
        go_wp2
        refine ⟨⟨lo, (lo + hi) / 2, rfl, rfl, by omega, by omega, hlo, H2, HT2.out⟩, by simp [intOf]; omega⟩
      | false =>
        have H2 := Lib.hid (show ∀ t, t < (lo + hi) / 2 + 1 → f t = false from fun t h1 => by
          cases h : f t with
          | false => rfl
          | true => have := HM.out t ((lo + hi) / 2) (by omega) (by omega) h; rw [HB.out] at this; cases this)
        go_wp2
        refine ⟨⟨(lo + hi) / 2 + 1, hi, by go_num, rfl, by omega, by omega, H2, hhi, HT2.out⟩, by simp [intOf]; omega⟩
    · obtain rfl : lo = hi := by omega
      go_wp2
      go_ret
      exact ⟨⟨lo, rfl, ⟨hlen, hlo.out, hhi.out⟩⟩, HT.out⟩

/-- Above, as the walk shows it. -/
theorem gtr_is (p q : List UInt8) : (!Op.bytesLess q p && !q == p) = ltB p q := by
  have h := leq_not p q
  cases h1 : Op.bytesLess q p <;> cases h2 : (q == p) <;> cases h3 : ltB p q <;> simp_all
theorem get1_any (w : World) (b1 b2 : Nat) (x : Value) (l : List En) (k : List UInt8) (i : Nat) (h1 : w.cell? ⟨b1, 0, none⟩ = some x) (h2 : w.cell? ⟨b2, 0, none⟩ = some (.string ⟨k.toArray⟩)) (hx : EnS w x l) (hi : i < l.length) (hl : l.length ≤ 1000000) :
    Calls Tryz.prog 53 #[.int .i64 (i : Int), .pointer (some ⟨b1, 0, none⟩), .pointer (some ⟨b2, 0, none⟩)] w fun e w' => e = .returned (.bool (!ltB (keyAt l i) k)) ∧ Stay (fun _ => False) w w' := by
  obtain ⟨a0, c, rfl⟩ := hx.form
  obtain ⟨e, he, hk⟩ := at_of hi
  obtain ⟨g, o, rfl, _, hc⟩ := hx.at (by omega)
  have h0 := (hc _ e he).1
  rw [hk]
  have hcm : (l.length : Int) ≤ 1000000 := by omega
  rw [← Me.less_eq]
  clear hc hx he hk hl
  go_enter Tryz.func53, Tryz.ntmps53
  go_wp2
  go_quiet (fail)
  go_wp2
  go_ret
  exact ⟨rfl, Pk.stay_drewN _ _⟩

theorem find1_any (w : World) (b1 b2 t p q : Nat) (L : List En) (k : List UInt8) (i : Nat) (h1 : w.cell? ⟨b1, 0, none⟩ = some (.pointer (some ⟨t, 0, none⟩))) (h2 : w.cell? ⟨b2, 0, none⟩ = some (.string ⟨k.toArray⟩)) (h : TAt w t L p q) (hi : i < cN L.length p) :
    Calls Tryz.prog 56 #[.int .i64 (i : Int), .pointer (some ⟨b1, 0, none⟩), .pointer (some ⟨b2, 0, none⟩)] w fun e w' => e = .returned (.bool (ltB k (keyAt L (i * p)))) ∧ Stay (fun _ => False) w w' := by
  have hle := cN_le (n := L.length) h.p1
  have hn2 := h.n2
  obtain ⟨v, pf, gf, hb, hpc, _⟩ := h.ex
  obtain ⟨g, c, rfl, hc⟩ := hpc.ex
  have h0 := (hc i hi).1
  have hc : w.cell? ⟨t, 1, none⟩ = some (.slice (some ⟨g, 0, none⟩) (cN L.length p) c) := by rw [cell_of_row w t 1 _ _ _ hb]; rfl
  have hcm : (cN L.length p : Int) ≤ 1000000 := by omega
  generalize cN L.length p = n at *
  clear hb hpc h hle
  go_enter Tryz.func56, Tryz.ntmps56
  go_wp2
  go_quiet (fail)
  go_wp2
  go_ret
  exact ⟨by rw [← gtr_is]; rfl, Pk.stay_drewN _ _⟩
end Go.Proofs.YteogdihacohkfaaGreatDoor.Tb
