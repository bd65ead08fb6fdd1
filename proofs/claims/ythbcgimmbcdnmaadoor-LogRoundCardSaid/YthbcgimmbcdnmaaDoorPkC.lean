/-
  pack: the contracts of the readers' rules: number, truth, signed.
-/
import Derived.Test.YthbcgimmbcdnmaaDoorPkB
import Derived.BigQuiet
import Derived.Deep.QuietTactic
namespace Go.Proofs.YthbcgimmbcdnmaaDoor.Pk
open Go.RowKit
set_option maxRecDepth 100000

theorem ret_int {k : IntKind} {a b : Int} (h : a = b) : Ending.returned (.int k a) = .returned (.int k b) := by rw [h]
def len8N (x : Nat) : Nat := 8 - leadN (255 - x)

theorem len8_any (x : Nat) (h : x < 256) (w : World) : Calls Tryd.prog 75 #[.int .u8 x] w fun e w' => e = .returned (.int .i64 (len8N x : Nat)) ∧ w = w' := by
  go_enter Tryd.func75, Tryd.ntmps75
  go_wp2
  go_ret
  refine ⟨ret_int ?_, rfl⟩
  revert h x
  decide +kernel

theorem xor_table : ∀ c : Fin 256, bits BinOp.xor IntKind.u8 IntKind.u8.max ((c.val : Nat) : Int) = ((255 - c.val : Nat) : Int) := by decide +kernel
theorem xor_byte (c : UInt8) : bits BinOp.xor IntKind.u8 IntKind.u8.max (c.toNat : Int) = ((255 - c.toNat : Nat) : Int) := xor_table ⟨c.toNat, c.toNat_lt⟩

theorem lead8_any (c : UInt8) (w : World) : Calls Tryd.prog 74 #[.int .u8 (bits BinOp.xor IntKind.u8 IntKind.u8.max (c.toNat : Int))] w fun e w' => e = .returned (.int .i64 (leadN c.toNat : Nat)) ∧ w = w' := by
  have hc := c.toNat_lt
  have hl := leadN_le c.toNat
  have he : (len8N (255 - c.toNat) : Int) = 8 - (leadN c.toNat : Int) := by
    unfold len8N
    rw [show 255 - (255 - c.toNat) = c.toNat by omega]
    omega
  have HE := Lib.hid he
  clear he
  rw [xor_byte]
  go_enter Tryd.func74, Tryd.ntmps74
  go_wp2_with fail
  refine (len8_any (255 - c.toNat) (by omega) _).mono ?_
  rintro e w' ⟨rfl, rfl⟩
  rw [HE.out]
  go_wp2
  go_ret
  exact ⟨ret_int (by omega), rfl⟩

/-- What stays of a slice behind k bytes: where it lies, and what it reads. -/
def Sub (w : World) (x v : Value) (r : List UInt8) : Prop := Slc w v r ∧ ∀ k, v.ownBlock = some k → x.ownBlock = some k

theorem Slc.cut {w : World} {a0 : Option Addr} {b : List UInt8} {c k : Nat} (h : Slc w (.slice a0 b.length c) b) (hk : k ≤ b.length) :
    Sub w (.slice a0 b.length c) (.slice (if c = k then a0 else a0.map (·.add k)) (b.length - k) (c - k)) (b.drop k) := by
  obtain ⟨a1, c1, e, hr, hn, hc, hm⟩ := h
  cases e
  refine ⟨⟨_, c - k, by rw [List.length_drop], fun h0 => ?_, fun e => ?_, by rw [List.length_drop]; omega, by omega⟩, fun g hg => ?_⟩
  · rw [List.length_drop] at h0
    obtain ⟨ad, rfl, hcell⟩ := hr (by omega)
    rw [if_neg (by omega)]
    refine ⟨_, rfl, fun j v hv => ?_⟩
    have hv' : (cellsB b)[k + j]? = some v := by
      rw [← hv]
      simp [cellsB]
    have := hcell _ v hv'
    have e2 : (ad.add k).add j = ad.add (k + j) := by
      unfold Addr.add
      by_cases h1 : k = 0 <;> by_cases h2 : j = 0 <;> simp [h1, h2, Nat.add_assoc]
    rw [e2]
    exact this
  · split at e
    · have := hn e
      omega
    · cases a0 with
      | none => have := hn rfl; omega
      | some ad => cases e
  · split at hg
    · cases a0 <;> exact hg
    · cases a0 with
      | none => cases hg
      | some ad =>
        have : (ad.add k).block = ad.block := by unfold Addr.add; split <;> rfl
        simp only [Option.map_some, Value.ownBlock, this] at hg
        exact hg
theorem Sub.trans {w : World} {x v u : Value} {r s : List UInt8} (h : Sub w x v r) (h2 : Sub w v u s) : Sub w x u s := ⟨h2.1, fun k hk => h.2 k (h2.2 k hk)⟩
theorem Sub.stay0 {w w' : World} {x v : Value} {r : List UInt8} (h : Sub w x v r) (hs : Stay (fun _ => False) w w') : Sub w' x v r := ⟨h.1.stay0 hs, h.2⟩

/-- An error by its number. -/
def errI (c : Nat) : Value := .iface 50 (.int .i64 (c : Int))
/-- What a rule hands back. -/
def Ret {α : Type} (zero : Value) (val : α → Value) (w : World) (x : Value) : Except Nat (α × List UInt8) → Ending → Prop
  | .error c, e => e = .returned (.tuple #[zero, .slice none 0 0, errI c])
  | .ok (n, r), e => ∃ v, e = .returned (.tuple #[val n, v, .nilIface]) ∧ Sub w x v r
theorem ret_ok {α : Type} {zero u v : Value} {val : α → Value} {w : World} {x : Value} {n : α} {r : List UInt8} (hu : u = val n) (hs : Sub w x v r) : Ret zero val w x (.ok (n, r)) (.returned (.tuple #[u, v, .nilIface])) := ⟨v, by rw [hu], hs⟩
theorem Ret.stay0 {α : Type} {zero : Value} {val : α → Value} {w w' : World} {x : Value} {r : Except Nat (α × List UInt8)} {e : Ending} (h : Ret zero val w x r e) (hs : Stay (fun _ => False) w w') : Ret zero val w' x r e := by
  cases r with
  | error c => exact h
  | ok p =>
    obtain ⟨n, r⟩ := p
    obtain ⟨v, he, hv⟩ := h
    exact ⟨v, he, hv.stay0 hs⟩
def u64V (n : Nat) : Value := .int .u64 (n : Int)
def NumRet (w : World) (x : Value) : Except Nat (Nat × List UInt8) → Ending → Prop := Ret (.int .u64 0) u64V w x

theorem num_empty (x : Value) (most : Nat) (w : World) (a0 : Option Addr) (c : Nat) (hx : x = .slice a0 0 c) : Calls Tryd.prog 69 #[x, .int .u64 most] w fun e w' => NumRet w x (.error 12) e ∧ w = w' := by
  subst hx
  go_enter Tryd.func69, Tryd.ntmps69
  go_wp2
  go_ret3
  exact ⟨rfl, rfl⟩

theorem num_ends (c : UInt8) (r : List UInt8) (most : Nat) (w : World) (x : Value) (hx : Slc w x (c :: r)) (hk : r.length < leadN c.toNat) : Calls Tryd.prog 69 #[x, .int .u64 most] w fun e w' => NumRet w x (.error 12) e ∧ w = w' := by
  obtain ⟨a0, cap, rfl, hr, hn, hcap, hm⟩ := hx
  obtain ⟨ad, rfl, hcell⟩ := hr (by simp)
  have hc : w.cell? ad = some (.int .u8 (c.toNat : Int)) := hcell 0 _ rfl
  have hl : (c :: r).length = r.length + 1 := rfl
  rw [hl] at *
  have h0 : (((r.length + 1 : Nat) : Int) == 0) = false := beq_eq_false_iff_ne.2 (by omega)
  have hl8 := leadN_le c.toNat
  clear hr hcell hn hl
  go_enter Tryd.func69, Tryd.ntmps69
  go_wp2_with fail
  refine (lead8_any c _).mono ?_
  rintro e w' ⟨rfl, rfl⟩
  go_wp2
  go_ret3
  exact ⟨rfl, rfl⟩

theorem ones_quiet (k : Nat) (w : World) (hk : k ≤ 8) : Calls Tryd.prog 61 #[.int .i64 k] w fun e w' => e = .returned (.int .u8 (onesN k)) ∧ w' = w := (ones_any k w hk).mono fun _ _ ⟨h1, h2⟩ => ⟨h1, h2.symm⟩

theorem andnot_table : ∀ c : Fin 256, bits BinOp.andNot IntKind.u8 ((c.val : Nat) : Int) ((onesN (leadN c.val) : Nat) : Int) = ((c.val - onesN (leadN c.val) : Nat) : Int) := by decide +kernel
theorem andnot_byte (c : UInt8) : bits BinOp.andNot IntKind.u8 (c.toNat : Int) ((onesN (leadN c.toNat) : Nat) : Int) = ((c.toNat - onesN (leadN c.toNat) : Nat) : Int) := andnot_table ⟨c.toNat, c.toNat_lt⟩

theorem lead_table : ∀ c : Fin 256, c.val - onesN (leadN c.val) < 2 ^ (7 - leadN c.val) ∧ (leadN c.val = 8 → c.val - onesN (leadN c.val) = 0) ∧ c.val - onesN (leadN c.val) < 256 := by decide +kernel
theorem lead_first (c : UInt8) : c.toNat - onesN (leadN c.toNat) < 2 ^ (7 - leadN c.toNat) ∧ (leadN c.toNat = 8 → c.toNat - onesN (leadN c.toNat) = 0) ∧ c.toNat - onesN (leadN c.toNat) < 256 := lead_table ⟨c.toNat, c.toNat_lt⟩

theorem fold_small {a k : Nat} (h8 : k ≤ 8) (h1 : a < 2 ^ (7 - k)) (h2 : k = 8 → a = 0) (l : List UInt8) (hl : l.length < k) : foldB a l < 72057594037927936 := by
  have h := foldB_lt l a (a + 1) (by omega)
  have hl7 : l.length ≤ 7 := by omega
  have e : l.length = 0 ∨ l.length = 1 ∨ l.length = 2 ∨ l.length = 3 ∨ l.length = 4 ∨ l.length = 5 ∨ l.length = 6 ∨ l.length = 7 := by omega
  rcases eight h8 with rfl | rfl | rfl | rfl | rfl | rfl | rfl | rfl | rfl <;> simp only [Nat.reducePow, Nat.reduceSub] at h1 <;> rcases e with e | e | e | e | e | e | e | e <;> rw [e] at h <;> simp only [Nat.reducePow] at h <;> omega
theorem fold_top {a k : Nat} (h8 : k ≤ 8) (h1 : a < 2 ^ (7 - k)) (h2 : k = 8 → a = 0) (l : List UInt8) (hl : l.length ≤ k) : foldB a l < 18446744073709551616 := by
  have h := foldB_lt l a (a + 1) (by omega)
  have e : l.length = 0 ∨ l.length = 1 ∨ l.length = 2 ∨ l.length = 3 ∨ l.length = 4 ∨ l.length = 5 ∨ l.length = 6 ∨ l.length = 7 ∨ l.length = 8 := by omega
  rcases eight h8 with rfl | rfl | rfl | rfl | rfl | rfl | rfl | rfl | rfl <;> simp only [Nat.reducePow, Nat.reduceSub] at h1 <;> rcases e with e | e | e | e | e | e | e | e | e <;> rw [e] at h <;> simp only [Nat.reducePow] at h <;> omega

theorem or_next (n : Nat) (b : UInt8) (h : n < 72057594037927936) : bits BinOp.or IntKind.u64 ((n : Int) * 256) (IntKind.u64.wrap (b.toNat : Int)) = ((n * 256 + b.toNat : Nat) : Int) := by
  have hb := b.toNat_lt
  have hb8 : b.toNat < 2 ^ 8 := by omega
  have e := Nat.shiftLeft_add_eq_or_of_lt hb8 n
  have e2 : n <<< 8 = n * 256 := by rw [Nat.shiftLeft_eq]
  rw [e2] at e
  rw [IntWalk.u64_in _ (by omega), show ((n : Int) * 256) = ((n * 256 : Nat) : Int) by omega, bits_or_u64_nat _ _ (by omega) (by omega), e]

theorem numB_form {c : UInt8} {r : List UInt8} {most N : Nat} (hk : leadN c.toNat ≤ r.length) (h0 : 0 < leadN c.toNat) (hN : N = foldB (c.toNat - onesN (leadN c.toNat)) (r.take (leadN c.toNat))) (h : N < 2 ^ (7 * leadN c.toNat)) : numB most (c :: r) = .error 3 := by
  subst hN
  unfold numB
  simp only []
  rw [if_neg (by omega), if_pos ⟨h0, h⟩]
theorem numB_range {c : UInt8} {r : List UInt8} {most N : Nat} (hk : leadN c.toNat ≤ r.length) (hN : N = foldB (c.toNat - onesN (leadN c.toNat)) (r.take (leadN c.toNat))) (h : 0 < leadN c.toNat → 2 ^ (7 * leadN c.toNat) ≤ N) (hm : most < N) : numB most (c :: r) = .error 4 := by
  subst hN
  unfold numB
  simp only []
  rw [if_neg (by omega), if_neg (fun h' => by have := h h'.1; omega), if_pos hm]
theorem numB_ok {c : UInt8} {r : List UInt8} {most N : Nat} (hk : leadN c.toNat ≤ r.length) (hN : N = foldB (c.toNat - onesN (leadN c.toNat)) (r.take (leadN c.toNat))) (h : 0 < leadN c.toNat → 2 ^ (7 * leadN c.toNat) ≤ N) (hm : N ≤ most) : numB most (c :: r) = .ok (N, r.drop (leadN c.toNat)) := by
  subst hN
  unfold numB
  simp only []
  rw [if_neg (by omega), if_neg (fun h' => by have := h h'.1; omega), if_neg (by omega)]

theorem quo_zero {N k : Nat} (h : N < 2 ^ k) : ((N : Int) / 2 ^ k == 0) = true := by
  have h2 : N / 2 ^ k = 0 := Nat.div_eq_of_lt h
  rw [beq_iff_eq]
  have e : ((N : Int) / 2 ^ k) = ((N / 2 ^ k : Nat) : Int) := by simp
  rw [e, h2]
  rfl
theorem quo_some {N k : Nat} (h : 2 ^ k ≤ N) : ((N : Int) / 2 ^ k == 0) = false := by
  have h2 : 0 < N / 2 ^ k := Nat.div_pos h (Nat.pow_pos (by decide))
  rw [beq_eq_false_iff_ne]
  have e : ((N : Int) / 2 ^ k) = ((N / 2 ^ k : Nat) : Int) := by simp
  rw [e]
  omega

set_option maxHeartbeats 1000000 in
theorem num_main (c : UInt8) (r : List UInt8) (most : Nat) (w : World) (x : Value) (hx : Slc w x (c :: r)) (hk : leadN c.toNat ≤ r.length) : Calls Tryd.prog 69 #[x, .int .u64 most] w fun e w' => NumRet w x (numB most (c :: r)) e ∧ Stay (fun _ => False) w w' := by
  obtain ⟨a0, cap, rfl, hr, hn, hcap, hm⟩ := id hx
  obtain ⟨ad, rfl, hcell⟩ := hr (by simp)
  have hsub := hx.cut (k := 1 + leadN c.toNat) (by rw [List.length_cons]; omega)
  rw [Nat.add_comm 1, List.drop_succ_cons, Nat.add_comm _ 1, List.length_cons, Option.map_some] at hsub
  have HSub := Lib.hid hsub
  have hc : w.cell? ad = some (.int .u8 (c.toNat : Int)) := hcell 0 _ rfl
  clear hsub hx
  simp only [List.length_cons] at hcap hcell hn hr
  rw [List.length_cons]
  have h0 : (((r.length + 1 : Nat) : Int) == 0) = false := beq_eq_false_iff_ne.2 (by omega)
  have hl8 := leadN_le c.toNat
  have hrl : (r.length : Int) ≤ 9223372036854775806 := by omega
  have HC := Lib.hid hcell
  have HA := Lib.hid (andnot_byte c)
  clear hr hcell hn
  go_enter Tryd.func69, Tryd.ntmps69
  go_wp2_with fail
  refine (lead8_any c _).mono ?_
  rintro e w' ⟨rfl, rfl⟩
  go_wp2
  go_quiet ((go_at_call 61; exact Calls.quiet_of_same (ones_quiet _ _ hl8)))
  obtain ⟨h1, h2, h3⟩ := lead_first c
  rw [HA.out, IntWalk.u64_in _ (by omega)]
  have HF := Lib.hid (fun l hl => fold_small hl8 h1 h2 l hl)
  have HT := Lib.hid (fun l hl => fold_top hl8 h1 h2 l hl)
  clear h1 h2
  by_cases hk0 : 0 < leadN c.toNat
  · have hcap1 : ¬ cap = 1 := by omega
    go_wp2
    go_loop [8, 38] (fun n i => ∃ j : Nat, j ≤ leadN c.toNat ∧ i = .int .i64 j ∧ n = .int .u64 ((foldB (c.toNat - onesN (leadN c.toNat)) (r.take j) : Nat) : Int)) (fun _ i => leadN c.toNat - (intOf i).toNat)
    case atStart => exact ⟨0, Nat.zero_le _, rfl, rfl⟩
    case round =>
      obtain ⟨j, hj, rfl, rfl⟩ := hrel
      by_cases hlt : j < leadN c.toNat
      · obtain ⟨b, hb⟩ : ∃ b, r[j]? = some b := ⟨_, List.getElem?_eq_getElem (by omega)⟩
        have hcj : w.cell? ⟨ad.block, ad.off + 1 + j, none⟩ = some (.int .u8 (b.toNat : Int)) := by
          have hcj := HC.out (1 + j) (byteV b) (by rw [Nat.add_comm 1 j]; simp [cellsB, hb])
          unfold Addr.add at hcj
          rw [if_neg (by omega)] at hcj
          rw [Nat.add_assoc]
          exact hcj
        have HS := Lib.hid (show foldB (c.toNat - onesN (leadN c.toNat)) (r.take (j + 1)) = foldB (c.toNat - onesN (leadN c.toNat)) (r.take j) * 256 + b.toNat by rw [List.take_add_one, hb]; exact foldB_snoc _ _ _)
        have hsm := HF.out (r.take j) (by rw [List.length_take]; omega)
        clear hb
        go_wp2
        go_round
        case rel => exact ⟨j + 1, by omega, by go_num, by rw [or_next _ _ hsm, ← HS.out]⟩
        case measure => simp [intOf]; omega
      · obtain rfl : leadN c.toNat = j := by omega
        obtain ⟨N, hN⟩ : ∃ N, N = foldB (c.toNat - onesN (leadN c.toNat)) (r.take (leadN c.toNat)) := ⟨_, rfl⟩
        have hNt : N < 18446744073709551616 := by rw [hN]; exact HT.out _ (by rw [List.length_take]; omega)
        have HN := Lib.hid hN
        rw [← hN]
        clear hN hlt
        by_cases hform : N < 2 ^ (7 * leadN c.toNat)
        · have hq := quo_zero hform
          have hnum := Lib.hid (numB_form (most := most) hk hk0 HN.out hform)
          go_wp2
          go_ret3
          exact ⟨by rw [hnum.out]; rfl, stay_drewN _ _⟩
        · have hq := quo_some (Nat.le_of_not_lt hform)
          by_cases hmost : most < N
          · have hnum := Lib.hid (numB_range hk HN.out (fun _ => Nat.le_of_not_lt hform) hmost)
            go_wp2
            go_ret3
            exact ⟨by rw [hnum.out]; rfl, stay_drewN _ _⟩
          · have hnum := Lib.hid (numB_ok hk HN.out (fun _ => Nat.le_of_not_lt hform) (Nat.le_of_not_lt hmost))
            rcases (by omega : (cap = 1 + leadN c.toNat) ∨ ¬ (cap = 1 + leadN c.toNat)) with hcap2 | hcap2
            subst hcap2
            all_goals
              go_wp2
              go_quiet (fail)
              go_wp2
              go_ret3
              refine ⟨?_, (stay_drewN _ _).trans (stay_drewN _ _)⟩
              rw [hnum.out]
              refine ⟨_, rfl, ?_⟩
              have hs := HSub.out
              first
                | (rw [if_neg hcap2] at hs; exact hs)
                | (rw [if_pos trivial] at hs; simpa using hs) | (rw [if_pos trivial] at hs; exact hs)
  · have hz : leadN c.toNat = 0 := by omega
    obtain ⟨N, hN⟩ : ∃ N, N = foldB (c.toNat - onesN (leadN c.toNat)) (r.take (leadN c.toNat)) := ⟨_, rfl⟩
    have hN' : c.toNat - onesN 0 = N := by rw [hN, hz]; rfl
    have HN := Lib.hid hN
    have HZ := Lib.hid hz
    have HSub' := HSub.out
    rw [hz] at HSub'
    have HS := Lib.hid HSub'
    rw [hz, hN']
    have hNt : N < 256 := by rw [← hN', ← hz]; exact h3
    clear hN hN' hz hk0 h3 hl8 HF HT HSub HSub' HA
    rcases (by omega : cap = 1 ∨ ¬ cap = 1) with hcap1 | hcap1
    subst hcap1
    all_goals
      go_wp2
      go_loop [8, 38] (fun n i => i = .int .i64 0 ∧ n = .int .u64 (N : Int)) (fun _ i => (intOf i).toNat)
      case atStart => exact ⟨rfl, rfl⟩
      case round =>
        obtain ⟨rfl, rfl⟩ := hrel
        by_cases hmost : most < N
        · have hnum := Lib.hid (numB_range hk HN.out (fun h => by have := HZ.out; omega) hmost)
          go_wp2
          go_ret3
          exact ⟨by rw [hnum.out]; rfl, stay_drewN _ _⟩
        · have hnum := Lib.hid (numB_ok hk HN.out (fun h => by have := HZ.out; omega) (Nat.le_of_not_lt hmost))
          go_wp2
          go_quiet (fail)
          go_wp2
          go_ret3
          refine ⟨?_, (stay_drewN _ _).trans (stay_drewN _ _)⟩
          rw [hnum.out]
          refine ⟨_, rfl, ?_⟩
          have hs := HS.out
          rw [HZ.out]
          first
            | (rw [if_neg hcap1] at hs; exact hs)
            | (rw [if_pos trivial, show r.length + 1 - (1 + 0) = 0 by omega] at hs; exact hs)

theorem number_any0 (b : List UInt8) (most : Nat) (w : World) (x : Value) (hx : Slc w x b) : Calls Tryd.prog 69 #[x, .int .u64 most] w fun e w' => NumRet w x (numB most b) e ∧ Stay (fun _ => False) w w' := by
  cases b with
  | nil =>
    obtain ⟨a0, c, e, _⟩ := hx
    refine (num_empty x most w a0 c e).mono fun e w' ⟨h1, h2⟩ => ?_
    subst h2
    exact ⟨h1, Stay.refl _ _⟩
  | cons c r =>
    by_cases hk : r.length < leadN c.toNat
    · refine (num_ends c r most w x hx hk).mono fun e w' ⟨h1, h2⟩ => ?_
      subst h2
      refine ⟨?_, Stay.refl _ _⟩
      have : numB most (c :: r) = .error 12 := by
        unfold numB
        simp only []
        rw [if_pos hk]
      rw [this]
      exact h1
    · exact num_main c r most w x hx (Nat.le_of_not_lt hk)

theorem number_any (b : List UInt8) (most : Nat) (w : World) (x : Value) (hx : Slc w x b) : Calls Tryd.prog 69 #[x, .int .u64 most] w fun e w' => NumRet w' x (numB most b) e ∧ Stay (fun _ => False) w w' :=
  (number_any0 b most w x hx).mono fun _ _ ⟨h1, h2⟩ => ⟨Ret.stay0 h1 h2, h2⟩

end Go.Proofs.YthbcgimmbcdnmaaDoor.Pk
