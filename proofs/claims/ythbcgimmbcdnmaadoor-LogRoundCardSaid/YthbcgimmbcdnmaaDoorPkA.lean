/-
  pack: the contracts of ones and spell.
-/
import Derived.Test.YthbcgimmbcdnmaaDoorRows
import Derived.Test.YthbcgimmbcdnmaaDoorPkPlain
import Derived.WalkSpells
import Derived.WalkLawsBesides
import Derived.Lib.Hide
import Derived.Deep.RegionWith
import Derived.IntWalk
namespace Go.Proofs.YthbcgimmbcdnmaaDoor.Pk
open Go.RowKit
set_option maxRecDepth 100000

theorem ones_any (k : Nat) (w : World) (hk : k ≤ 8) : Calls Tryd.prog 61 #[.int .i64 k] w fun e w' => e = .returned (.int .u8 (onesN k)) ∧ w = w' := by
  rcases eight hk with rfl | rfl | rfl | rfl | rfl | rfl | rfl | rfl | rfl
  all_goals
    go_enter Tryd.func61, Tryd.ntmps61
    go_wp2
    go_ret
    exact ⟨rfl, rfl⟩

/-- A slice of bytes of the call's own. -/
def Owns (base : Nat) (w : World) (v : Value) (l : List UInt8) : Prop := w.ownsRow base 5 1 v l.length (cellsB l)

theorem Owns.alloc {base : Nat} {w : World} {v : Value} {l : List UInt8} (h : Owns base w v l) (o : Obj) : Owns base (w.alloc o) v l := World.ownsRow.alloc h o
theorem Owns.one (w : World) (c : UInt8) (base : Nat) (hb : base ≤ w.heap.size) (w' : World) (hw : w' = w.alloc (.cells #[byteV c] 5)) : Owns base w' (.slice (some ⟨w.heap.size, 0, none⟩) 1 1) [c] := by
  subst hw
  exact ⟨rfl, .inr ⟨w.heap.size, 1, #[byteV c], rfl, hb, heap_alloc_new w _, Nat.le_refl _, by decide, rfl, rfl⟩⟩
theorem Owns.drew {base : Nat} {w : World} {v : Value} {l : List UInt8} (h : Owns base w v l) : Owns base w.drew v l := h
theorem owns_join {base : Nat} {w : World} {v : Value} {l l2 : List UInt8} {m : Nat} {news : List Value} (h : w.ownsRow base 5 1 v (l.length + m) (cellsB l ++ news)) (e : news = cellsB l2) (hm : m = l2.length) : Owns base w v (l ++ l2) := by
  subst e
  subst hm
  unfold Owns
  rw [List.length_append]
  have : cellsB (l ++ l2) = cellsB l ++ cellsB l2 := by simp [cellsB]
  rw [this]
  exact h
theorem stay_append {w wr w1 : World} {v : Value} {l : List UInt8} {base : Nat} (hst : Stay (fun _ => False) w wr) (how : Owns base wr v l) (hb : w.heap.size ≤ base) (o : Obj) (hgr : (wr.alloc o).grownBy w1 v.ownBlock) : Stay (fun _ => False) w w1 :=
  (hst.trans (Stay.alloc wr o)).andThen (Stay.grown (X := fun k => base ≤ k) hgr (fun k hk => (World.ownsRow.lt how k hk).1)) (fun i hi hx => absurd hi (by have hx' : base ≤ i := hx; omega))

theorem news_one (w : World) (x : Value) (t : TypeId) : ∀ (j : Nat) u, [x][j]? = some u → (w.alloc (.cells #[x] t)).cell? ((⟨w.heap.size, 0, none⟩ : Addr).add j) = some u := by
  intro j u hu
  have hj : j = 0 := by
    have := (List.getElem?_eq_some_iff.1 hu).1
    simp at this
    omega
  subst hj
  rw [add_at, World.cell?_alloc_at _ _ _ _ rfl]
  simpa using hu
theorem news_int (k : IntKind) (x : Int) : ∀ u ∈ [Value.int k x], u.oneCell' = true := by
  intro u hu
  rw [List.mem_singleton.1 hu]
  rfl

theorem shr_ne {n j : Nat} (h : j < kOf n) : ((n : Int) / 2 ^ (7 * j + 7) != 0) = true := by
  have := kOf_lt h
  have h2 : 0 < n / 2 ^ (7 * j + 7) := Nat.div_pos this (Nat.pow_pos (by decide))
  rw [bne_iff_ne]
  have e : ((n : Int) / 2 ^ (7 * j + 7)) = ((n / 2 ^ (7 * j + 7) : Nat) : Int) := by simp
  rw [e]
  omega
theorem shr_eq {n : Nat} (h : kOf n < 8) : ((n : Int) / 2 ^ (7 * kOf n + 7) != 0) = false := by
  have := kOf_ge h
  have h2 : n / 2 ^ (7 * kOf n + 7) = 0 := Nat.div_eq_of_lt this
  rw [bne_eq_false_iff_eq]
  have e : ((n : Int) / 2 ^ (7 * kOf n + 7)) = ((n / 2 ^ (7 * kOf n + 7) : Nat) : Int) := by simp
  rw [e, h2]
  rfl

theorem info5 : (Tryd.prog.info? 5).map (fun i => (i.zero, i.size, i.bytes)) = some (some (.int .u8 0), 1, 1) := by kernel_rfl

theorem or_table : ∀ k : Fin 9, ∀ q : Fin 128, q.val < 2 ^ (7 - k.val) → (k.val = 8 → q.val = 0) → bits BinOp.or IntKind.u8 ((onesN k.val : Nat) : Int) ((q.val : Nat) : Int) = ((onesN k.val + q.val : Nat) : Int) := by decide +kernel

/-- The first byte. -/
def firstN (n : Nat) : Nat := onesN (kOf n) + n / 256 ^ kOf n
theorem first_or {n : Nat} (hn : n < 2 ^ 64) : bits BinOp.or IntKind.u8 ((onesN (kOf n) : Nat) : Int) (IntKind.u8.wrap ((n : Int) / 2 ^ (8 * kOf n))) = ((firstN n : Nat) : Int) := by
  unfold firstN
  have h8 := kOf_le n
  obtain ⟨h1, h2⟩ := first_lt hn
  have e : ((n : Int) / 2 ^ (8 * kOf n)) = ((n / 256 ^ kOf n : Nat) : Int) := by
    have : (256 : Nat) ^ kOf n = 2 ^ (8 * kOf n) := by rw [Nat.pow_mul]
    rw [this]
    simp
  rw [e]
  generalize n / 256 ^ kOf n = q at *
  generalize kOf n = k at *
  have hq : q < 128 := Nat.lt_of_lt_of_le h1 (by rcases eight h8 with rfl | rfl | rfl | rfl | rfl | rfl | rfl | rfl | rfl <;> decide)
  have hw : IntKind.u8.wrap (q : Int) = (q : Int) := IntWalk.u8_in _ (by omega)
  rw [hw]
  exact or_table ⟨k, by omega⟩ ⟨q, hq⟩ h1 h2

theorem low_byteV (n j : Nat) : Value.int .u8 ((n : Int) / 2 ^ (8 * j) % 256) = byteV (UInt8.ofNat (n / 256 ^ j % 256)) := by
  have e : ((n : Int) / 2 ^ (8 * j)) = ((n / 256 ^ j : Nat) : Int) := by
    have : (256 : Nat) ^ j = 2 ^ (8 * j) := by rw [Nat.pow_mul]
    rw [this]
    simp
  unfold byteV
  rw [e, toNat_ofNat (Nat.mod_lt _ (by decide))]
  congr 1
theorem low_byte (n j : Nat) : IntKind.u8.wrap ((n : Int) / 2 ^ (8 * j)) = ((UInt8.ofNat (n / 256 ^ j % 256)).toNat : Int) := by
  have e : ((n : Int) / 2 ^ (8 * j)) = ((n / 256 ^ j : Nat) : Int) := by
    have : (256 : Nat) ^ j = 2 ^ (8 * j) := by rw [Nat.pow_mul]
    rw [this]
    simp
  rw [e, toNat_ofNat (Nat.mod_lt _ (by decide))]
  generalize n / 256 ^ j = q
  rw [IntKind.wrap_u8]
  omega

/-- What is spelled when j bytes are left. -/
def part (n j : Nat) : List UInt8 := UInt8.ofNat (onesN (kOf n) + n / 256 ^ kOf n) :: (lowB n (kOf n)).take (kOf n - j)
theorem spell_start {n : Nat} (w : World) (hn : n < 2 ^ 64) : Owns w.heap.size (w.alloc (.cells #[.int .u8 ((firstN n : Nat) : Int)] 5)).drew (.slice (some ⟨w.heap.size, 0, none⟩) 1 1) (part n (kOf n)) := by
  have h := Owns.one w (UInt8.ofNat (onesN (kOf n) + n / 256 ^ kOf n)) w.heap.size (Nat.le_refl _) _ rfl
  unfold byteV at h
  rw [toNat_ofNat (first_byte hn).1] at h
  unfold part
  rw [Nat.sub_self, List.take_zero]
  unfold firstN
  exact h.drew
theorem spell_len (n j : Nat) : (part n j).length ≤ 9 := by
  have := kOf_le n
  unfold part
  simp [length_lowB]
  omega
theorem spell_next {n j base : Nat} {w : World} {v : Value} (hj : j + 1 ≤ kOf n) (h : Owns base w v (part n (j + 1) ++ [UInt8.ofNat (n / 256 ^ j % 256)])) :
    Owns base w v (part n j) := by
  have e : kOf n - j = kOf n - (j + 1) + 1 := by omega
  have h2 := lowB_at n (kOf n) (kOf n - (j + 1)) (by omega)
  rw [show kOf n - 1 - (kOf n - (j + 1)) = j by omega] at h2
  unfold part at *
  rw [e, List.take_add_one, h2]
  exact h
theorem spell_end {n base : Nat} {w : World} {v : Value} (h : Owns base w v (part n 0)) : Owns base w v (spellB n) := by
  unfold part at h
  rw [Nat.sub_zero, List.take_of_length_le (by rw [length_lowB]; exact Nat.le_refl _)] at h
  exact h

set_option maxHeartbeats 1000000 in
theorem spell_any (n : Nat) (w : World) (hn : (n : Int) ≤ 18446744073709551615) : Calls Tryd.prog 42 #[.int .u64 n] w fun e w' => ∃ v, e = .returned v ∧ Owns w.heap.size w' v (spellB n) ∧ Stay (fun _ => False) w w' := by
  have h8 := kOf_le n
  have hn' : n < 2 ^ 64 := by omega
  have HN := Lib.hid hn'
  clear hn'
  obtain ⟨i0, hi, hz0, hz1, hz2⟩ := info_parts info5
  have HI := Lib.hid hi
  have HZ0 := Lib.hid hz0
  have HZ1 := Lib.hid hz1
  have HZ2 := Lib.hid hz2
  have HF := Lib.hid (first_or HN.out)
  clear hi hz0 hz1 hz2
  go_enter Tryd.func42, Tryd.ntmps42
  go_wp2
  go_loop [3] (fun k => ∃ j : Nat, j ≤ kOf n ∧ k = .int .i64 j) (fun k => (8 - intOf k).toNat)
  case atStart => exact ⟨0, by omega, rfl⟩
  case round =>
    obtain ⟨j, hj, rfl⟩ := hrel
    by_cases hlt : j < kOf n
    · have hs := shr_ne hlt
      go_wp2
      go_round
      case rel => exact ⟨j + 1, by omega, by go_num⟩
      case measure => simp [intOf]; omega
    · obtain rfl : kOf n = j := by omega
      by_cases h : kOf n < 8
      have hs := shr_eq h
      all_goals
        go_wp2
        have e1 : IntKind.i64.wrap (8 * (kOf n : Int)) = 8 * (kOf n : Int) := IntWalk.i64_in _ (by omega)
        have e2 : (0 : Int) ≤ 8 * (kOf n : Int) := by omega
        have e3 : (8 * (kOf n : Int)).toNat = 8 * kOf n := by omega
        go_region_with (go_at_call 61; refine (ones_any _ _ h8).mono ?_; rintro e w' ⟨rfl, rfl⟩)
        clear e1 e2 e3
        go_wp2
        simp only [List.getElem_toArray, List.getElem_cons_succ, List.getElem_cons_zero]
        go_frame
        rw [HF.out]
        go_loopw [3, 4] (fun k v wr => ∃ j : Nat, j ≤ kOf n ∧ k = .int .i64 j ∧ Owns w.heap.size wr v (part n j) ∧ Stay (fun _ => False) w wr) (fun k _ _ => (intOf k).toNat)
        case atStart => exact ⟨kOf n, Nat.le_refl _, rfl, spell_start w HN.out, (Stay.alloc _ _).trans Stay.drew⟩
        case round =>
          obtain ⟨j, hj, rfl, how, hst⟩ := hrel
          have hlen := spell_len n j
          by_cases hlt : 0 < j
          · obtain ⟨j', rfl⟩ : ∃ j', j = j' + 1 := ⟨j - 1, by omega⟩
            go_wp2_with (at_builtin; refine wpList_append_own _ rfl _ _ 36 rfl w.heap.size 5 i0 (.int .u8 0) 1 1 Tryd.underlying36 HI.out HZ0.out HZ1.out HZ2.out rfl (by decide) _ _ _ rfl (how.alloc _) ⟨wr.heap.size, 0, none⟩ 1 1 [.int .u8 ((n : Int) / 2 ^ (8 * j') % 256)] rfl rfl ?c1 ?c2 ?c3 ?c4 ?c5 ?_)
            case c1 => exact news_one _ _ _
            case c2 => exact news_int _ _
            case c3 => unfold maxLen; omega
            case c4 => omega
            case c5 => have := hst.size; simp; omega
            intro v' w1 hown hgr _
            have how' := owns_join (l2 := [UInt8.ofNat (n / 256 ^ j' % 256)]) hown (by rw [low_byteV]; rfl) rfl
            have hst' := stay_append hst how (Nat.le_refl _) _ hgr
            clear hown hgr how hst
            go_wp2
            go_roundw
            case rel => exact ⟨j', by omega, by go_num, spell_next (by omega) how', hst'⟩
            case measure => simp [intOf]
          · obtain rfl : j = 0 := by omega
            go_wp2
            go_ret
            exact ⟨_, rfl, spell_end how, hst⟩

end Go.Proofs.YthbcgimmbcdnmaaDoor.Pk
