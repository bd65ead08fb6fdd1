import Derived.Test.YtljlfdhjolcnaaaGreatFlatz
import Derived.Test.YtljlfdhjolcnaaaGreatRows
import Derived.WalkSpells
import Derived.WalkLawsBesides
import Derived.Lib.Hide
import Derived.Deep.RegionWith
import Derived.IntWalk
import Derived.OneCell
import Derived.Laws.OwnMore
import Derived.Maps.AppendAt
import Derived.BigQuiet
import Derived.Deep.QuietTactic
import Derived.Laws.IdiomStrings
import Derived.Laws.BytesArg
import Derived.Laws.CopyOwn
import Derived.Test.YtljlfdhjolcnaaaGreatRowz
import Derived.RegionTactic
/-
  pack's numbers as bytes, in plain lists: how many bytes, which ones, and that they are read back; which of two comes first.
-/
namespace Go.Proofs.YtljlfdhjolcnaaaGreat.Pk

def onesN (k : Nat) : Nat := 256 - 2 ^ (8 - k)

/-- How many bytes follow the first one. -/
def kOf (n : Nat) : Nat :=
  if n < 128 then 0 else if n < 16384 then 1 else if n < 2097152 then 2 else if n < 268435456 then 3 else if n < 34359738368 then 4
  else if n < 4398046511104 then 5 else if n < 562949953421312 then 6 else if n < 72057594037927936 then 7 else 8

theorem kOf_le (n : Nat) : kOf n ≤ 8 := by
  unfold kOf
  repeat' split
  all_goals omega

theorem eight {k : Nat} (h : k ≤ 8) : k = 0 ∨ k = 1 ∨ k = 2 ∨ k = 3 ∨ k = 4 ∨ k = 5 ∨ k = 6 ∨ k = 7 ∨ k = 8 := by omega

theorem kOf_lt {n j : Nat} (h : j < kOf n) : 2 ^ (7 * j + 7) ≤ n := by
  have h8 := kOf_le n
  have hj : j ≤ 8 := by omega
  unfold kOf at h
  rcases eight hj with rfl | rfl | rfl | rfl | rfl | rfl | rfl | rfl | rfl <;> simp only [Nat.reduceMul, Nat.reduceAdd, Nat.reducePow] <;> (repeat' split at h) <;> omega

theorem kOf_ge {n : Nat} (h : kOf n < 8) : n < 2 ^ (7 * kOf n + 7) := by
  unfold kOf at *
  repeat' split at h
  all_goals first | omega | (simp only [*, if_true, if_false]; done) | (simp only [*, if_true, if_false]; simp only [Nat.reduceMul, Nat.reduceAdd, Nat.reducePow]; try omega)

theorem kOf_eq {n k : Nat} (hk : k ≤ 8) (h1 : ∀ j, j < k → 2 ^ (7 * j + 7) ≤ n) (h2 : k < 8 → n < 2 ^ (7 * k + 7)) : kOf n = k := by
  rcases Nat.lt_trichotomy (kOf n) k with h | h | h
  · have a := h1 _ h
    have b := kOf_ge (n := n) (by omega)
    omega
  · exact h
  · have a := kOf_lt h
    have b := h2 (by have := kOf_le n; omega)
    omega

/-- The low bytes of a number, the highest first. -/
def lowB (n : Nat) : Nat → List UInt8
  | 0 => []
  | k + 1 => UInt8.ofNat (n / 256 ^ k % 256) :: lowB n k

theorem length_lowB (n : Nat) : ∀ k, (lowB n k).length = k
  | 0 => rfl
  | k + 1 => by simp [lowB, length_lowB n k]

theorem lowB_at (n : Nat) : ∀ k i, i < k → (lowB n k)[i]? = some (UInt8.ofNat (n / 256 ^ (k - 1 - i) % 256))
  | 0, i, h => by omega
  | k + 1, 0, _ => by simp [lowB]
  | k + 1, i + 1, h => by
    have ih := lowB_at n k i (by omega)
    simp only [lowB, List.getElem?_cons_succ, ih]
    rw [show k + 1 - 1 - (i + 1) = k - 1 - i by omega]

/-- A number as bytes. -/
def spellB (n : Nat) : List UInt8 := UInt8.ofNat (onesN (kOf n) + n / 256 ^ kOf n) :: lowB n (kOf n)

theorem length_spellB (n : Nat) : (spellB n).length = kOf n + 1 := by simp [spellB, length_lowB]

def foldB (a : Nat) (l : List UInt8) : Nat := l.foldl (fun n c => n * 256 + c.toNat) a

theorem foldB_cons (a : Nat) (c : UInt8) (l : List UInt8) : foldB a (c :: l) = foldB (a * 256 + c.toNat) l := rfl
theorem foldB_snoc (a : Nat) (l : List UInt8) (c : UInt8) : foldB a (l ++ [c]) = foldB a l * 256 + c.toNat := by simp [foldB]
theorem foldB_lt : ∀ (l : List UInt8) (a b : Nat), a < b → foldB a l < b * 256 ^ l.length
  | [], a, b, h => by simpa [foldB] using h
  | c :: l, a, b, h => by
    have hc := c.toNat_lt
    have := foldB_lt l (a * 256 + c.toNat) (b * 256) (by omega)
    rw [foldB_cons, List.length_cons, Nat.pow_succ, Nat.mul_comm (256 ^ l.length) 256, ← Nat.mul_assoc]
    exact this
theorem foldB_ge : ∀ (l : List UInt8) (a : Nat), a * 256 ^ l.length ≤ foldB a l
  | [], a => by simp [foldB]
  | c :: l, a => by
    have := foldB_ge l (a * 256 + c.toNat)
    rw [foldB_cons, List.length_cons, Nat.pow_succ, Nat.mul_comm (256 ^ l.length) 256, ← Nat.mul_assoc]
    exact Nat.le_trans (Nat.mul_le_mul_right _ (by omega)) this

theorem toNat_ofNat {x : Nat} (h : x < 256) : (UInt8.ofNat x).toNat = x := by simp; omega

theorem foldB_lowB (n : Nat) : ∀ k a, foldB a (lowB n k) = a * 256 ^ k + n % 256 ^ k
  | 0, a => by simp [foldB, lowB, Nat.mod_one]
  | k + 1, a => by
    rw [lowB, foldB_cons, foldB_lowB n k, toNat_ofNat (Nat.mod_lt _ (by decide)), Nat.pow_succ, Nat.mod_mul]
    rw [Nat.add_mul, Nat.mul_assoc, Nat.mul_comm 256 (256 ^ k), Nat.mul_comm (n / 256 ^ k % 256)]
    omega

/-- How many bits 1 a byte begins with. -/
def leadN (c : Nat) : Nat :=
  if c < 128 then 0 else if c < 192 then 1 else if c < 224 then 2 else if c < 240 then 3 else if c < 248 then 4 else if c < 252 then 5 else if c < 254 then 6 else if c < 255 then 7 else 8
theorem leadN_le (c : Nat) : leadN c ≤ 8 := by
  unfold leadN
  repeat' split
  all_goals omega

/-- The number that bytes begin with: it and the bytes behind it, or the error. -/
def numB (most : Nat) : List UInt8 → Except Nat (Nat × List UInt8)
  | [] => .error 12
  | c :: r =>
    if r.length < leadN c.toNat then .error 12
    else if 0 < leadN c.toNat ∧ foldB (c.toNat - onesN (leadN c.toNat)) (r.take (leadN c.toNat)) < 2 ^ (7 * leadN c.toNat) then .error 3
    else if most < foldB (c.toNat - onesN (leadN c.toNat)) (r.take (leadN c.toNat)) then .error 4
    else .ok (foldB (c.toNat - onesN (leadN c.toNat)) (r.take (leadN c.toNat)), r.drop (leadN c.toNat))

theorem first_lt {n : Nat} (hn : n < 2 ^ 64) : n / 256 ^ kOf n < 2 ^ (7 - kOf n) ∧ (kOf n = 8 → n / 256 ^ kOf n = 0) := by
  have h8 := kOf_le n
  have hg := kOf_ge (n := n)
  generalize kOf n = k at *
  rcases eight h8 with rfl | rfl | rfl | rfl | rfl | rfl | rfl | rfl | rfl <;> simp only [Nat.reduceMul, Nat.reduceAdd, Nat.reducePow, Nat.reduceSub] at * <;> omega

theorem first_byte {n : Nat} (hn : n < 2 ^ 64) : onesN (kOf n) + n / 256 ^ kOf n < 256 ∧ leadN (onesN (kOf n) + n / 256 ^ kOf n) = kOf n := by
  have h8 := kOf_le n
  obtain ⟨h1, h2⟩ := first_lt hn
  generalize kOf n = k at *
  generalize n / 256 ^ k = q at *
  unfold onesN leadN
  rcases eight h8 with rfl | rfl | rfl | rfl | rfl | rfl | rfl | rfl | rfl <;> simp only [Nat.reducePow, Nat.reduceSub] at * <;> refine ⟨by omega, ?_⟩ <;> (repeat' split) <;> omega

/-- What is spelled is read. -/
theorem num_spell {n most : Nat} (hn : n < 2 ^ 64) (hm : n ≤ most) (r : List UInt8) : numB most (spellB n ++ r) = .ok (n, r) := by
  obtain ⟨h1, h2⟩ := first_byte hn
  have hl := length_lowB n (kOf n)
  have hf : foldB (n / 256 ^ kOf n) (lowB n (kOf n)) = n := by
    rw [foldB_lowB]
    have := Nat.div_add_mod n (256 ^ kOf n)
    rw [Nat.mul_comm] at this
    exact this
  show numB most (UInt8.ofNat (onesN (kOf n) + n / 256 ^ kOf n) :: (lowB n (kOf n) ++ r)) = _
  unfold numB
  simp only [toNat_ofNat h1]
  rw [ h2, List.take_left' hl, List.drop_left' hl, Nat.add_sub_cancel_left, hf]
  rw [if_neg (by rw [List.length_append, hl]; omega), if_neg, if_neg (by omega)]
  rintro ⟨h3, h4⟩
  have := kOf_lt (n := n) (j := kOf n - 1) (by omega)
  rw [show 7 * (kOf n - 1) + 7 = 7 * kOf n by omega] at this
  omega

end Go.Proofs.YtljlfdhjolcnaaaGreat.Pk

/-
  pack: the contracts of ones and spell.
-/
namespace Go.Proofs.YtljlfdhjolcnaaaGreat.Pk
open Go.RowKit
set_option maxRecDepth 100000

theorem ones_any (k : Nat) (w : World) (hk : k ≤ 8) : Calls Tryz.prog 117 #[.int .i64 k] w fun e w' => e = .returned (.int .u8 (onesN k)) ∧ w = w' := by
  rcases eight hk with rfl | rfl | rfl | rfl | rfl | rfl | rfl | rfl | rfl
  all_goals
    go_enter Tryz.func117, Tryz.ntmps117
    go_wp2
    go_ret
    exact ⟨rfl, rfl⟩

/-- A slice of bytes of the call's own. -/
def Owns (base : Nat) (w : World) (v : Value) (l : List UInt8) : Prop := w.ownsRow base 5 1 v l.length (cellsB l)

theorem Owns.alloc {base : Nat} {w : World} {v : Value} {l : List UInt8} (h : Owns base w v l) (o : Obj) : Owns base (w.alloc o) v l := World.ownsRow.alloc h o
theorem Owns.one (w : World) (c : UInt8) (base : Nat) (hb : base ≤ w.heap.size) (w' : World) (hw : w' = w.alloc (.cells #[byteV c] 5)) : Owns base w' (.slice (some ⟨w.heap.size, 0, none⟩) 1 1) [c] := by
  subst hw
  exact ⟨rfl, .inr ⟨w.heap.size, 1, #[byteV c], rfl, hb, heap_alloc_new w _, Nat.le_refl _, by decide, rfl, rfl⟩⟩
theorem Owns.drew {base : Nat} {w : World} {v : Value} {l : List UInt8} (h : Owns base w v l) : Owns base w.drew v l := h
theorem owns_join {base : Nat} {w : World} {v : Value} {l l2 : List UInt8} {m : Nat} {news : List Value} (h : w.ownsRow base 5 1 v (l.length + m) (cellsB l ++ news)) (e : news = cellsB l2) (hm : m = l2.length) : Owns base w v (l ++ l2) := by
  subst e
  subst hm
  unfold Owns
  rw [List.length_append]
  have : cellsB (l ++ l2) = cellsB l ++ cellsB l2 := by simp [cellsB]
  rw [this]
  exact h
theorem stay_append {w wr w1 : World} {v : Value} {l : List UInt8} {base : Nat} (hst : Stay (fun _ => False) w wr) (how : Owns base wr v l) (hb : w.heap.size ≤ base) (o : Obj) (hgr : (wr.alloc o).grownBy w1 v.ownBlock) : Stay (fun _ => False) w w1 :=
  (hst.trans (Stay.alloc wr o)).andThen (Stay.grown (X := fun k => base ≤ k) hgr (fun k hk => (World.ownsRow.lt how k hk).1)) (fun i hi hx => absurd hi (by have hx' : base ≤ i := hx; omega))

theorem news_one (w : World) (x : Value) (t : TypeId) : ∀ (j : Nat) u, [x][j]? = some u → (w.alloc (.cells #[x] t)).cell? ((⟨w.heap.size, 0, none⟩ : Addr).add j) = some u := by
  intro j u hu
  have hj : j = 0 := by
    have := (List.getElem?_eq_some_iff.1 hu).1
    simp at this
    omega
  subst hj
  rw [add_at, World.cell?_alloc_at _ _ _ _ rfl]
  simpa using hu
theorem news_int (k : IntKind) (x : Int) : ∀ u ∈ [Value.int k x], u.oneCell' = true := by
  intro u hu
  rw [List.mem_singleton.1 hu]
  rfl

theorem shr_ne {n j : Nat} (h : j < kOf n) : ((n : Int) / 2 ^ (7 * j + 7) != 0) = true := by
  have := kOf_lt h
  have h2 : 0 < n / 2 ^ (7 * j + 7) := Nat.div_pos this (Nat.pow_pos (by decide))
  rw [bne_iff_ne]
  have e : ((n : Int) / 2 ^ (7 * j + 7)) = ((n / 2 ^ (7 * j + 7) : Nat) : Int) := by simp
  rw [e]
  omega
theorem shr_eq {n : Nat} (h : kOf n < 8) : ((n : Int) / 2 ^ (7 * kOf n + 7) != 0) = false := by
  have := kOf_ge h
  have h2 : n / 2 ^ (7 * kOf n + 7) = 0 := Nat.div_eq_of_lt this
  rw [bne_eq_false_iff_eq]
  have e : ((n : Int) / 2 ^ (7 * kOf n + 7)) = ((n / 2 ^ (7 * kOf n + 7) : Nat) : Int) := by simp
  rw [e, h2]
  rfl

theorem info5 : (Tryz.prog.info? 5).map (fun i => (i.zero, i.size, i.bytes)) = some (some (.int .u8 0), 1, 1) := by kernel_rfl

theorem or_table : ∀ k : Fin 9, ∀ q : Fin 128, q.val < 2 ^ (7 - k.val) → (k.val = 8 → q.val = 0) → bits BinOp.or IntKind.u8 ((onesN k.val : Nat) : Int) ((q.val : Nat) : Int) = ((onesN k.val + q.val : Nat) : Int) := by decide +kernel

/-- The first byte. -/
def firstN (n : Nat) : Nat := onesN (kOf n) + n / 256 ^ kOf n
theorem first_or {n : Nat} (hn : n < 2 ^ 64) : bits BinOp.or IntKind.u8 ((onesN (kOf n) : Nat) : Int) (IntKind.u8.wrap ((n : Int) / 2 ^ (8 * kOf n))) = ((firstN n : Nat) : Int) := by
  unfold firstN
  have h8 := kOf_le n
  obtain ⟨h1, h2⟩ := first_lt hn
  have e : ((n : Int) / 2 ^ (8 * kOf n)) = ((n / 256 ^ kOf n : Nat) : Int) := by
    have : (256 : Nat) ^ kOf n = 2 ^ (8 * kOf n) := by rw [Nat.pow_mul]
    rw [this]
    simp
  rw [e]
  generalize n / 256 ^ kOf n = q at *
  generalize kOf n = k at *
  have hq : q < 128 := Nat.lt_of_lt_of_le h1 (by rcases eight h8 with rfl | rfl | rfl | rfl | rfl | rfl | rfl | rfl | rfl <;> decide)
  have hw : IntKind.u8.wrap (q : Int) = (q : Int) := IntWalk.u8_in _ (by omega)
  rw [hw]
  exact or_table ⟨k, by omega⟩ ⟨q, hq⟩ h1 h2

theorem low_byteV (n j : Nat) : Value.int .u8 ((n : Int) / 2 ^ (8 * j) % 256) = byteV (UInt8.ofNat (n / 256 ^ j % 256)) := by
  have e : ((n : Int) / 2 ^ (8 * j)) = ((n / 256 ^ j : Nat) : Int) := by
    have : (256 : Nat) ^ j = 2 ^ (8 * j) := by rw [Nat.pow_mul]
    rw [this]
    simp
  unfold byteV
  rw [e, toNat_ofNat (Nat.mod_lt _ (by decide))]
  congr 1
/-- What is spelled when j bytes are left. -/
def part (n j : Nat) : List UInt8 := UInt8.ofNat (onesN (kOf n) + n / 256 ^ kOf n) :: (lowB n (kOf n)).take (kOf n - j)
theorem spell_start {n : Nat} (w : World) (hn : n < 2 ^ 64) : Owns w.heap.size (w.alloc (.cells #[.int .u8 ((firstN n : Nat) : Int)] 5)).drew (.slice (some ⟨w.heap.size, 0, none⟩) 1 1) (part n (kOf n)) := by
  have h := Owns.one w (UInt8.ofNat (onesN (kOf n) + n / 256 ^ kOf n)) w.heap.size (Nat.le_refl _) _ rfl
  unfold byteV at h
  rw [toNat_ofNat (first_byte hn).1] at h
  unfold part
  rw [Nat.sub_self, List.take_zero]
  unfold firstN
  exact h.drew
theorem spell_len (n j : Nat) : (part n j).length ≤ 9 := by
  have := kOf_le n
  unfold part
  simp [length_lowB]
  omega
theorem spell_next {n j base : Nat} {w : World} {v : Value} (hj : j + 1 ≤ kOf n) (h : Owns base w v (part n (j + 1) ++ [UInt8.ofNat (n / 256 ^ j % 256)])) :
    Owns base w v (part n j) := by
  have e : kOf n - j = kOf n - (j + 1) + 1 := by omega
  have h2 := lowB_at n (kOf n) (kOf n - (j + 1)) (by omega)
  rw [show kOf n - 1 - (kOf n - (j + 1)) = j by omega] at h2
  unfold part at *
  rw [e, List.take_add_one, h2]
  exact h
theorem spell_end {n base : Nat} {w : World} {v : Value} (h : Owns base w v (part n 0)) : Owns base w v (spellB n) := by
  unfold part at h
  rw [Nat.sub_zero, List.take_of_length_le (by rw [length_lowB]; exact Nat.le_refl _)] at h
  exact h

set_option maxHeartbeats 1000000 in
theorem spell_any (n : Nat) (w : World) (hn : (n : Int) ≤ 18446744073709551615) : Calls Tryz.prog 81 #[.int .u64 n] w fun e w' => ∃ v, e = .returned v ∧ Owns w.heap.size w' v (spellB n) ∧ Stay (fun _ => False) w w' := by
  have h8 := kOf_le n
  have hn' : n < 2 ^ 64 := by omega
  have HN := Lib.hid hn'
  clear hn'
  obtain ⟨i0, hi, hz0, hz1, hz2⟩ := info_parts info5
  have HI := Lib.hid hi
  have HZ0 := Lib.hid hz0
  have HZ1 := Lib.hid hz1
  have HZ2 := Lib.hid hz2
  have HF := Lib.hid (first_or HN.out)
  clear hi hz0 hz1 hz2
  go_enter Tryz.func81, Tryz.ntmps81
  go_wp2
  go_loop [3] (fun k => ∃ j : Nat, j ≤ kOf n ∧ k = .int .i64 j) (fun k => (8 - intOf k).toNat)
  case atStart => exact ⟨0, by omega, rfl⟩
  case round =>
    obtain ⟨j, hj, rfl⟩ := hrel
    by_cases hlt : j < kOf n
    · have hs := shr_ne hlt
      go_wp2
      go_round
      case rel => exact ⟨j + 1, by omega, by go_num⟩
      case measure => simp [intOf]; omega
    · obtain rfl : kOf n = j := by omega
      by_cases h : kOf n < 8
      have hs := shr_eq h
      all_goals
        go_wp2
        have e1 : IntKind.i64.wrap (8 * (kOf n : Int)) = 8 * (kOf n : Int) := IntWalk.i64_in _ (by omega)
        have e2 : (0 : Int) ≤ 8 * (kOf n : Int) := by omega
        have e3 : (8 * (kOf n : Int)).toNat = 8 * kOf n := by omega
        go_region_with (go_at_call 117; refine (ones_any _ _ h8).mono ?_; rintro e w' ⟨rfl, rfl⟩)
        clear e1 e2 e3
        go_wp2
        simp only [List.getElem_toArray, List.getElem_cons_succ, List.getElem_cons_zero]
        go_frame
        rw [HF.out]
        go_loopw [3, 4] (fun k v wr => ∃ j : Nat, j ≤ kOf n ∧ k = .int .i64 j ∧ Owns w.heap.size wr v (part n j) ∧ Stay (fun _ => False) w wr) (fun k _ _ => (intOf k).toNat)
        case atStart => exact ⟨kOf n, Nat.le_refl _, rfl, spell_start w HN.out, (Stay.alloc _ _).trans Stay.drew⟩
        case round =>
          obtain ⟨j, hj, rfl, how, hst⟩ := hrel
          have hlen := spell_len n j
          by_cases hlt : 0 < j
          · obtain ⟨j', rfl⟩ : ∃ j', j = j' + 1 := ⟨j - 1, by omega⟩
            go_wp2_with (at_builtin; refine wpList_append_own _ rfl _ _ 56 rfl w.heap.size 5 i0 (.int .u8 0) 1 1 Tryz.underlying56 HI.out HZ0.out HZ1.out HZ2.out rfl (by decide) _ _ _ rfl (how.alloc _) ⟨wr.heap.size, 0, none⟩ 1 1 [.int .u8 ((n : Int) / 2 ^ (8 * j') % 256)] rfl rfl ?c1 ?c2 ?c3 ?c4 ?c5 ?_)
            case c1 => exact news_one _ _ _
            case c2 => exact news_int _ _
            case c3 => unfold maxLen; omega
            case c4 => omega
            case c5 => have := hst.size; simp; omega
            intro v' w1 hown hgr _
            have how' := owns_join (l2 := [UInt8.ofNat (n / 256 ^ j' % 256)]) hown (by rw [low_byteV]; rfl) rfl
            have hst' := stay_append hst how (Nat.le_refl _) _ hgr
            clear hown hgr how hst
            go_wp2
            go_roundw
            case rel => exact ⟨j', by omega, by go_num, spell_next (by omega) how', hst'⟩
            case measure => simp [intOf]
          · obtain rfl : j = 0 := by omega
            go_wp2
            go_ret
            exact ⟨_, rfl, spell_end how, hst⟩

end Go.Proofs.YtljlfdhjolcnaaaGreat.Pk

/-
  pack: slices of bytes that are read, appended and cloned; a writer in memory; New, lay, Uint, Bool, Done.
-/
namespace Go.Proofs.YtljlfdhjolcnaaaGreat.Pk
open Go.RowKit
set_option maxRecDepth 100000

/-- The address behind which these bytes lie, if there are any. -/
def ReadsAs (w : World) (sp : Option Addr) (l : List UInt8) : Prop := 0 < l.length → ∃ ad : Addr, sp = some ad ∧ ∀ j v, (cellsB l)[j]? = some v → w.cell? (ad.add j) = some v

/-- A slice that reads as bytes: nil, empty or not. -/
def Slc (w : World) (x : Value) (b : List UInt8) : Prop := ∃ a0 c, x = .slice a0 b.length c ∧ ReadsAs w a0 b ∧ (a0 = none → c = 0) ∧ b.length ≤ c ∧ c ≤ 9223372036854775807

theorem stay_drewN {X : Nat → Prop} (w : World) (n : Nat) : Stay X w (w.drewN n) := ⟨rfl, rfl, rfl, Nat.le_refl _, fun _ _ _ => rfl⟩

theorem ReadsAs.stay {X : Nat → Prop} {w w' : World} {sp : Option Addr} {l : List UInt8} (h : ReadsAs w sp l) (hs : Stay X w w') (hx : 0 < l.length → ∀ ad, sp = some ad → ¬ X ad.block) : ReadsAs w' sp l := by
  intro h0
  obtain ⟨ad, e, hc⟩ := h h0
  refine ⟨ad, e, fun j v hv => hs.cell (hc j v hv) ?_⟩
  have hb : (ad.add j).block = ad.block := by unfold Addr.add; split <;> rfl
  rw [hb]
  exact hx h0 ad e
theorem ReadsAs.stay0 {w w' : World} {sp : Option Addr} {l : List UInt8} (h : ReadsAs w sp l) (hs : Stay (fun _ => False) w w') : ReadsAs w' sp l := h.stay hs (fun _ _ _ x => x)
theorem Slc.stay0 {w w' : World} {x : Value} {l : List UInt8} (h : Slc w x l) (hs : Stay (fun _ => False) w w') : Slc w' x l := by
  obtain ⟨a0, c, e, hr, hn⟩ := h
  exact ⟨a0, c, e, hr.stay0 hs, hn⟩
theorem Slc.alloc {w : World} {x : Value} {l : List UInt8} (h : Slc w x l) (o : Obj) : Slc (w.alloc o) x l := h.stay0 (Stay.alloc w o)

theorem Owns.slc {base : Nat} {w : World} {v : Value} {l : List UInt8} (h : Owns base w v l) : Slc w v l := by
  have hc := fun g hg => World.ownsRow.cells (g := g) h hg
  rcases h.2 with ⟨e, hn⟩ | ⟨g, cap, cur, e, _, _, h1, h2, _⟩
  · have : l = [] := List.eq_nil_of_length_eq_zero hn
    subst this
    exact ⟨none, 0, e, fun h => by simp at h, fun _ => rfl, Nat.le_refl _, by decide⟩
  · refine ⟨_, cap, e, fun _ => ⟨_, rfl, ?_⟩, (fun h => by cases h), h1, by unfold maxLen at h2; omega⟩
    subst e
    exact hc g rfl
theorem Owns.stay {base : Nat} {X : Nat → Prop} {w w' : World} {v : Value} {l : List UInt8} (h : Owns base w v l) (hs : Stay X w w') (hx : ∀ k, v.ownBlock = some k → ¬ X k) : Owns base w' v l := by
  refine ⟨h.1, ?_⟩
  rcases h.2 with h' | ⟨g, cap, cur, rfl, h1, hg, r⟩
  · exact .inl h'
  · exact .inr ⟨g, cap, cur, rfl, h1, (hs.block g (Array.getElem?_eq_some_iff.1 hg).1 (hx g rfl)).trans hg, r⟩
theorem Owns.stay0 {base : Nat} {w w' : World} {v : Value} {l : List UInt8} (h : Owns base w v l) (hs : Stay (fun _ => False) w w') : Owns base w' v l := h.stay hs (fun _ _ x => x)
theorem Owns.lt {base : Nat} {w : World} {v : Value} {l : List UInt8} (h : Owns base w v l) : ∀ k, v.ownBlock = some k → base ≤ k ∧ k < w.heap.size := World.ownsRow.lt h
theorem Owns.base {base base' : Nat} {w : World} {v : Value} {l : List UInt8} (h : Owns base w v l) (hb : ∀ k, v.ownBlock = some k → base' ≤ k) : Owns base' w v l := by
  refine ⟨h.1, ?_⟩
  rcases h.2 with h' | ⟨g, cap, cur, rfl, h1, r⟩
  · exact .inl h'
  · exact .inr ⟨g, cap, cur, rfl, hb g rfl, r⟩
theorem Owns.nil (base : Nat) (w : World) : Owns base w (.slice none 0 0) [] := World.ownsRow_nil w base _ _
theorem Owns.empty (base : Nat) (w : World) (hb : base ≤ w.heap.size) : Owns base (w.alloc (.cells #[] 5)) (.slice (some ⟨w.heap.size, 0, none⟩) 0 0) [] := World.ownsRow_lit w #[] 0 hb (Nat.zero_le _) rfl
theorem Owns.form {base : Nat} {w : World} {v : Value} {l : List UInt8} (h : Owns base w v l) : ∃ a c, v = .slice a l.length c := by
  rcases h.2 with ⟨e, hn⟩ | ⟨g, cap, cur, e, _⟩
  · exact ⟨none, 0, by rw [e, hn]⟩
  · exact ⟨_, _, e⟩
theorem Owns.size {base : Nat} {w : World} {v : Value} {l : List UInt8} (h : Owns base w v l) : l.length ≤ 9223372036854775807 := by
  rcases h.2 with ⟨_, h'⟩ | ⟨g, cap, cur, _, _, _, h1, h2, _⟩
  · omega
  · unfold maxLen at h2; omega

section
variable {P : Program}
/-- Bytes appended to a slice of the call's own, from whatever slice. -/
theorem run_append_slc (w : World) (base : Nat) (t ty : TypeId) (i : TypeInfo) (ht : P.underlying t = some (.slice 5)) (hi : P.info? 5 = some i) (hz : i.zero = some (.int .u8 0)) (hsize : i.size = 1) (hby : i.bytes = 1)
    (v x : Value) (l b : List UInt8) (hown : Owns base w v l) (hx : Slc w x b) (hlen : l.length + b.length ≤ 140737488355328) (hbase : base ≤ w.heap.size) :
    ∃ v' w', (Builtin.append_ #[t, t] ty #[v, x]).run P w = .ok v' w' ∧ Owns base w' v' (l ++ b) ∧ w.grownBy w' v.ownBlock ∧ (v'.ownBlock = v.ownBlock ∨ v'.ownBlock = some w.heap.size) := by
  obtain ⟨a0, c, rfl, hr, hn, _⟩ := hx
  have nil : b = [] → ∀ h : (Builtin.append_ #[t, t] ty #[v, .slice a0 b.length c]).run P w = .ok v w, ∃ v' w', (Builtin.append_ #[t, t] ty #[v, .slice a0 b.length c]).run P w = .ok v' w' ∧ Owns base w' v' (l ++ b) ∧ w.grownBy w' v.ownBlock ∧ (v'.ownBlock = v.ownBlock ∨ v'.ownBlock = some w.heap.size) := by
    rintro rfl h
    exact ⟨v, w, h, by rw [List.append_nil]; exact hown, ⟨rfl, rfl, rfl, Nat.le_refl _, fun _ _ _ => rfl⟩, .inl rfl⟩
  cases a0 with
  | none =>
    have hb : b = [] := by
      rcases Nat.eq_zero_or_pos b.length with h0 | h0
      · exact List.eq_nil_of_length_eq_zero h0
      · obtain ⟨ad, e, _⟩ := hr h0
        cases e
    refine nil hb ?_
    subst hb
    rw [hn rfl]
    exact run_append_owned_none (P := P) w base t ty _ i 1 ht hi v l.length (cellsB l) hown
  | some ad =>
    have hcells : ∀ j u, (cellsB b)[j]? = some u → w.cell? (ad.add j) = some u := by
      intro j u hu
      have h0 : 0 < b.length := by
        have := (List.getElem?_eq_some_iff.1 hu).1
        rw [length_cellsB] at this
        omega
      obtain ⟨ad', e, hc⟩ := hr h0
      cases e
      exact hc j u hu
    obtain ⟨v', w', hrun, h2, h3, _, h5⟩ := run_append_own_at (P := P) w base t ty _ i (.int .u8 0) 1 1 ht hi hz hsize hby rfl (by decide) v l.length (cellsB l) hown ad b.length c (cellsB b) (by rw [length_cellsB, Nat.mul_one]) hcells (oneCell_cellsB b)
      (by unfold maxLen; omega) (by omega) hbase
    exact ⟨v', w', hrun, owns_join h2 rfl rfl, h3, h5⟩

theorem wpList_append_slc {ops : Array Oper} {rest : List Oper} {o : Oper} {a : Act} {w : World} {Q : Exit → Act → World → Prop} (hgd : o.guard = none) (s x : Operand) (t : TypeId)
    (ho : o.op = .call { callee := .builtin .append, args := #[s, x], argTypes := #[t, t] }) (base : Nat) (i : TypeInfo) (ht : P.underlying t = some (.slice 5)) (hi : P.info? 5 = some i) (hz : i.zero = some (.int .u8 0)) (hsize : i.size = 1) (hby : i.bytes = 1)
    (vs vx : Value) (l b : List UInt8) (hs : a.eval s = vs) (hx : a.eval x = vx) (hown : Owns base w vs l) (hsrc : Slc w vx b) (hlen : l.length + b.length ≤ 140737488355328) (hbase : base ≤ w.heap.size)
    (h : ∀ v' w', Owns base w' v' (l ++ b) → w.grownBy w' vs.ownBlock → (v'.ownBlock = vs.ownBlock ∨ v'.ownBlock = some w.heap.size) → wpList P ops Q rest (a.put o.dst v') w') : wpList P ops Q (o :: rest) a w :=
  wpList_plain hgd fun _ hK => by
    obtain ⟨v', w', hrun, h2, h3, h4⟩ := run_append_slc (P := P) w base t o.type i ht hi hz hsize hby vs vx l b hown hsrc hlen hbase
    unfold Oper.wp execOp
    simp only [ho, resolve, invoke, builtin, Sem.run_bind, Sem.run_pure, Result.andThen_ok, List.map_toArray, List.map_cons, List.map_nil, hs, hx, hrun]
    exact hK _ _ (h v' w' h2 h3 h4)
end

/-- slices.Clone of bytes. -/
theorem clone_slc (w : World) (x : Value) (b : List UInt8) (hx : Slc w x b) (hlen : b.length ≤ 140737488355328) :
    Calls Tryz.prog 85 #[x] w fun e w' => ∃ v, e = .returned v ∧ Owns w.heap.size w' v b ∧ Stay (fun _ => False) w w' := by
  obtain ⟨i0, hi, hz0, hz1, hz2⟩ := info_parts info5
  have hq := @Lib.run_eql_slice_nil
  have HI := Lib.hid hi
  have HZ0 := Lib.hid hz0
  have HZ1 := Lib.hid hz1
  have HZ2 := Lib.hid hz2
  have HX := Lib.hid (hx.alloc (.cells #[] 5))
  have how := Owns.empty w.heap.size w (Nat.le_refl _)
  obtain ⟨a0, c, rfl, hr, hn, _⟩ := hx
  have HR := Lib.hid hr
  clear hi hz0 hz1 hz2 hr
  cases a0 with
  | none =>
    obtain rfl := hn rfl
    have hb : b = [] := by
      rcases Nat.eq_zero_or_pos b.length with h0 | h0
      · exact List.eq_nil_of_length_eq_zero h0
      · obtain ⟨ad, e, _⟩ := HR.out h0
        cases e
    subst hb
    clear HR HX how hn
    go_enter Tryz.func85, Tryz.ntmps85
    go_wp2
    go_ret
    exact ⟨_, rfl, Owns.nil _ _, Stay.refl _ _⟩
  | some ad =>
    clear HR hn
    go_enter Tryz.func85, Tryz.ntmps85
    go_wp2_with (at_builtin; refine wpList_append_slc rfl (.tmp 5) (.tmp 6) 56 rfl w.heap.size i0 Tryz.underlying56 HI.out HZ0.out HZ1.out HZ2.out (.slice (some ⟨w.heap.size, 0, none⟩) 0 0) _ [] b rfl rfl how HX.out (by simp; omega) (by simp) ?_; intro v' w1 hown hgr hnn)
    go_ret
    exact ⟨v', rfl, by simpa using hown, (Stay.alloc (X := fun _ => False) w _).andThen (Stay.grown (X := fun k => k = w.heap.size) hgr (fun k hk => by simpa [Value.ownBlock] using hk.symm)) (fun k hk e => by omega)⟩

/-- A writer in block p that has laid l; what it has lies in the blocks of X. -/
structure WrAt (X : Nat → Prop) (w : World) (p : Nat) (l : List UInt8) : Prop where
  own : X p
  ex : ∃ v, w.heap[p]? = some (.cells #[v] 138 (0, 0)) ∧ Owns 0 w v l ∧ ∀ k, v.ownBlock = some k → X k ∧ k ≠ p

theorem WrAt.stay {X Y : Nat → Prop} {w w' : World} {p : Nat} {l : List UInt8} (h : WrAt X w p l) (hs : Stay Y w w') (hxy : ∀ k, X k → k < w.heap.size → ¬ Y k) : WrAt X w' p l := by
  obtain ⟨hp, v, hv, ho, hk⟩ := h
  have hlt := lt_of_block hv
  exact ⟨hp, v, (hs.block p hlt (hxy p hp hlt)).trans hv, ho.stay hs (fun k e => hxy k (hk k e).1 (ho.lt k e).2), hk⟩
theorem WrAt.stay0 {X : Nat → Prop} {w w' : World} {p : Nat} {l : List UInt8} (h : WrAt X w p l) (hs : Stay (fun _ => False) w w') : WrAt X w' p l := h.stay hs (fun _ _ _ x => x)
theorem WrAt.mono {X Y : Nat → Prop} {w : World} {p : Nat} {l : List UInt8} (h : WrAt X w p l) (hxy : ∀ k, X k → Y k) : WrAt Y w p l := by
  obtain ⟨hp, v, hv, ho, hk⟩ := h
  exact ⟨hxy p hp, v, hv, ho, fun k e => ⟨hxy k (hk k e).1, (hk k e).2⟩⟩
theorem WrAt.new (w : World) : WrAt (fun k => w.heap.size ≤ k) (w.alloc (.cells #[.slice none 0 0] 138)) w.heap.size [] :=
  ⟨Nat.le_refl _, _, heap_alloc_new w _, Owns.nil _ _, fun k h => by cases h⟩
theorem WrAt.size {X : Nat → Prop} {w : World} {p : Nat} {l : List UInt8} (h : WrAt X w p l) : l.length ≤ 9223372036854775807 := by
  obtain ⟨_, v, _, ho, _⟩ := h
  exact ho.size

theorem new_any (w : World) : Calls Tryz.prog 44 #[] w fun e w' => e = .returned (.pointer (some ⟨w.heap.size, 0, none⟩)) ∧ w' = w.alloc (.cells #[.slice none 0 0] 138) := by
  go_enter Tryz.func44, Tryz.ntmps44
  go_wp2
  go_ret
  exact ⟨rfl, rfl⟩

theorem lay_any (X : Nat → Prop) (w : World) (p : Nat) (l b : List UInt8) (x : Value) (h : WrAt X w p l) (hx : Slc w x b) (hlen : l.length + b.length ≤ 140737488355328) :
    Calls Tryz.prog 80 #[.pointer (some ⟨p, 0, none⟩), x] w fun e w' => e = .returned (.pointer (some ⟨p, 0, none⟩)) ∧ WrAt (fun k => X k ∨ w.heap.size ≤ k) w' p (l ++ b) ∧ Stay X w w' := by
  obtain ⟨hp, v, hv, ho, hk⟩ := h
  obtain ⟨i0, hi, hz0, hz1, hz2⟩ := info_parts info5
  have HI := Lib.hid hi
  have HZ0 := Lib.hid hz0
  have HZ1 := Lib.hid hz1
  have HZ2 := Lib.hid hz2
  have HX := Lib.hid hx
  have HO := Lib.hid ho
  have HV := Lib.hid hv
  have HK := Lib.hid hk
  have hc := cell_of_one hv
  have hlt := lt_of_block hv
  clear hi hz0 hz1 hz2 hx ho hv hk
  go_enter Tryz.func80, Tryz.ntmps80
  go_wp2_with (at_builtin; refine wpList_append_slc rfl (.tmp 11) (.tmp 12) 56 rfl 0 i0 Tryz.underlying56 HI.out HZ0.out HZ1.out HZ2.out v x l b rfl rfl HO.out HX.out hlen (Nat.zero_le _) ?_; intro v' w1 hown hgr hnn; have HB := Lib.hid ((hgr.block p hlt (fun e => (HK.out p e.symm).2 rfl)).trans HV.out); have hc1 := cell_of_one HB.out; have hf1 := free_of_one HB.out; have HNN := Lib.hid hnn; clear hnn; obtain ⟨a1, c1, rfl⟩ := hown.form)
  go_ret
  have hown' : Owns 0 w1 (.slice a1 (l.length + b.length) c1) (l ++ b) := by rw [← List.length_append]; exact hown
  have hk : ∀ k, (Value.slice a1 (l.length + b.length) c1).ownBlock = some k → (X k ∨ w.heap.size ≤ k) ∧ k ≠ p := by
    intro k e
    have e' : (Value.slice a1 (l ++ b).length c1).ownBlock = some k := by rw [List.length_append]; exact e
    rcases HNN.out with h | h
    · rw [e'] at h
      exact ⟨.inl (HK.out k h.symm).1, (HK.out k h.symm).2⟩
    · rw [e'] at h
      cases h
      exact ⟨.inr (Nat.le_refl _), by omega⟩
  refine ⟨rfl, ⟨.inl hp, _, one_setCell HB.out, ownsRow_setCell_other (a := ⟨p, 0, none⟩) hown' (fun e => (hk p e).2 rfl) _, hk⟩, (Stay.grown (X := X) hgr (fun k e => (HK.out k e).1)).trans (Stay.setCell _ _ _ hp)⟩

theorem uint_any (X : Nat → Prop) (w : World) (p : Nat) (l : List UInt8) (n : Nat) (h : WrAt X w p l) (hn : (n : Int) ≤ 18446744073709551615) (hlen : l.length + 9 ≤ 140737488355328) :
    Calls Tryz.prog 46 #[.pointer (some ⟨p, 0, none⟩), .int .u64 n] w fun e w' => e = .returned (.pointer (some ⟨p, 0, none⟩)) ∧ WrAt (fun k => X k ∨ w.heap.size ≤ k) w' p (l ++ spellB n) ∧ Stay X w w' := by
  have hl : l.length + (spellB n).length ≤ 140737488355328 := by
    have := kOf_le n
    rw [length_spellB]
    omega
  have hp := h.own
  go_enter Tryz.func46, Tryz.ntmps46
  go_wp2_with fail
  refine (spell_any n w hn).mono ?_
  rintro e w' ⟨v, rfl, how, hst⟩
  go_wp2_with fail
  refine (lay_any X _ p l _ _ (h.stay0 hst) how.slc hl).mono ?_
  rintro e w1 ⟨rfl, hw1, hst1⟩
  go_wp2
  go_ret
  exact ⟨rfl, hw1.mono (fun k hk => by rcases hk with hk | hk; exact .inl hk; exact .inr (Nat.le_trans hst.size hk)), (hst.mono (fun _ x => x.elim)).trans hst1⟩

/-- A truth as bytes. -/
def boolB (b : Bool) : List UInt8 := [if b then 1 else 0]

theorem slc_one (w : World) (c : UInt8) (x : Int) (hx : x = (c.toNat : Int)) : Slc (w.alloc (.cells #[.int .u8 x] 5)) (.slice (some ⟨w.heap.size, 0, none⟩) 1 1) [c] := by
  subst hx
  exact (Owns.one w c w.heap.size (Nat.le_refl _) _ rfl).slc

theorem bool_any (X : Nat → Prop) (w : World) (p : Nat) (l : List UInt8) (b : Bool) (h : WrAt X w p l) (hlen : l.length + 1 ≤ 140737488355328) :
    Calls Tryz.prog 48 #[.pointer (some ⟨p, 0, none⟩), .bool b] w fun e w' => e = .returned (.pointer (some ⟨p, 0, none⟩)) ∧ WrAt (fun k => X k ∨ w.heap.size ≤ k) w' p (l ++ boolB b) ∧ Stay X w w' := by
  cases b
  · go_enter Tryz.func48, Tryz.ntmps48
    go_wp2_with fail
    refine (lay_any X _ p l [0] _ (h.stay0 (Stay.alloc _ _)) (slc_one w 0 0 rfl) hlen).mono ?_
    rintro e w1 ⟨rfl, hw1, hst1⟩
    go_wp2
    go_ret
    exact ⟨rfl, hw1.mono (fun k hk => by rcases hk with hk | hk; exact .inl hk; simp at hk; exact .inr (by omega)), (Stay.alloc _ _).trans hst1⟩
  · go_enter Tryz.func48, Tryz.ntmps48
    go_wp2_with fail
    refine (lay_any X _ p l [1] _ (h.stay0 (Stay.alloc _ _)) (slc_one w 1 1 rfl) hlen).mono ?_
    rintro e w1 ⟨rfl, hw1, hst1⟩
    go_wp2
    go_ret
    exact ⟨rfl, hw1.mono (fun k hk => by rcases hk with hk | hk; exact .inl hk; simp at hk; exact .inr (by omega)), (Stay.alloc _ _).trans hst1⟩

theorem done_any (X : Nat → Prop) (w : World) (p : Nat) (l : List UInt8) (h : WrAt X w p l) (hlen : l.length ≤ 140737488355328) :
    Calls Tryz.prog 51 #[.pointer (some ⟨p, 0, none⟩)] w fun e w' => ∃ v, e = .returned v ∧ Owns w.heap.size w' v l ∧ Stay (fun _ => False) w w' := by
  obtain ⟨hp, v, hv, ho, hk⟩ := h
  have hc := cell_of_one hv
  have HO := Lib.hid ho
  clear ho hk hv
  go_enter Tryz.func51, Tryz.ntmps51
  go_wp2_with fail
  refine (clone_slc w v l HO.out.slc hlen).mono ?_
  rintro e w1 ⟨v1, rfl, how, hst⟩
  go_wp2
  go_ret
  exact ⟨v1, rfl, how, hst⟩

end Go.Proofs.YtljlfdhjolcnaaaGreat.Pk

/-
  pack: the contracts of the readers' rules: number, truth, signed.
-/
namespace Go.Proofs.YtljlfdhjolcnaaaGreat.Pk
open Go.RowKit
set_option maxRecDepth 100000

theorem ret_int {k : IntKind} {a b : Int} (h : a = b) : Ending.returned (.int k a) = .returned (.int k b) := by rw [h]
def len8N (x : Nat) : Nat := 8 - leadN (255 - x)

theorem len8_any (x : Nat) (h : x < 256) (w : World) : Calls Tryz.prog 166 #[.int .u8 x] w fun e w' => e = .returned (.int .i64 (len8N x : Nat)) ∧ w = w' := by
  go_enter Tryz.func166, Tryz.ntmps166
  go_wp2
  go_ret
  refine ⟨ret_int ?_, rfl⟩
  revert h x
  decide +kernel

theorem xor_table : ∀ c : Fin 256, bits BinOp.xor IntKind.u8 IntKind.u8.max ((c.val : Nat) : Int) = ((255 - c.val : Nat) : Int) := by decide +kernel
theorem xor_byte (c : UInt8) : bits BinOp.xor IntKind.u8 IntKind.u8.max (c.toNat : Int) = ((255 - c.toNat : Nat) : Int) := xor_table ⟨c.toNat, c.toNat_lt⟩

theorem lead8_any (c : UInt8) (w : World) : Calls Tryz.prog 149 #[.int .u8 (bits BinOp.xor IntKind.u8 IntKind.u8.max (c.toNat : Int))] w fun e w' => e = .returned (.int .i64 (leadN c.toNat : Nat)) ∧ w = w' := by
  have hc := c.toNat_lt
  have hl := leadN_le c.toNat
  have he : (len8N (255 - c.toNat) : Int) = 8 - (leadN c.toNat : Int) := by
    unfold len8N
    rw [show 255 - (255 - c.toNat) = c.toNat by omega]
    omega
  have HE := Lib.hid he
  clear he
  rw [xor_byte]
  go_enter Tryz.func149, Tryz.ntmps149
  go_wp2_with fail
  refine (len8_any (255 - c.toNat) (by omega) _).mono ?_
  rintro e w' ⟨rfl, rfl⟩
  rw [HE.out]
  go_wp2
  go_ret
  exact ⟨ret_int (by omega), rfl⟩

/-- What stays of a slice behind k bytes: where it lies, and what it reads. -/
def Sub (w : World) (x v : Value) (r : List UInt8) : Prop := Slc w v r ∧ ∀ k, v.ownBlock = some k → x.ownBlock = some k

theorem Slc.cut {w : World} {a0 : Option Addr} {b : List UInt8} {c k : Nat} (h : Slc w (.slice a0 b.length c) b) (hk : k ≤ b.length) :
    Sub w (.slice a0 b.length c) (.slice (if c = k then a0 else a0.map (·.add k)) (b.length - k) (c - k)) (b.drop k) := by
  obtain ⟨a1, c1, e, hr, hn, hc, hm⟩ := h
  cases e
  refine ⟨⟨_, c - k, by rw [List.length_drop], fun h0 => ?_, fun e => ?_, by rw [List.length_drop]; omega, by omega⟩, fun g hg => ?_⟩
  · rw [List.length_drop] at h0
    obtain ⟨ad, rfl, hcell⟩ := hr (by omega)
    rw [if_neg (by omega)]
    refine ⟨_, rfl, fun j v hv => ?_⟩
    have hv' : (cellsB b)[k + j]? = some v := by
      rw [← hv]
      simp [cellsB]
    have := hcell _ v hv'
    have e2 : (ad.add k).add j = ad.add (k + j) := by
      unfold Addr.add
      by_cases h1 : k = 0 <;> by_cases h2 : j = 0 <;> simp [h1, h2, Nat.add_assoc]
    rw [e2]
    exact this
  · split at e
    · have := hn e
      omega
    · cases a0 with
      | none => have := hn rfl; omega
      | some ad => cases e
  · split at hg
    · cases a0 <;> exact hg
    · cases a0 with
      | none => cases hg
      | some ad =>
        have : (ad.add k).block = ad.block := by unfold Addr.add; split <;> rfl
        simp only [Option.map_some, Value.ownBlock, this] at hg
        exact hg
theorem Sub.trans {w : World} {x v u : Value} {r s : List UInt8} (h : Sub w x v r) (h2 : Sub w v u s) : Sub w x u s := ⟨h2.1, fun k hk => h.2 k (h2.2 k hk)⟩
theorem Sub.stay0 {w w' : World} {x v : Value} {r : List UInt8} (h : Sub w x v r) (hs : Stay (fun _ => False) w w') : Sub w' x v r := ⟨h.1.stay0 hs, h.2⟩

/-- An error by its number. -/
def errI (c : Nat) : Value := .iface 66 (.int .i64 (c : Int))
/-- What a rule hands back. -/
def Ret {α : Type} (zero : Value) (val : α → Value) (w : World) (x : Value) : Except Nat (α × List UInt8) → Ending → Prop
  | .error c, e => e = .returned (.tuple #[zero, .slice none 0 0, errI c])
  | .ok (n, r), e => ∃ v, e = .returned (.tuple #[val n, v, .nilIface]) ∧ Sub w x v r
theorem ret_ok {α : Type} {zero u v : Value} {val : α → Value} {w : World} {x : Value} {n : α} {r : List UInt8} (hu : u = val n) (hs : Sub w x v r) : Ret zero val w x (.ok (n, r)) (.returned (.tuple #[u, v, .nilIface])) := ⟨v, by rw [hu], hs⟩
theorem Ret.stay0 {α : Type} {zero : Value} {val : α → Value} {w w' : World} {x : Value} {r : Except Nat (α × List UInt8)} {e : Ending} (h : Ret zero val w x r e) (hs : Stay (fun _ => False) w w') : Ret zero val w' x r e := by
  cases r with
  | error c => exact h
  | ok p =>
    obtain ⟨n, r⟩ := p
    obtain ⟨v, he, hv⟩ := h
    exact ⟨v, he, hv.stay0 hs⟩
def u64V (n : Nat) : Value := .int .u64 (n : Int)
def NumRet (w : World) (x : Value) : Except Nat (Nat × List UInt8) → Ending → Prop := Ret (.int .u64 0) u64V w x

theorem num_empty (x : Value) (most : Nat) (w : World) (a0 : Option Addr) (c : Nat) (hx : x = .slice a0 0 c) : Calls Tryz.prog 121 #[x, .int .u64 most] w fun e w' => NumRet w x (.error 12) e ∧ w = w' := by
  subst hx
  go_enter Tryz.func121, Tryz.ntmps121
  go_wp2
  go_ret3
  exact ⟨rfl, rfl⟩

theorem num_ends (c : UInt8) (r : List UInt8) (most : Nat) (w : World) (x : Value) (hx : Slc w x (c :: r)) (hk : r.length < leadN c.toNat) : Calls Tryz.prog 121 #[x, .int .u64 most] w fun e w' => NumRet w x (.error 12) e ∧ w = w' := by
  obtain ⟨a0, cap, rfl, hr, hn, hcap, hm⟩ := hx
  obtain ⟨ad, rfl, hcell⟩ := hr (by simp)
  have hc : w.cell? ad = some (.int .u8 (c.toNat : Int)) := hcell 0 _ rfl
  have hl : (c :: r).length = r.length + 1 := rfl
  rw [hl] at *
  have h0 : (((r.length + 1 : Nat) : Int) == 0) = false := beq_eq_false_iff_ne.2 (by omega)
  have hl8 := leadN_le c.toNat
  clear hr hcell hn hl
  go_enter Tryz.func121, Tryz.ntmps121
  go_wp2_with fail
  refine (lead8_any c _).mono ?_
  rintro e w' ⟨rfl, rfl⟩
  go_wp2
  go_ret3
  exact ⟨rfl, rfl⟩

theorem ones_quiet (k : Nat) (w : World) (hk : k ≤ 8) : Calls Tryz.prog 117 #[.int .i64 k] w fun e w' => e = .returned (.int .u8 (onesN k)) ∧ w' = w := (ones_any k w hk).mono fun _ _ ⟨h1, h2⟩ => ⟨h1, h2.symm⟩

theorem andnot_table : ∀ c : Fin 256, bits BinOp.andNot IntKind.u8 ((c.val : Nat) : Int) ((onesN (leadN c.val) : Nat) : Int) = ((c.val - onesN (leadN c.val) : Nat) : Int) := by decide +kernel
theorem andnot_byte (c : UInt8) : bits BinOp.andNot IntKind.u8 (c.toNat : Int) ((onesN (leadN c.toNat) : Nat) : Int) = ((c.toNat - onesN (leadN c.toNat) : Nat) : Int) := andnot_table ⟨c.toNat, c.toNat_lt⟩

theorem lead_table : ∀ c : Fin 256, c.val - onesN (leadN c.val) < 2 ^ (7 - leadN c.val) ∧ (leadN c.val = 8 → c.val - onesN (leadN c.val) = 0) ∧ c.val - onesN (leadN c.val) < 256 := by decide +kernel
theorem lead_first (c : UInt8) : c.toNat - onesN (leadN c.toNat) < 2 ^ (7 - leadN c.toNat) ∧ (leadN c.toNat = 8 → c.toNat - onesN (leadN c.toNat) = 0) ∧ c.toNat - onesN (leadN c.toNat) < 256 := lead_table ⟨c.toNat, c.toNat_lt⟩

theorem fold_small {a k : Nat} (h8 : k ≤ 8) (h1 : a < 2 ^ (7 - k)) (h2 : k = 8 → a = 0) (l : List UInt8) (hl : l.length < k) : foldB a l < 72057594037927936 := by
  have h := foldB_lt l a (a + 1) (by omega)
  have hl7 : l.length ≤ 7 := by omega
  have e : l.length = 0 ∨ l.length = 1 ∨ l.length = 2 ∨ l.length = 3 ∨ l.length = 4 ∨ l.length = 5 ∨ l.length = 6 ∨ l.length = 7 := by omega
  rcases eight h8 with rfl | rfl | rfl | rfl | rfl | rfl | rfl | rfl | rfl <;> simp only [Nat.reducePow, Nat.reduceSub] at h1 <;> rcases e with e | e | e | e | e | e | e | e <;> rw [e] at h <;> simp only [Nat.reducePow] at h <;> omega
theorem fold_top {a k : Nat} (h8 : k ≤ 8) (h1 : a < 2 ^ (7 - k)) (h2 : k = 8 → a = 0) (l : List UInt8) (hl : l.length ≤ k) : foldB a l < 18446744073709551616 := by
  have h := foldB_lt l a (a + 1) (by omega)
  have e : l.length = 0 ∨ l.length = 1 ∨ l.length = 2 ∨ l.length = 3 ∨ l.length = 4 ∨ l.length = 5 ∨ l.length = 6 ∨ l.length = 7 ∨ l.length = 8 := by omega
  rcases eight h8 with rfl | rfl | rfl | rfl | rfl | rfl | rfl | rfl | rfl <;> simp only [Nat.reducePow, Nat.reduceSub] at h1 <;> rcases e with e | e | e | e | e | e | e | e | e <;> rw [e] at h <;> simp only [Nat.reducePow] at h <;> omega

theorem or_next (n : Nat) (b : UInt8) (h : n < 72057594037927936) : bits BinOp.or IntKind.u64 ((n : Int) * 256) (IntKind.u64.wrap (b.toNat : Int)) = ((n * 256 + b.toNat : Nat) : Int) := by
  have hb := b.toNat_lt
  have hb8 : b.toNat < 2 ^ 8 := by omega
  have e := Nat.shiftLeft_add_eq_or_of_lt hb8 n
  have e2 : n <<< 8 = n * 256 := by rw [Nat.shiftLeft_eq]
  rw [e2] at e
  rw [IntWalk.u64_in _ (by omega), show ((n : Int) * 256) = ((n * 256 : Nat) : Int) by omega, bits_or_u64_nat _ _ (by omega) (by omega), e]

theorem numB_form {c : UInt8} {r : List UInt8} {most N : Nat} (hk : leadN c.toNat ≤ r.length) (h0 : 0 < leadN c.toNat) (hN : N = foldB (c.toNat - onesN (leadN c.toNat)) (r.take (leadN c.toNat))) (h : N < 2 ^ (7 * leadN c.toNat)) : numB most (c :: r) = .error 3 := by
  subst hN
  unfold numB
  simp only []
  rw [if_neg (by omega), if_pos ⟨h0, h⟩]
theorem numB_range {c : UInt8} {r : List UInt8} {most N : Nat} (hk : leadN c.toNat ≤ r.length) (hN : N = foldB (c.toNat - onesN (leadN c.toNat)) (r.take (leadN c.toNat))) (h : 0 < leadN c.toNat → 2 ^ (7 * leadN c.toNat) ≤ N) (hm : most < N) : numB most (c :: r) = .error 4 := by
  subst hN
  unfold numB
  simp only []
  rw [if_neg (by omega), if_neg (fun h' => by have := h h'.1; omega), if_pos hm]
theorem numB_ok {c : UInt8} {r : List UInt8} {most N : Nat} (hk : leadN c.toNat ≤ r.length) (hN : N = foldB (c.toNat - onesN (leadN c.toNat)) (r.take (leadN c.toNat))) (h : 0 < leadN c.toNat → 2 ^ (7 * leadN c.toNat) ≤ N) (hm : N ≤ most) : numB most (c :: r) = .ok (N, r.drop (leadN c.toNat)) := by
  subst hN
  unfold numB
  simp only []
  rw [if_neg (by omega), if_neg (fun h' => by have := h h'.1; omega), if_neg (by omega)]

theorem quo_zero {N k : Nat} (h : N < 2 ^ k) : ((N : Int) / 2 ^ k == 0) = true := by
  have h2 : N / 2 ^ k = 0 := Nat.div_eq_of_lt h
  rw [beq_iff_eq]
  have e : ((N : Int) / 2 ^ k) = ((N / 2 ^ k : Nat) : Int) := by simp
  rw [e, h2]
  rfl
theorem quo_some {N k : Nat} (h : 2 ^ k ≤ N) : ((N : Int) / 2 ^ k == 0) = false := by
  have h2 : 0 < N / 2 ^ k := Nat.div_pos h (Nat.pow_pos (by decide))
  rw [beq_eq_false_iff_ne]
  have e : ((N : Int) / 2 ^ k) = ((N / 2 ^ k : Nat) : Int) := by simp
  rw [e]
  omega

set_option maxHeartbeats 1000000 in
theorem num_main (c : UInt8) (r : List UInt8) (most : Nat) (w : World) (x : Value) (hx : Slc w x (c :: r)) (hk : leadN c.toNat ≤ r.length) : Calls Tryz.prog 121 #[x, .int .u64 most] w fun e w' => NumRet w x (numB most (c :: r)) e ∧ Stay (fun _ => False) w w' := by
  obtain ⟨a0, cap, rfl, hr, hn, hcap, hm⟩ := id hx
  obtain ⟨ad, rfl, hcell⟩ := hr (by simp)
  have hsub := hx.cut (k := 1 + leadN c.toNat) (by rw [List.length_cons]; omega)
  rw [Nat.add_comm 1, List.drop_succ_cons, Nat.add_comm _ 1, List.length_cons, Option.map_some] at hsub
  have HSub := Lib.hid hsub
  have hc : w.cell? ad = some (.int .u8 (c.toNat : Int)) := hcell 0 _ rfl
  clear hsub hx
  simp only [List.length_cons] at hcap hcell hn hr
  rw [List.length_cons]
  have h0 : (((r.length + 1 : Nat) : Int) == 0) = false := beq_eq_false_iff_ne.2 (by omega)
  have hl8 := leadN_le c.toNat
  have hrl : (r.length : Int) ≤ 9223372036854775806 := by omega
  have HC := Lib.hid hcell
  have HA := Lib.hid (andnot_byte c)
  clear hr hcell hn
  go_enter Tryz.func121, Tryz.ntmps121
  go_wp2_with fail
  refine (lead8_any c _).mono ?_
  rintro e w' ⟨rfl, rfl⟩
  go_wp2
  go_quiet ((go_at_call 117; exact Calls.quiet_of_same (ones_quiet _ _ hl8)))
  obtain ⟨h1, h2, h3⟩ := lead_first c
  rw [HA.out, IntWalk.u64_in _ (by omega)]
  have HF := Lib.hid (fun l hl => fold_small hl8 h1 h2 l hl)
  have HT := Lib.hid (fun l hl => fold_top hl8 h1 h2 l hl)
  clear h1 h2
  by_cases hk0 : 0 < leadN c.toNat
  · have hcap1 : ¬ cap = 1 := by omega
    go_wp2
    go_loop [8, 38] (fun n i => ∃ j : Nat, j ≤ leadN c.toNat ∧ i = .int .i64 j ∧ n = .int .u64 ((foldB (c.toNat - onesN (leadN c.toNat)) (r.take j) : Nat) : Int)) (fun _ i => leadN c.toNat - (intOf i).toNat)
    case atStart => exact ⟨0, Nat.zero_le _, rfl, rfl⟩
    case round =>
      obtain ⟨j, hj, rfl, rfl⟩ := hrel
      by_cases hlt : j < leadN c.toNat
      · obtain ⟨b, hb⟩ : ∃ b, r[j]? = some b := ⟨_, List.getElem?_eq_getElem (by omega)⟩
        have hcj : w.cell? ⟨ad.block, ad.off + 1 + j, none⟩ = some (.int .u8 (b.toNat : Int)) := by
          have hcj := HC.out (1 + j) (byteV b) (by rw [Nat.add_comm 1 j]; simp [cellsB, hb])
          unfold Addr.add at hcj
          rw [if_neg (by omega)] at hcj
          rw [Nat.add_assoc]
          exact hcj
        have HS := Lib.hid (show foldB (c.toNat - onesN (leadN c.toNat)) (r.take (j + 1)) = foldB (c.toNat - onesN (leadN c.toNat)) (r.take j) * 256 + b.toNat by rw [List.take_add_one, hb]; exact foldB_snoc _ _ _)
        have hsm := HF.out (r.take j) (by rw [List.length_take]; omega)
        clear hb
        go_wp2
        go_round
        case rel => exact ⟨j + 1, by omega, by go_num, by rw [or_next _ _ hsm, ← HS.out]⟩
        case measure => simp [intOf]; omega
      · obtain rfl : leadN c.toNat = j := by omega
        obtain ⟨N, hN⟩ : ∃ N, N = foldB (c.toNat - onesN (leadN c.toNat)) (r.take (leadN c.toNat)) := ⟨_, rfl⟩
        have hNt : N < 18446744073709551616 := by rw [hN]; exact HT.out _ (by rw [List.length_take]; omega)
        have HN := Lib.hid hN
        rw [← hN]
        clear hN hlt
        by_cases hform : N < 2 ^ (7 * leadN c.toNat)
        · have hq := quo_zero hform
          have hnum := Lib.hid (numB_form (most := most) hk hk0 HN.out hform)
          go_wp2
          go_ret3
          exact ⟨by rw [hnum.out]; rfl, stay_drewN _ _⟩
        · have hq := quo_some (Nat.le_of_not_lt hform)
          by_cases hmost : most < N
          · have hnum := Lib.hid (numB_range hk HN.out (fun _ => Nat.le_of_not_lt hform) hmost)
            go_wp2
            go_ret3
            exact ⟨by rw [hnum.out]; rfl, stay_drewN _ _⟩
          · have hnum := Lib.hid (numB_ok hk HN.out (fun _ => Nat.le_of_not_lt hform) (Nat.le_of_not_lt hmost))
            rcases (by omega : (cap = 1 + leadN c.toNat) ∨ ¬ (cap = 1 + leadN c.toNat)) with hcap2 | hcap2
            subst hcap2
            all_goals
              go_wp2
              go_quiet (fail)
              go_wp2
              go_ret3
              refine ⟨?_, (stay_drewN _ _).trans (stay_drewN _ _)⟩
              rw [hnum.out]
              refine ⟨_, rfl, ?_⟩
              have hs := HSub.out
              first
                | (rw [if_neg hcap2] at hs; exact hs)
                | (rw [if_pos trivial] at hs; simpa using hs) | (rw [if_pos trivial] at hs; exact hs)
  · have hz : leadN c.toNat = 0 := by omega
    obtain ⟨N, hN⟩ : ∃ N, N = foldB (c.toNat - onesN (leadN c.toNat)) (r.take (leadN c.toNat)) := ⟨_, rfl⟩
    have hN' : c.toNat - onesN 0 = N := by rw [hN, hz]; rfl
    have HN := Lib.hid hN
    have HZ := Lib.hid hz
    have HSub' := HSub.out
    rw [hz] at HSub'
    have HS := Lib.hid HSub'
    rw [hz, hN']
    have hNt : N < 256 := by rw [← hN', ← hz]; exact h3
    clear hN hN' hz hk0 h3 hl8 HF HT HSub HSub' HA
    rcases (by omega : cap = 1 ∨ ¬ cap = 1) with hcap1 | hcap1
    subst hcap1
    all_goals
      go_wp2
      go_loop [8, 38] (fun n i => i = .int .i64 0 ∧ n = .int .u64 (N : Int)) (fun _ i => (intOf i).toNat)
      case atStart => exact ⟨rfl, rfl⟩
      case round =>
        obtain ⟨rfl, rfl⟩ := hrel
        by_cases hmost : most < N
        · have hnum := Lib.hid (numB_range hk HN.out (fun h => by have := HZ.out; omega) hmost)
          go_wp2
          go_ret3
          exact ⟨by rw [hnum.out]; rfl, stay_drewN _ _⟩
        · have hnum := Lib.hid (numB_ok hk HN.out (fun h => by have := HZ.out; omega) (Nat.le_of_not_lt hmost))
          go_wp2
          go_quiet (fail)
          go_wp2
          go_ret3
          refine ⟨?_, (stay_drewN _ _).trans (stay_drewN _ _)⟩
          rw [hnum.out]
          refine ⟨_, rfl, ?_⟩
          have hs := HS.out
          rw [HZ.out]
          first
            | (rw [if_neg hcap1] at hs; exact hs)
            | (rw [if_pos trivial, show r.length + 1 - (1 + 0) = 0 by omega] at hs; exact hs)

theorem number_any0 (b : List UInt8) (most : Nat) (w : World) (x : Value) (hx : Slc w x b) : Calls Tryz.prog 121 #[x, .int .u64 most] w fun e w' => NumRet w x (numB most b) e ∧ Stay (fun _ => False) w w' := by
  cases b with
  | nil =>
    obtain ⟨a0, c, e, _⟩ := hx
    refine (num_empty x most w a0 c e).mono fun e w' ⟨h1, h2⟩ => ?_
    subst h2
    exact ⟨h1, Stay.refl _ _⟩
  | cons c r =>
    by_cases hk : r.length < leadN c.toNat
    · refine (num_ends c r most w x hx hk).mono fun e w' ⟨h1, h2⟩ => ?_
      subst h2
      refine ⟨?_, Stay.refl _ _⟩
      have : numB most (c :: r) = .error 12 := by
        unfold numB
        simp only []
        rw [if_pos hk]
      rw [this]
      exact h1
    · exact num_main c r most w x hx (Nat.le_of_not_lt hk)

theorem number_any (b : List UInt8) (most : Nat) (w : World) (x : Value) (hx : Slc w x b) : Calls Tryz.prog 121 #[x, .int .u64 most] w fun e w' => NumRet w' x (numB most b) e ∧ Stay (fun _ => False) w w' :=
  (number_any0 b most w x hx).mono fun _ _ ⟨h1, h2⟩ => ⟨Ret.stay0 h1 h2, h2⟩

end Go.Proofs.YtljlfdhjolcnaaaGreat.Pk

/-
  pack: truth, signed; a reader in memory: Read, Err, Left, Done, Uint, Int.
-/
namespace Go.Proofs.YtljlfdhjolcnaaaGreat.Pk
open Go.RowKit
set_option maxRecDepth 100000

/-- The truth that bytes begin with. -/
def truB : List UInt8 → Except Nat (Bool × List UInt8)
  | [] => .error 12
  | c :: r => if 1 < c.toNat then .error 3 else .ok (c.toNat == 1, r)
def boolV (b : Bool) : Value := .bool b
def TruRet (w : World) (x : Value) : Except Nat (Bool × List UInt8) → Ending → Prop := Ret (.bool false) boolV w x

set_option maxHeartbeats 1000000 in
theorem truth_any0 (b : List UInt8) (w : World) (x : Value) (hx : Slc w x b) : Calls Tryz.prog 120 #[x] w fun e w' => TruRet w x (truB b) e ∧ Stay (fun _ => False) w w' := by
  cases b with
  | nil =>
    obtain ⟨a0, c, rfl, _⟩ := hx
    go_enter Tryz.func120, Tryz.ntmps120
    go_wp2
    go_ret3
    exact ⟨rfl, Stay.refl _ _⟩
  | cons c r =>
    obtain ⟨a0, cap, rfl, hr, hn, hcap, hm⟩ := id hx
    obtain ⟨ad, rfl, hcell⟩ := hr (by simp)
    have hsub := hx.cut (k := 1) (by simp)
    rw [List.drop_succ_cons, List.drop_zero, List.length_cons, Option.map_some] at hsub
    have HSub := Lib.hid hsub
    have hc : w.cell? ad = some (.int .u8 (c.toNat : Int)) := hcell 0 _ rfl
    clear hsub hx hr hcell hn
    have hb := c.toNat_lt
    rw [List.length_cons] at *
    have h0 : (((r.length + 1 : Nat) : Int) == 0) = false := beq_eq_false_iff_ne.2 (by omega)
    have hrl : (r.length : Int) ≤ 9223372036854775806 := by omega
    by_cases h1 : 1 < c.toNat
    · have ht : truB (c :: r) = .error 3 := by simp [truB, h1]
      rw [ht]
      clear ht
      go_enter Tryz.func120, Tryz.ntmps120
      go_wp2
      go_ret3
      exact ⟨rfl, Stay.refl _ _⟩
    · have ht : truB (c :: r) = .ok (c.toNat == 1, r) := by simp [truB, h1]
      rw [ht]
      clear ht
      have hq : (((c.toNat : Nat) : Int) == 1) = (c.toNat == 1) := by
        by_cases h : c.toNat = 1
        · rw [h]; rfl
        · rw [beq_eq_false_iff_ne.2 h, beq_eq_false_iff_ne.2 (by omega)]
      have HQ := Lib.hid hq
      clear hq
      rcases (by omega : cap = 1 ∨ ¬ cap = 1) with hcap1 | hcap1
      subst hcap1
      all_goals
        go_enter Tryz.func120, Tryz.ntmps120
        go_wp2
        go_quiet (fail)
        go_wp2
        go_ret3
        refine ⟨ret_ok (val := boolV) (n := c.toNat == 1) ?_ ?_, stay_drewN _ _⟩
        · unfold boolV
          rw [← HQ.out]
          rfl
        · have hs := HSub.out
          first
            | (rw [if_neg hcap1] at hs; exact hs)
            | (rw [if_pos trivial, show r.length + 1 - 1 = 0 by omega] at hs; exact hs)

theorem truth_any (b : List UInt8) (w : World) (x : Value) (hx : Slc w x b) : Calls Tryz.prog 120 #[x] w fun e w' => TruRet w' x (truB b) e ∧ Stay (fun _ => False) w w' :=
  (truth_any0 b w x hx).mono fun _ _ ⟨h1, h2⟩ => ⟨Ret.stay0 h1 h2, h2⟩

theorem numB_le {most n : Nat} {b r : List UInt8} (h : numB most b = .ok (n, r)) : n ≤ most := by
  cases b with
  | nil => cases h
  | cons c l =>
    unfold numB at h
    simp only [] at h
    split at h
    · cases h
    · split at h
      · cases h
      · split at h
        · cases h
        · cases h
          omega
theorem numB_err {most c : Nat} {b : List UInt8} (h : numB most b = .error c) : c = 12 ∨ c = 3 ∨ c = 4 := by
  cases b with
  | nil => cases h; exact .inl rfl
  | cons c l =>
    unfold numB at h
    simp only [] at h
    split at h
    · cases h; exact .inl rfl
    · split at h
      · cases h; exact .inr (.inl rfl)
      · split at h
        · cases h; exact .inr (.inr rfl)
        · cases h
theorem truB_err {c : Nat} {b : List UInt8} (h : truB b = .error c) : c = 12 ∨ c = 3 := by
  cases b with
  | nil => cases h; exact .inl rfl
  | cons d l =>
    by_cases h1 : 1 < d.toNat
    · simp [truB, h1] at h
      exact .inr h.symm
    · simp [truB, h1] at h

def i64V (n : Int) : Value := .int .i64 n
theorem number_at (b : List UInt8) (most : Nat) (m : Int) (w : World) (x : Value) (hx : Slc w x b) (hm : m = (most : Int)) : Calls Tryz.prog 121 #[x, .int .u64 m] w fun e w' => NumRet w' x (numB most b) e ∧ Stay (fun _ => False) w w' := by
  subst hm
  exact number_any b most w x hx

end Go.Proofs.YtljlfdhjolcnaaaGreat.Pk

/-
  pack: a reader in memory: Read, Err, Left, Done, takeOff, Uint, Int.
-/
namespace Go.Proofs.YtljlfdhjolcnaaaGreat.Pk
open Go.RowKit
set_option maxRecDepth 100000

/-- What is left, and the first error (0: none). -/
structure RS where
  b : List UInt8
  err : Nat

def errV (c : Nat) : Value := if c = 0 then .nilIface else errI c
theorem errV_zero : errV 0 = .nilIface := rfl
theorem errV_pos {c : Nat} (h : c ≠ 0) : errV c = errI c := if_neg h

/-- A reader in block p; what it reads lies in the blocks of X. -/
structure RdAt (X : Nat → Prop) (w : World) (p : Nat) (s : RS) : Prop where
  own : X p
  ex : ∃ x, w.heap[p]? = some (.cells #[x, errV s.err] 148 (0, 0)) ∧ Slc w x s.b ∧ ∀ k, x.ownBlock = some k → X k ∧ k ≠ p

theorem Slc.stay {X : Nat → Prop} {w w' : World} {x : Value} {l : List UInt8} (h : Slc w x l) (hs : Stay X w w') (hx : ∀ k, x.ownBlock = some k → k < w.heap.size → ¬ X k) : Slc w' x l := by
  obtain ⟨a0, c, rfl, hr, hn⟩ := h
  refine ⟨a0, c, rfl, fun h0 => ?_, hn⟩
  obtain ⟨ad, rfl, hc⟩ := hr h0
  refine ⟨ad, rfl, fun j v hv => hs.cell (hc j v hv) ?_⟩
  have hb : (ad.add j).block = ad.block := by unfold Addr.add; split <;> rfl
  rw [hb]
  have hlt := World.block_lt_of_cell? w _ (hc j v hv)
  rw [hb] at hlt
  exact hx ad.block rfl hlt
theorem RdAt.stay {X Y : Nat → Prop} {w w' : World} {p : Nat} {s : RS} (h : RdAt X w p s) (hs : Stay Y w w') (hxy : ∀ k, X k → k < w.heap.size → ¬ Y k) : RdAt X w' p s := by
  obtain ⟨hp, x, hx, hsl, hk⟩ := h
  have hlt := lt_of_block hx
  exact ⟨hp, x, (hs.block p hlt (hxy p hp hlt)).trans hx, hsl.stay hs (fun k e hlt' => hxy k (hk k e).1 hlt'), hk⟩
theorem RdAt.stay0 {X : Nat → Prop} {w w' : World} {p : Nat} {s : RS} (h : RdAt X w p s) (hs : Stay (fun _ => False) w w') : RdAt X w' p s := h.stay hs (fun _ _ _ x => x)
theorem RdAt.mono {X Y : Nat → Prop} {w : World} {p : Nat} {s : RS} (h : RdAt X w p s) (hxy : ∀ k, X k → Y k) : RdAt Y w p s := by
  obtain ⟨hp, x, hx, hsl, hk⟩ := h
  exact ⟨hxy p hp, x, hx, hsl, fun k e => ⟨hxy k (hk k e).1, (hk k e).2⟩⟩

theorem read_cap (w : World) (x : Value) (b : List UInt8) (hx : Slc w x b) (hlen : b.length ≤ 140737488355328) :
    Calls Tryz.prog 53 #[x] w fun e w' => ∃ p, e = .returned (.pointer (some ⟨p, 0, none⟩)) ∧ RdAt (fun k => w.heap.size ≤ k ∧ k < w'.heap.size) w' p ⟨b, 0⟩ ∧ Stay (fun _ => False) w w' := by
  go_enter Tryz.func53, Tryz.ntmps53
  go_wp2_with fail
  refine (clone_slc w x b hx hlen).mono ?_
  rintro e w1 ⟨v, rfl, how, hs⟩
  obtain ⟨a1, c1, rfl⟩ := how.form
  go_wp2
  go_ret
  refine ⟨_, rfl, ⟨⟨hs.size, by simp⟩, _, heap_alloc_new w1 _, how.slc.alloc _, fun k hk => ⟨⟨(how.lt k hk).1, by have := (how.lt k hk).2; simp; omega⟩, Nat.ne_of_lt (how.lt k hk).2⟩⟩, hs.trans (Stay.alloc _ _)⟩

theorem err_any (X : Nat → Prop) (w : World) (p : Nat) (s : RS) (h : RdAt X w p s) : Calls Tryz.prog 92 #[.pointer (some ⟨p, 0, none⟩)] w fun e w' => e = .returned (errV s.err) ∧ w = w' := by
  obtain ⟨hp, x, hx, _⟩ := h
  have hc : w.cell? ⟨p, 1, none⟩ = some (errV s.err) := by rw [cell_of_row w p 1 _ _ _ hx]; rfl
  clear hx
  generalize errV s.err = v at *
  go_enter Tryz.func92, Tryz.ntmps92
  go_wp2
  go_ret
  exact ⟨rfl, rfl⟩
theorem left_any (X : Nat → Prop) (w : World) (p : Nat) (s : RS) (h : RdAt X w p s) : Calls Tryz.prog 93 #[.pointer (some ⟨p, 0, none⟩)] w fun e w' => e = .returned (.int .i64 (s.b.length : Int)) ∧ w = w' := by
  obtain ⟨hp, x, hx, hsl, _⟩ := h
  obtain ⟨a0, c, rfl, _⟩ := hsl
  have hc : w.cell? ⟨p, 0, none⟩ = some (.slice a0 s.b.length c) := by rw [cell_of_row w p 0 _ _ _ hx]; rfl
  clear hx
  go_enter Tryz.func93, Tryz.ntmps93
  go_wp2
  go_ret
  exact ⟨rfl, rfl⟩

def doneB (s : RS) : Nat := if s.err ≠ 0 then s.err else if 0 < s.b.length then 3 else 0
theorem rdone_any (X : Nat → Prop) (w : World) (p : Nat) (s : RS) (h : RdAt X w p s) : Calls Tryz.prog 57 #[.pointer (some ⟨p, 0, none⟩)] w fun e w' => e = .returned (errV (doneB s)) ∧ w = w' := by
  by_cases he : s.err = 0
  · by_cases hb : 0 < s.b.length
    · have hd : doneB s = 3 := by simp [doneB, he, hb]
      rw [hd]
      clear hd
      have HE := Lib.hid he
      clear he
      go_enter Tryz.func57, Tryz.ntmps57
      go_wp2_with fail
      refine (err_any X w p s h).mono ?_
      rintro e w' ⟨rfl, rfl⟩
      rw [HE.out, errV_zero]
      go_wp2_with fail
      refine (left_any X w p s h).mono ?_
      rintro e w' ⟨rfl, rfl⟩
      go_wp2
      go_ret
      exact ⟨rfl, rfl⟩
    · have hd : doneB s = 0 := by
        unfold doneB
        rw [if_neg (fun h => h he), if_neg hb]
      rw [hd]
      clear hd
      have HE := Lib.hid he
      clear he
      go_enter Tryz.func57, Tryz.ntmps57
      go_wp2_with fail
      refine (err_any X w p s h).mono ?_
      rintro e w' ⟨rfl, rfl⟩
      rw [HE.out, errV_zero]
      go_wp2_with fail
      refine (left_any X w p s h).mono ?_
      rintro e w' ⟨rfl, rfl⟩
      go_wp2
      go_ret
      exact ⟨rfl, rfl⟩
  · have hd : doneB s = s.err := by simp [doneB, he]
    rw [hd, errV_pos he]
    have HE := Lib.hid he
    clear hd he
    go_enter Tryz.func57, Tryz.ntmps57
    go_wp2_with fail
    refine (err_any X w p s h).mono ?_
    rintro e w' ⟨rfl, rfl⟩
    rw [errV_pos HE.out]
    unfold errI
    go_wp2
    go_ret
    exact ⟨rfl, rfl⟩
/-- One thing taken off by its rule. -/
def takeB {α : Type} (rule : List UInt8 → Except Nat (α × List UInt8)) (zero : α) (s : RS) : α × RS :=
  if s.err ≠ 0 then (zero, s) else match rule s.b with
    | .error c => (zero, ⟨s.b, c⟩)
    | .ok (v, r) => (v, ⟨r, 0⟩)
theorem takeB_bad {α : Type} {rule : List UInt8 → Except Nat (α × List UInt8)} {zero : α} {s : RS} (h : s.err ≠ 0) : takeB rule zero s = (zero, s) := if_pos h
theorem takeB_error {α : Type} {rule : List UInt8 → Except Nat (α × List UInt8)} {zero : α} {s : RS} {c : Nat} (h : s.err = 0) (hr : rule s.b = .error c) : takeB rule zero s = (zero, ⟨s.b, c⟩) := by
  unfold takeB
  rw [if_neg (fun hn => hn h), hr]
theorem takeB_ok {α : Type} {rule : List UInt8 → Except Nat (α × List UInt8)} {zero v : α} {s : RS} {r : List UInt8} (h : s.err = 0) (hr : rule s.b = .ok (v, r)) : takeB rule zero s = (v, ⟨r, 0⟩) := by
  unfold takeB
  rw [if_neg (fun hn => hn h), hr]

theorem two_set0 {w : World} {b : Nat} {v0 v1 u : Value} {t : TypeId} (h : w.heap[b]? = some (.cells #[v0, v1] t (0, 0))) : (w.setCell ⟨b, 0, none⟩ u).heap[b]? = some (.cells #[u, v1] t (0, 0)) := by
  simp [World.setCell, Array.getElem?_modify, h]
theorem two_set1 {w : World} {b : Nat} {v0 v1 u : Value} {t : TypeId} (h : w.heap[b]? = some (.cells #[v0, v1] t (0, 0))) : (w.setCell ⟨b, 1, none⟩ u).heap[b]? = some (.cells #[v0, u] t (0, 0)) := by
  simp [World.setCell, Array.getElem?_modify, h]

theorem RdAt.fail {X : Nat → Prop} {w w1 : World} {p : Nat} {s : RS} {c : Nat} (h : RdAt X w p s) (hs : Stay (fun _ => False) w w1) (hc : c ≠ 0) : RdAt X (w1.setCell ⟨p, 1, none⟩ (errI c)) p ⟨s.b, c⟩ := by
  obtain ⟨hp, x, hx, hsl, hk⟩ := h.stay0 hs
  refine ⟨hp, x, ?_, (hsl.stay (Stay.setCell (X := fun k => k = p) w1 ⟨p, 1, none⟩ (errI c) rfl) (fun k e _ => (hk k e).2)), hk⟩
  rw [two_set1 hx]
  rw [errV_pos hc]
theorem RdAt.go {X : Nat → Prop} {w1 : World} {p : Nat} {s : RS} {x v : Value} {r : List UInt8} (hp : X p) (hx : w1.heap[p]? = some (.cells #[x, errV s.err] 148 (0, 0))) (hk : ∀ k, x.ownBlock = some k → X k ∧ k ≠ p)
    (he : s.err = 0) (hv : Sub w1 x v r) : RdAt X (w1.setCell ⟨p, 0, none⟩ v) p ⟨r, 0⟩ := by
  have hk' : ∀ k, v.ownBlock = some k → X k ∧ k ≠ p := fun k e => hk k (hv.2 k e)
  refine ⟨hp, v, ?_, (hv.1.stay (Stay.setCell (X := fun k => k = p) w1 ⟨p, 0, none⟩ v rfl) (fun k e _ => (hk' k e).2)), hk'⟩
  rw [two_set0 hx, he]

theorem uint1_any (b : List UInt8) (most q : Nat) (w : World) (x : Value) (hx : Slc w x b) (hq : w.cell? ⟨q, 0, none⟩ = some (.int .u64 (most : Int))) :
    Calls Tryz.prog 161 #[x, .pointer (some ⟨q, 0, none⟩)] w fun e w' => NumRet w' x (numB most b) e ∧ Stay (fun _ => False) w w' := by
  obtain ⟨post, hpost⟩ : ∃ post : Ending → World → Prop, post = fun e w' => NumRet w' x (numB most b) e ∧ Stay (fun _ => False) w w' := ⟨_, rfl⟩
  rw [← hpost]
  have HP := Lib.hid hpost
  clear hpost
  go_enter Tryz.func161, Tryz.ntmps161
  go_wp2_with fail
  refine (number_any b most w x hx).mono ?_
  rintro e w1 ⟨hret, hs1⟩
  cases hr : numB most b with
  | error c =>
    rw [hr] at hret
    obtain rfl := hret
    have HR := Lib.hid hr
    clear hr
    go_wp2
    go_ret3
    rw [HP.out]
    refine ⟨?_, hs1⟩
    rw [HR.out]
    rfl
  | ok p =>
    obtain ⟨n, r⟩ := p
    rw [hr] at hret
    obtain ⟨v, rfl, hsub⟩ := hret
    have HR := Lib.hid hr
    have HSub := Lib.hid hsub
    clear hr hsub
    go_wp2
    go_ret3
    rw [HP.out]
    refine ⟨?_, hs1⟩
    rw [HR.out]
    exact ret_ok (val := u64V) rfl HSub.out

set_option maxHeartbeats 1000000 in
theorem take_uint (X : Nat → Prop) (w : World) (p : Nat) (s : RS) (most q : Nat) (h : RdAt X w p s) (hq : w.cell? ⟨q, 0, none⟩ = some (.int .u64 (most : Int))) :
    Calls Tryz.prog 160 #[.pointer (some ⟨p, 0, none⟩), .func (.func 161) #[] #[.pointer (some ⟨q, 0, none⟩)]] w fun e w' => e = .returned (u64V (takeB (numB most) 0 s).1) ∧ RdAt X w' p (takeB (numB most) 0 s).2 ∧ Stay (fun k => k = p) w w' := by
  by_cases he : s.err = 0
  · obtain ⟨hp, x, hx, hsl, hk⟩ := id h
    have hc0 : w.cell? ⟨p, 0, none⟩ = some x := by rw [cell_of_row w p 0 _ _ _ hx]; rfl
    have HP := Lib.hid h
    have HX := Lib.hid hx
    have HK := Lib.hid hk
    have HE := Lib.hid he
    have hlt := lt_of_block hx
    obtain ⟨TK, htk⟩ : ∃ TK, TK = takeB (numB most) 0 s := ⟨_, rfl⟩
    rw [← htk]
    have HT := Lib.hid htk
    clear hx hk he htk h
    go_enter Tryz.func160, Tryz.ntmps160
    go_wp2_with fail
    refine (err_any X w p s HP.out).mono ?_
    rintro e w' ⟨rfl, rfl⟩
    rw [HE.out, errV_zero]
    go_wp2_with fail
    refine (uint1_any s.b most q w x hsl hq).mono ?_
    rintro e w1 ⟨hret, hs1⟩
    have hp1 := Lib.hid ((hs1.block p hlt (fun x => x)).trans HX.out)
    cases hr : (numB most) s.b with
    | error c =>
      rw [hr] at hret
      obtain rfl := hret
      have HR := Lib.hid (takeB_error (zero := 0) HE.out hr)
      have hcn : c ≠ 0 := by have := numB_err hr; omega
      have HC := Lib.hid hcn
      have hc1 : w1.cell? ⟨p, 1, none⟩ = some (errV s.err) := by rw [cell_of_row w1 p 1 _ _ _ hp1.out]; rfl
      have hf1 : w1.frozen? ⟨p, 1, none⟩ = false := frozen_of_row w1 p 1 _ _ hp1.out
      clear hr hcn
      unfold errI
      go_wp2
      go_ret
      rw [HT.out, HR.out]
      exact ⟨rfl, HP.out.fail hs1 HC.out, (hs1.mono (fun _ x => x.elim)).trans (Stay.setCell _ _ _ rfl)⟩
    | ok q =>
      obtain ⟨n, r⟩ := q
      rw [hr] at hret
      obtain ⟨v, rfl, hsub⟩ := hret
      obtain ⟨a2, c2, rfl, _⟩ := id hsub.1
      have HSub := Lib.hid hsub
      have HR := Lib.hid (takeB_ok (zero := 0) HE.out hr)
      have hc1 : w1.cell? ⟨p, 0, none⟩ = some x := by rw [cell_of_row w1 p 0 _ _ _ hp1.out]; rfl
      have hf1 : w1.frozen? ⟨p, 0, none⟩ = false := frozen_of_row w1 p 0 _ _ hp1.out
      clear hr hsub
      unfold u64V
      go_wp2
      go_ret
      rw [HT.out, HR.out]
      exact ⟨rfl, RdAt.go hp hp1.out HK.out HE.out HSub.out, (hs1.mono (fun _ x => x.elim)).trans (Stay.setCell _ _ _ rfl)⟩
  · rw [takeB_bad he]
    have HE := Lib.hid he
    clear he
    go_enter Tryz.func160, Tryz.ntmps160
    go_wp2_with fail
    refine (err_any X w p s h).mono ?_
    rintro e w' ⟨rfl, rfl⟩
    rw [errV_pos HE.out]
    unfold errI
    go_wp2
    go_ret
    exact ⟨rfl, h, Stay.refl _ _⟩

theorem ruint_any (X : Nat → Prop) (w : World) (p : Nat) (s : RS) (most : Nat) (h : RdAt X w p s) : Calls Tryz.prog 138 #[.pointer (some ⟨p, 0, none⟩), .int .u64 most] w fun e w' => e = .returned (u64V (takeB (numB most) 0 s).1) ∧ RdAt X w' p (takeB (numB most) 0 s).2 ∧ Stay (fun k => k = p) w w' := by
  have h1 := h.stay0 (Stay.alloc w (.cells #[.int .u64 (most : Int)] 104))
  go_enter Tryz.func138, Tryz.ntmps138
  go_wp2_with fail
  refine (take_uint X _ p s most _ h1 (by simp)).mono ?_
  rintro e w1 ⟨rfl, hr, hs⟩
  go_wp2
  go_ret
  exact ⟨rfl, hr, (Stay.alloc _ _).trans hs⟩
end Go.Proofs.YtljlfdhjolcnaaaGreat.Pk

/-
  pack: bytes as a text; the laws' own 'sure'.
-/
namespace Go.Proofs.YtljlfdhjolcnaaaGreat.Pk
open Go.RowKit
set_option maxRecDepth 100000

theorem stay_seal {X : Nat → Prop} {w w' : World} (h : Stay X w w') (hx : ∀ k, X k → w.heap.size ≤ k) : Stay (fun _ => False) w w' :=
  ⟨h.os, h.tape, h.output, h.size, fun k hk _ => h.block k hk (fun hX => by have := hx k hX; omega)⟩

/-- Bytes as a text. -/
def strV (b : List UInt8) : Value := .string ⟨b.toArray⟩
theorem conv_slc {w : World} {x : Value} {b : List UInt8} (h : Slc w x b) : (convert 56 9 x).run Tryz.prog w = .ok (strV b) w := by
  obtain ⟨a0, c, rfl, hr, hn, _⟩ := h
  cases a0 with
  | none =>
    have hb : b = [] := by
      rcases Nat.eq_zero_or_pos b.length with h0 | h0
      · exact List.eq_nil_of_length_eq_zero h0
      · obtain ⟨ad, e, _⟩ := hr h0
        cases e
    subst hb
    exact run_convert_bytes_nil (P := Tryz.prog) w 56 5 Tryz.underlying56 Tryz.underlying5 _ _ _ Tryz.underlying9
  | some ad =>
    refine run_convert_bytes_back (P := Tryz.prog) w 56 9 5 ad c b Tryz.underlying56 Tryz.underlying5 Tryz.underlying9 (fun j hj => ?_)
    obtain ⟨ad', e, hc⟩ := hr (by omega)
    cases e
    exact hc j _ (by simp [cellsB, byteV, List.getElem?_eq_getElem hj])

end Go.Proofs.YtljlfdhjolcnaaaGreat.Pk

/-
  pack: what several laws want beside the contracts.
-/
namespace Go.Proofs.YtljlfdhjolcnaaaGreat.Pk
open Go.RowKit
set_option maxRecDepth 100000

def M64 : Nat := 18446744073709551615

theorem Slc.first {w : World} {a0 : Option Addr} {b : List UInt8} {c k : Nat} (h : Slc w (.slice a0 b.length c) b) (hk : k ≤ b.length) : Slc w (.slice a0 k c) (b.take k) := by
  obtain ⟨a1, c1, e, hr, hn, hc, hm⟩ := h
  cases e
  have hl : (b.take k).length = k := by rw [List.length_take]; omega
  refine ⟨a0, c, by rw [hl], fun h0 => ?_, hn, by omega, hm⟩
  obtain ⟨ad, e, hcell⟩ := hr (by omega)
  refine ⟨ad, e, fun j v hv => hcell j v ?_⟩
  simp only [cellsB, List.map_take, List.getElem?_take] at hv
  split at hv
  · exact hv
  · cases hv

theorem ruint_at (X : Nat → Prop) (w : World) (p : Nat) (s : RS) (most : Nat) (m : Int) (hm : m = (most : Int)) (h : RdAt X w p s) : Calls Tryz.prog 138 #[.pointer (some ⟨p, 0, none⟩), .int .u64 m] w fun e w' => e = .returned (u64V (takeB (numB most) 0 s).1) ∧ RdAt X w' p (takeB (numB most) 0 s).2 ∧ Stay (fun k => k = p) w w' := by
  subst hm
  exact ruint_any X w p s most h

theorem Owns.at {base : Nat} {w : World} {v : Value} {l : List UInt8} (h : Owns base w v l) (h0 : 0 < l.length) : ∃ g cap, v = .slice (some ⟨g, 0, none⟩) l.length cap ∧ l.length ≤ cap ∧ cap ≤ 9223372036854775807 := by
  rcases h.2 with ⟨_, hn⟩ | ⟨g, cap, cur, e, _, _, h1, h2, _⟩
  · omega
  · exact ⟨g, cap, e, h1, by unfold maxLen at h2; omega⟩


end Go.Proofs.YtljlfdhjolcnaaaGreat.Pk

/-
  pack: a reader's text and bytes, its truths.
-/
namespace Go.Proofs.YtljlfdhjolcnaaaGreat.Pk
open Go.RowKit
set_option maxRecDepth 100000

/-- The bytes that bytes begin with, of at most so many. -/
def textB (most : Int) (b : List UInt8) : Except Nat (List UInt8 × List UInt8) :=
  if most < 0 then .error 1 else match numB M64 b with
    | .error c => .error c
    | .ok (n, r) => if most < (n : Int) then .error 2 else if r.length < n then .error 12 else .ok (r.take n, r.drop n)

theorem textB_neg {most : Int} {b : List UInt8} (h : most < 0) : textB most b = .error 1 := if_pos h
theorem textB_err {most : Int} {b : List UInt8} {c : Nat} (h : ¬ most < 0) (hn : numB M64 b = .error c) : textB most b = .error c := by
  unfold textB
  rw [if_neg h, hn]
theorem textB_long {most : Int} {b r : List UInt8} {n : Nat} (h : ¬ most < 0) (hn : numB M64 b = .ok (n, r)) (h1 : most < (n : Int)) : textB most b = .error 2 := by
  unfold textB
  rw [if_neg h, hn]
  simp only []
  rw [if_pos h1]
theorem textB_end {most : Int} {b r : List UInt8} {n : Nat} (h : ¬ most < 0) (hn : numB M64 b = .ok (n, r)) (h1 : ¬ most < (n : Int)) (h2 : r.length < n) : textB most b = .error 12 := by
  unfold textB
  rw [if_neg h, hn]
  simp only []
  rw [if_neg h1, if_pos h2]
theorem textB_ok {most : Int} {b r : List UInt8} {n : Nat} (h : ¬ most < 0) (hn : numB M64 b = .ok (n, r)) (h1 : ¬ most < (n : Int)) (h2 : ¬ r.length < n) : textB most b = .ok (r.take n, r.drop n) := by
  unfold textB
  rw [if_neg h, hn]
  simp only []
  rw [if_neg h1, if_neg h2]
theorem textB_codes {most : Int} {b : List UInt8} {c : Nat} (h : textB most b = .error c) : c = 1 ∨ c = 2 ∨ c = 3 ∨ c = 4 ∨ c = 12 := by
  by_cases h0 : most < 0
  · rw [textB_neg h0] at h
    cases h
    exact .inl rfl
  · cases hn : numB M64 b with
    | error d =>
      rw [textB_err h0 hn] at h
      cases h
      have := numB_err hn
      omega
    | ok p =>
      obtain ⟨n, r⟩ := p
      by_cases h1 : most < (n : Int)
      · rw [textB_long h0 hn h1] at h
        cases h
        exact .inr (.inl rfl)
      · by_cases h2 : r.length < n
        · rw [textB_end h0 hn h1 h2] at h
          cases h
          omega
        · rw [textB_ok h0 hn h1 h2] at h
          cases h

/-- What 'text' hands back. -/
def TextRet (base : Nat) (w : World) (x : Value) : Except Nat (List UInt8 × List UInt8) → Ending → Prop
  | .error c, e => e = .returned (.tuple #[.slice none 0 0, .slice none 0 0, errI c])
  | .ok (t, r), e => ∃ v u, e = .returned (.tuple #[v, u, .nilIface]) ∧ Owns base w v t ∧ Sub w x u r

theorem numB_len {most n : Nat} {b r : List UInt8} (h : numB most b = .ok (n, r)) : r.length ≤ b.length := by
  cases b with
  | nil => cases h
  | cons c l =>
    unfold numB at h
    simp only [] at h
    split at h
    · cases h
    · split at h
      · cases h
      · split at h
        · cases h
        · cases h
          simp
          omega

set_option maxHeartbeats 2000000 in
theorem text_any (b : List UInt8) (most : Int) (w : World) (x : Value) (hx : Slc w x b) (hlen : b.length ≤ 140737488355328) (hmost : most ≤ 9223372036854775807) :
    Calls Tryz.prog 152 #[x, .int .i64 most] w fun e w' => TextRet w.heap.size w' x (textB most b) e ∧ Stay (fun _ => False) w w' := by
  by_cases h0 : most < 0
  · rw [textB_neg h0]
    go_enter Tryz.func152, Tryz.ntmps152
    go_wp2
    go_ret3
    exact ⟨rfl, Stay.refl _ _⟩
  · obtain ⟨T, hT⟩ : ∃ T, T = textB most b := ⟨_, rfl⟩
    rw [← hT]
    have HT := Lib.hid hT
    have H0 := Lib.hid h0
    have h0' : 0 ≤ most := by omega
    have hw := IntWalk.u64_in most (by omega)
    clear hT h0
    go_enter Tryz.func152, Tryz.ntmps152
    go_wp2_with fail
    refine (number_at b M64 _ w x hx rfl).mono ?_
    rintro e w1 ⟨hret, hs1⟩
    cases hnr : numB M64 b with
    | error c =>
      rw [hnr] at hret
      obtain rfl := hret
      have HTE := Lib.hid (HT.out.trans (textB_err (by have := H0.out; omega) hnr))
      clear hnr
      unfold errI
      go_wp2
      go_ret3
      exact ⟨by rw [HTE.out]; rfl, hs1⟩
    | ok p =>
      obtain ⟨n, r⟩ := p
      rw [hnr] at hret
      obtain ⟨v, rfl, hsub⟩ := hret
      obtain ⟨a2, c2, rfl, _, _, hc2, hcm⟩ := id hsub.1
      have hnl := numB_le hnr
      unfold M64 at hnl
      have hrl := numB_len hnr
      have HSub := Lib.hid hsub
      have HNR := Lib.hid hnr
      have hwl := IntWalk.u64_in (r.length : Int) (by omega)
      clear hnr hsub
      unfold u64V
      by_cases h1 : most < (n : Int)
      · have HTE := Lib.hid (HT.out.trans (textB_long (by have := H0.out; omega) HNR.out h1))
        go_wp2
        go_ret3
        exact ⟨by rw [HTE.out]; rfl, hs1⟩
      · by_cases h2 : r.length < n
        · have HTE := Lib.hid (HT.out.trans (textB_end (by have := H0.out; omega) HNR.out h1 h2))
          go_wp2
          go_ret3
          exact ⟨by rw [HTE.out]; rfl, hs1⟩
        · have HTE := Lib.hid (HT.out.trans (textB_ok (by have := H0.out; omega) HNR.out h1 h2))
          have hn2 : n ≤ r.length := Nat.le_of_not_lt h2
          have hfirst := Slc.first HSub.out.1 hn2
          have hcut := HSub.out.1.cut hn2
          have HFirst := Lib.hid hfirst
          have HCut := Lib.hid hcut
          have hncap : n ≤ c2 := by omega
          clear hfirst hcut
          have hcases : n = c2 ∨ ¬ c2 = n := by omega
          have htl : (r.take n).length = n := by rw [List.length_take]; omega
          have HTL := Lib.hid htl
          clear hc2 htl
          rcases hcases with hcn | hcn
          subst hcn
          all_goals
            go_wp2
            go_region_with (go_at_call 85; refine (clone_slc _ _ (r.take n) (HFirst.out.stay0 Stay.drew) (by rw [HTL.out]; omega)).mono ?_; rintro e w2 ⟨v2, rfl, how, hs2⟩)
            go_wp2
            go_ret3
            refine ⟨?_, hs1.trans (Stay.drew.trans hs2)⟩
            rw [HTE.out]
            refine ⟨v2, _, rfl, Owns.base how (fun k hk => Nat.le_trans hs1.size (how.lt k hk).1), ?_⟩
            refine Sub.trans (Sub.stay0 HSub.out (Stay.drew.trans hs2)) (Sub.stay0 (w := w1) ?_ (Stay.drew.trans hs2))
            have hs := HCut.out
            first
              | (rw [if_neg hcn] at hs; exact hs)
              | (rw [if_pos trivial, Nat.sub_self] at hs; exact hs)
              | (rw [if_pos rfl, Nat.sub_self] at hs; exact hs)

theorem bytes1_any (b : List UInt8) (most : Int) (q : Nat) (w : World) (x : Value) (hx : Slc w x b) (hlen : b.length ≤ 140737488355328) (hmost : most ≤ 9223372036854775807) (hq : w.cell? ⟨q, 0, none⟩ = some (.int .i64 most)) :
    Calls Tryz.prog 151 #[x, .pointer (some ⟨q, 0, none⟩)] w fun e w' => TextRet w.heap.size w' x (textB most b) e ∧ Stay (fun _ => False) w w' := by
  obtain ⟨post, hpost⟩ : ∃ post : Ending → World → Prop, post = fun e w' => TextRet w.heap.size w' x (textB most b) e ∧ Stay (fun _ => False) w w' := ⟨_, rfl⟩
  rw [← hpost]
  have HP := Lib.hid hpost
  clear hpost
  go_enter Tryz.func151, Tryz.ntmps151
  go_wp2_with fail
  refine (text_any b most w x hx hlen hmost).mono ?_
  rintro e w1 ⟨hret, hs1⟩
  cases hr : textB most b with
  | error c =>
    rw [hr] at hret
    obtain rfl := hret
    have HR := Lib.hid hr
    clear hr
    go_wp2
    go_ret3
    rw [HP.out]
    refine ⟨?_, hs1⟩
    rw [HR.out]
    rfl
  | ok p =>
    obtain ⟨t, r⟩ := p
    rw [hr] at hret
    obtain ⟨v, u, rfl, how, hsub⟩ := hret
    have HR := Lib.hid hr
    have HO := Lib.hid how
    have HSub := Lib.hid hsub
    clear hr how hsub
    go_wp2
    go_ret3
    rw [HP.out]
    refine ⟨?_, hs1⟩
    rw [HR.out]
    exact ⟨v, u, rfl, HO.out, HSub.out⟩

set_option maxHeartbeats 1000000 in
theorem take_text (X : Nat → Prop) (w : World) (p : Nat) (s : RS) (most : Int) (q : Nat) (h : RdAt X w p s) (hlen : s.b.length ≤ 140737488355328) (hmost : most ≤ 9223372036854775807) (hq : w.cell? ⟨q, 0, none⟩ = some (.int .i64 most)) :
    Calls Tryz.prog 150 #[.pointer (some ⟨p, 0, none⟩), .func (.func 151) #[] #[.pointer (some ⟨q, 0, none⟩)]] w fun e w' =>
      (∃ v, e = .returned v ∧ Owns w.heap.size w' v (takeB (textB most) [] s).1) ∧ RdAt X w' p (takeB (textB most) [] s).2 ∧ Stay (fun k => k = p) w w' := by
  by_cases he : s.err = 0
  · obtain ⟨hp, x, hx, hsl, hk⟩ := id h
    have hc0 : w.cell? ⟨p, 0, none⟩ = some x := by rw [cell_of_row w p 0 _ _ _ hx]; rfl
    have HP := Lib.hid h
    have HX := Lib.hid hx
    have HK := Lib.hid hk
    have HE := Lib.hid he
    have hlt := lt_of_block hx
    obtain ⟨TK, htk⟩ : ∃ TK, TK = takeB (textB most) [] s := ⟨_, rfl⟩
    rw [← htk]
    have HT := Lib.hid htk
    clear hx hk he htk h
    go_enter Tryz.func150, Tryz.ntmps150
    go_wp2_with fail
    refine (err_any X w p s HP.out).mono ?_
    rintro e w' ⟨rfl, rfl⟩
    rw [HE.out, errV_zero]
    go_wp2_with fail
    refine (bytes1_any s.b most q w x hsl hlen hmost hq).mono ?_
    rintro e w1 ⟨hret, hs1⟩
    have hp1 := Lib.hid ((hs1.block p hlt (fun x => x)).trans HX.out)
    cases hr : textB most s.b with
    | error c =>
      rw [hr] at hret
      obtain rfl := hret
      have HR := Lib.hid (takeB_error (zero := ([] : List UInt8)) HE.out hr)
      have hcn : c ≠ 0 := by have := textB_codes hr; omega
      have HC := Lib.hid hcn
      have hc1 : w1.cell? ⟨p, 1, none⟩ = some (errV s.err) := by rw [cell_of_row w1 p 1 _ _ _ hp1.out]; rfl
      have hf1 : w1.frozen? ⟨p, 1, none⟩ = false := frozen_of_row w1 p 1 _ _ hp1.out
      clear hr hcn
      unfold errI
      go_wp2
      go_ret
      rw [HT.out, HR.out]
      exact ⟨⟨_, rfl, Owns.nil _ _⟩, HP.out.fail hs1 HC.out, (hs1.mono (fun _ x => x.elim)).trans (Stay.setCell _ _ _ rfl)⟩
    | ok pr =>
      obtain ⟨n, r⟩ := pr
      rw [hr] at hret
      obtain ⟨v0, v, rfl, how, hsub⟩ := hret
      obtain ⟨a2, c2, rfl, _⟩ := id hsub.1
      have HSub := Lib.hid hsub
      have HO := Lib.hid how
      have HR := Lib.hid (takeB_ok (zero := ([] : List UInt8)) HE.out hr)
      have hc1 : w1.cell? ⟨p, 0, none⟩ = some x := by rw [cell_of_row w1 p 0 _ _ _ hp1.out]; rfl
      have hf1 : w1.frozen? ⟨p, 0, none⟩ = false := frozen_of_row w1 p 0 _ _ hp1.out
      clear hr hsub how
      go_wp2
      go_ret
      rw [HT.out, HR.out]
      refine ⟨⟨_, rfl, HO.out.stay (Stay.setCell (X := fun k => k = p) _ _ _ rfl) (fun k hk e => ?_)⟩, RdAt.go hp hp1.out HK.out HE.out HSub.out, (hs1.mono (fun _ x => x.elim)).trans (Stay.setCell _ _ _ rfl)⟩
      have h1 := (HO.out.lt k hk).1
      have e' : k = p := e
      omega
  · rw [takeB_bad he]
    have HE := Lib.hid he
    clear he
    go_enter Tryz.func150, Tryz.ntmps150
    go_wp2_with fail
    refine (err_any X w p s h).mono ?_
    rintro e w' ⟨rfl, rfl⟩
    rw [errV_pos HE.out]
    unfold errI
    go_wp2
    go_ret
    exact ⟨⟨_, rfl, Owns.nil _ _⟩, h, Stay.refl _ _⟩

set_option maxHeartbeats 1000000 in
theorem take_bool (X : Nat → Prop) (w : World) (p : Nat) (s : RS) (h : RdAt X w p s) :
    Calls Tryz.prog 125 #[.pointer (some ⟨p, 0, none⟩), .func (.func 120) #[] #[]] w fun e w' => e = .returned (boolV (takeB truB false s).1) ∧ RdAt X w' p (takeB truB false s).2 ∧ Stay (fun k => k = p) w w' := by
  by_cases he : s.err = 0
  · obtain ⟨hp, x, hx, hsl, hk⟩ := id h
    have hc0 : w.cell? ⟨p, 0, none⟩ = some x := by rw [cell_of_row w p 0 _ _ _ hx]; rfl
    have HP := Lib.hid h
    have HX := Lib.hid hx
    have HK := Lib.hid hk
    have HE := Lib.hid he
    have hlt := lt_of_block hx
    obtain ⟨TK, htk⟩ : ∃ TK, TK = takeB truB false s := ⟨_, rfl⟩
    rw [← htk]
    have HT := Lib.hid htk
    clear hx hk he htk h
    go_enter Tryz.func125, Tryz.ntmps125
    go_wp2_with fail
    refine (err_any X w p s HP.out).mono ?_
    rintro e w' ⟨rfl, rfl⟩
    rw [HE.out, errV_zero]
    go_wp2_with fail
    refine (truth_any s.b w x hsl).mono ?_
    rintro e w1 ⟨hret, hs1⟩
    have hp1 := Lib.hid ((hs1.block p hlt (fun x => x)).trans HX.out)
    cases hr : truB s.b with
    | error c =>
      rw [hr] at hret
      obtain rfl := hret
      have HR := Lib.hid (takeB_error (zero := false) HE.out hr)
      have hcn : c ≠ 0 := by have := truB_err hr; omega
      have HC := Lib.hid hcn
      have hc1 : w1.cell? ⟨p, 1, none⟩ = some (errV s.err) := by rw [cell_of_row w1 p 1 _ _ _ hp1.out]; rfl
      have hf1 : w1.frozen? ⟨p, 1, none⟩ = false := frozen_of_row w1 p 1 _ _ hp1.out
      clear hr hcn
      unfold errI
      go_wp2
      go_ret
      rw [HT.out, HR.out]
      exact ⟨rfl, HP.out.fail hs1 HC.out, (hs1.mono (fun _ x => x.elim)).trans (Stay.setCell _ _ _ rfl)⟩
    | ok q =>
      obtain ⟨n, r⟩ := q
      rw [hr] at hret
      obtain ⟨v, rfl, hsub⟩ := hret
      obtain ⟨a2, c2, rfl, _⟩ := id hsub.1
      have HSub := Lib.hid hsub
      have HR := Lib.hid (takeB_ok (zero := false) HE.out hr)
      have hc1 : w1.cell? ⟨p, 0, none⟩ = some x := by rw [cell_of_row w1 p 0 _ _ _ hp1.out]; rfl
      have hf1 : w1.frozen? ⟨p, 0, none⟩ = false := frozen_of_row w1 p 0 _ _ hp1.out
      clear hr hsub
      unfold boolV
      go_wp2
      go_ret
      rw [HT.out, HR.out]
      exact ⟨rfl, RdAt.go hp hp1.out HK.out HE.out HSub.out, (hs1.mono (fun _ x => x.elim)).trans (Stay.setCell _ _ _ rfl)⟩
  · rw [takeB_bad he]
    have HE := Lib.hid he
    clear he
    go_enter Tryz.func125, Tryz.ntmps125
    go_wp2_with fail
    refine (err_any X w p s h).mono ?_
    rintro e w' ⟨rfl, rfl⟩
    rw [errV_pos HE.out]
    unfold errI
    go_wp2
    go_ret
    exact ⟨rfl, h, Stay.refl _ _⟩

theorem rbytes_any (X : Nat → Prop) (w : World) (p : Nat) (s : RS) (most : Int) (h : RdAt X w p s) (hlen : s.b.length ≤ 140737488355328) (hmost : most ≤ 9223372036854775807) :
    Calls Tryz.prog 124 #[.pointer (some ⟨p, 0, none⟩), .int .i64 most] w fun e w' =>
      (∃ v, e = .returned v ∧ Owns w.heap.size w' v (takeB (textB most) [] s).1) ∧ RdAt X w' p (takeB (textB most) [] s).2 ∧ Stay (fun k => k = p) w w' := by
  have h1 := h.stay0 (Stay.alloc w (.cells #[.int .i64 most] 3))
  go_enter Tryz.func124, Tryz.ntmps124
  go_wp2_with fail
  refine (take_text X _ p s most _ h1 hlen hmost (by simp)).mono ?_
  rintro e w1 ⟨⟨v, rfl, how⟩, hr, hs⟩
  go_wp2
  go_ret
  exact ⟨⟨v, rfl, Owns.base how (fun k hk => by have := (how.lt k hk).1; simp at this; omega)⟩, hr, (Stay.alloc _ _).trans hs⟩

theorem rtext_any (X : Nat → Prop) (w : World) (p : Nat) (s : RS) (most : Int) (h : RdAt X w p s) (hlen : s.b.length ≤ 140737488355328) (hmost : most ≤ 9223372036854775807) :
    Calls Tryz.prog 89 #[.pointer (some ⟨p, 0, none⟩), .int .i64 most] w fun e w' =>
      e = .returned (strV (takeB (textB most) [] s).1) ∧ RdAt X w' p (takeB (textB most) [] s).2 ∧ Stay (fun k => k = p) w w' := by
  go_enter Tryz.func89, Tryz.ntmps89
  go_wp2_with fail
  refine (rbytes_any X w p s most h hlen hmost).mono ?_
  rintro e w1 ⟨⟨v, rfl, how⟩, hr, hs⟩
  have hcv := conv_slc how.slc
  go_wp2
  go_ret
  exact ⟨rfl, hr, hs⟩

theorem rbool_any (X : Nat → Prop) (w : World) (p : Nat) (s : RS) (h : RdAt X w p s) : Calls Tryz.prog 90 #[.pointer (some ⟨p, 0, none⟩)] w fun e w' => e = .returned (boolV (takeB truB false s).1) ∧ RdAt X w' p (takeB truB false s).2 ∧ Stay (fun k => k = p) w w' := by
  go_enter Tryz.func90, Tryz.ntmps90
  go_wp2_with fail
  refine (take_bool X _ p s h).mono ?_
  rintro e w1 ⟨rfl, hr, hs⟩
  go_wp2
  go_ret
  exact ⟨rfl, hr, hs⟩

end Go.Proofs.YtljlfdhjolcnaaaGreat.Pk

/-
  pack: a reader's prints: takeOff, Print.
-/
namespace Go.Proofs.YtljlfdhjolcnaaaGreat.Pk
open Go.RowKit
set_option maxRecDepth 100000

theorem Slc.blk_lt {w : World} {x : Value} {b : List UInt8} (h : Slc w x b) (h0 : 0 < b.length) : ∀ k, x.ownBlock = some k → k < w.heap.size := by
  intro k hk
  obtain ⟨a0, c, rfl, hr, _⟩ := h
  obtain ⟨ad, rfl, hc⟩ := hr h0
  have hk' : ad.block = k := by simpa [Value.ownBlock] using hk
  subst hk'
  obtain ⟨u, hu⟩ : ∃ u, (cellsB b)[0]? = some u := ⟨_, List.getElem?_eq_getElem (by rw [length_cellsB]; exact h0)⟩
  have := World.block_lt_of_cell? w _ (hc 0 u hu)
  have hb : (ad.add 0).block = ad.block := rfl
  rwa [hb] at this
end Go.Proofs.YtljlfdhjolcnaaaGreat.Pk

/-
  pack: what the writer's other calls lay: ints, texts, bytes, prints.
-/
namespace Go.Proofs.YtljlfdhjolcnaaaGreat.Pk
open Go.RowKit
set_option maxRecDepth 100000

theorem WrAt.lt {X : Nat → Prop} {w : World} {p : Nat} {l : List UInt8} (h : WrAt X w p l) : p < w.heap.size := by
  obtain ⟨_, v, hv, _⟩ := h
  exact lt_of_block hv

theorem uint_base (base : Nat) (w : World) (p : Nat) (l : List UInt8) (n : Nat) (h : WrAt (fun k => base ≤ k) w p l) (hn : (n : Int) ≤ 18446744073709551615) (hlen : l.length + 9 ≤ 140737488355328) :
    Calls Tryz.prog 46 #[.pointer (some ⟨p, 0, none⟩), .int .u64 n] w fun e w' => e = .returned (.pointer (some ⟨p, 0, none⟩)) ∧ WrAt (fun k => base ≤ k) w' p (l ++ spellB n) ∧ Stay (fun k => base ≤ k) w w' :=
  (uint_any _ w p l n h hn hlen).mono fun e w' ⟨h1, h2, h3⟩ => ⟨h1, h2.mono (fun k hk => by have h4 := h.lt; have h5 : base ≤ p := h.own; rcases hk with hk | hk <;> omega), h3⟩
theorem uint_at' (base : Nat) (w : World) (p : Nat) (l : List UInt8) (n : Nat) (m : Int) (hm : m = (n : Int)) (h : WrAt (fun k => base ≤ k) w p l) (hn : (n : Int) ≤ 18446744073709551615) (hlen : l.length + 9 ≤ 140737488355328) :
    Calls Tryz.prog 46 #[.pointer (some ⟨p, 0, none⟩), .int .u64 m] w fun e w' => e = .returned (.pointer (some ⟨p, 0, none⟩)) ∧ WrAt (fun k => base ≤ k) w' p (l ++ spellB n) ∧ Stay (fun k => base ≤ k) w w' := by
  subst hm
  exact uint_base base w p l n h hn hlen

/-- A block that begins with these bytes reads as them. -/
theorem slc_of_block {w : World} {g cap : Nat} {cs : Array Value} {t : TypeId} {fr : Nat × Nat} {b : List UInt8} (h : w.heap[g]? = some (.cells cs t fr)) (hc : ∀ (j : Nat) (v : Value), (cellsB b)[j]? = some v → cs[j]? = some v) (h1 : b.length ≤ cap) (h2 : cap ≤ 9223372036854775807) : Slc w (.slice (some ⟨g, 0, none⟩) b.length cap) b := by
  refine ⟨_, cap, rfl, fun _ => ⟨_, rfl, fun j v hv => ?_⟩, (fun e => by cases e), h1, h2⟩
  have e : (Addr.add ⟨g, 0, none⟩ j : Addr) = ⟨g, j, none⟩ := by simp [Addr.add]; exact fun e => e.symm
  rw [e, cell_of_row w g j _ _ _ h]
  exact hc j v hv

theorem WrAt.tight {X : Nat → Prop} {w : World} {p : Nat} {l : List UInt8} (h : WrAt X w p l) : WrAt (fun k => X k ∧ k < w.heap.size) w p l := by
  have h4 := h.lt
  obtain ⟨hp, v, hv, ho, hk⟩ := h
  exact ⟨⟨hp, h4⟩, v, hv, ho, fun k e => ⟨⟨(hk k e).1, (ho.lt k e).2⟩, (hk k e).2⟩⟩

/-- A text as bytes. -/
theorem conv_txt (w : World) (b : List UInt8) (hb : b.length ≤ 140737488355328) : ∃ cap w', (convert 9 56 (strV b)).run Tryz.prog w = .ok (.slice (some ⟨w.heap.size, 0, none⟩) b.length cap) w' ∧ Slc w' (.slice (some ⟨w.heap.size, 0, none⟩) b.length cap) b ∧ Stay (fun _ => False) w w' ∧ w.heap.size < w'.heap.size := by
  have hs : (⟨b.toArray⟩ : ByteArray).size = b.length := by simp [ByteArray.size]
  refine ⟨_, _, run_bytes_of_string (P := Tryz.prog) w 9 56 5 ⟨b.toArray⟩ Tryz.underlying9 Tryz.underlying56 Tryz.underlying5, ?_⟩
  have hc1 : b.length ≤ grownCap w (⟨b.toArray⟩ : ByteArray).size 0 5 := by
    have := grownCap_ge w (⟨b.toArray⟩ : ByteArray).size 0 5
    omega
  have hc2 : grownCap w (⟨b.toArray⟩ : ByteArray).size 0 5 ≤ 9223372036854775807 := by
    have := grownCap_le_maxLen w (⟨b.toArray⟩ : ByteArray).size 0 5 (by unfold maxLen; omega)
    unfold maxLen at this
    omega
  refine ⟨slc_of_block (heap_alloc_new w.drew _) (fun j v hv => ?_) hc1 hc2, Stay.drew.trans (Stay.alloc _ _), by simp⟩
  have hj : j < b.length := by
    have := (List.getElem?_eq_some_iff.1 hv).1
    rwa [length_cellsB] at this
  rw [bytesRow_at _ _ j (by simpa using hj), ← hv]
  simp [cellsB, byteV, hj]

/-- Bytes as they are laid. -/
def bytesB (b : List UInt8) : List UInt8 := spellB b.length ++ b
theorem len_spell (n : Nat) : (spellB n).length ≤ 9 := by
  rw [length_spellB]
  have := kOf_le n
  omega

theorem wbytes_any (X : Nat → Prop) (w : World) (p : Nat) (l b : List UInt8) (x : Value) (h : WrAt X w p l) (hx : Slc w x b) (hq : 0 < b.length → ∀ k, x.ownBlock = some k → ¬ X k) (hlen : l.length + 9 + b.length ≤ 140737488355328) :
    Calls Tryz.prog 49 #[.pointer (some ⟨p, 0, none⟩), x] w fun e w' => e = .returned (.pointer (some ⟨p, 0, none⟩)) ∧ WrAt (fun k => X k ∨ w.heap.size ≤ k) w' p (l ++ bytesB b) ∧ Stay X w w' := by
  obtain ⟨a0, c, rfl, hr, hn, hc1, hc2⟩ := id hx
  have H := Lib.hid h
  have HX := Lib.hid hx
  have HR := Lib.hid hr
  clear h hx hr
  have hs := len_spell b.length
  go_enter Tryz.func49, Tryz.ntmps49
  go_wp2_with fail
  refine (uint_any X w p l b.length H.out (by omega) (by omega)).mono ?_
  rintro e w1 ⟨rfl, hw1, hst1⟩
  have H1 := Lib.hid hw1
  clear hw1
  have hx1 : Slc w1 (.slice a0 b.length c) b := ⟨a0, c, rfl, HR.out.stay hst1 (fun h0 ad e => by
    subst e
    exact hq h0 ad.block rfl), hn, hc1, hc2⟩
  have HX1 := Lib.hid hx1
  clear hx1
  go_wp2_with fail
  refine (lay_any _ w1 p (l ++ spellB b.length) b _ H1.out HX1.out (by rw [List.length_append]; omega)).mono ?_
  rintro e w2 ⟨rfl, hw2, hst2⟩
  go_wp2
  go_ret
  refine ⟨rfl, ?_, hst1.andThen hst2 (fun k hk hY => by rcases hY with hY | hY; exact hY; omega)⟩
  unfold bytesB
  rw [← List.append_assoc]
  exact hw2.mono (fun k hk => by
    have := hst1.size
    rcases hk with (hk | hk) | hk
    · exact .inl hk
    · exact .inr hk
    · exact .inr (by omega))

end Go.Proofs.YtljlfdhjolcnaaaGreat.Pk

/-
  pack: Count; the calls of a nil reader.
-/
namespace Go.Proofs.YtljlfdhjolcnaaaGreat.Pk
open Go.RowKit
set_option maxRecDepth 100000

/-- A count: a number of at most so much, and of what may stand behind it. -/
def cntB (most : Int) (b : List UInt8) : Except Nat (Int × List UInt8) := match numB most.toNat b with
  | .error c => .error c
  | .ok (n, r) => if r.length < n then .error 2 else .ok ((n : Int), r)
theorem cntB_error {most : Int} {b : List UInt8} {c : Nat} (h : numB most.toNat b = .error c) : cntB most b = .error c := by unfold cntB; rw [h]
theorem cntB_long {most : Int} {b r : List UInt8} {n : Nat} (h : numB most.toNat b = .ok (n, r)) (h1 : r.length < n) : cntB most b = .error 2 := by unfold cntB; rw [h]; exact if_pos h1
theorem cntB_ok {most : Int} {b r : List UInt8} {n : Nat} (h : numB most.toNat b = .ok (n, r)) (h1 : ¬ r.length < n) : cntB most b = .ok ((n : Int), r) := by unfold cntB; rw [h]; exact if_neg h1
theorem cntB_err {most : Int} {b : List UInt8} {c : Nat} (h : cntB most b = .error c) : c = 2 ∨ c = 12 ∨ c = 3 ∨ c = 4 := by
  cases hn : numB most.toNat b with
  | error d =>
    rw [cntB_error hn] at h
    cases h
    exact .inr (numB_err hn)
  | ok p =>
    obtain ⟨n, r⟩ := p
    by_cases h1 : r.length < n
    · rw [cntB_long hn h1] at h
      cases h
      exact .inl rfl
    · rw [cntB_ok hn h1] at h
      cases h

def CntRet (w : World) (x : Value) : Except Nat (Int × List UInt8) → Ending → Prop := Ret (.int .i64 0) i64V w x

set_option maxHeartbeats 1000000 in
theorem count_any (b : List UInt8) (most : Int) (w : World) (x : Value) (hx : Slc w x b) (hlen : b.length ≤ 140737488355328) (hmost : most ≤ 9223372036854775807) : Calls Tryz.prog 123 #[x, .int .i64 most] w fun e w' => CntRet w' x (cntB most b) e ∧ Stay (fun _ => False) w w' := by
  obtain ⟨post, hpost⟩ : ∃ post : Ending → World → Prop, post = fun e w' => CntRet w' x (cntB most b) e ∧ Stay (fun _ => False) w w' := ⟨_, rfl⟩
  rw [← hpost]
  have HP := Lib.hid hpost
  clear hpost
  have hcs : most < 0 ∨ ¬ most < 0 := by omega
  rcases hcs with hneg | hneg
  all_goals
    go_enter Tryz.func123, Tryz.ntmps123
    go_wp2_with fail
    refine (number_at b most.toNat _ w x hx (by first | omega | (simp; omega) | (simp [IntKind.wrap]; omega))).mono ?_
    rintro e w1 ⟨hret, hs1⟩
    cases hr : numB most.toNat b with
    | error c =>
      rw [hr] at hret
      obtain rfl := hret
      have HR := Lib.hid (cntB_error hr)
      clear hr
      unfold errI
      go_wp2
      go_ret3
      rw [HP.out]
      refine ⟨?_, hs1⟩
      rw [HR.out]
      rfl
    | ok p =>
      obtain ⟨n, r⟩ := p
      rw [hr] at hret
      obtain ⟨v, rfl, hsub⟩ := hret
      obtain ⟨a2, c2, rfl, _⟩ := id hsub.1
      have hrl := numB_len hr
      have hle := numB_le hr
      have HR := Lib.hid hr
      have HSub := Lib.hid hsub
      have hw : IntKind.i64.wrap (n : Int) = (n : Int) := IntWalk.i64_in _ (by omega)
      have hwl : IntKind.u64.wrap (r.length : Int) = (r.length : Int) := IntWalk.u64_in _ (by omega)
      clear hr hsub
      by_cases h1 : r.length < n
      · have hc := Lib.hid (cntB_long HR.out h1)
        unfold u64V
        go_wp2
        go_ret3
        rw [HP.out]
        refine ⟨?_, hs1⟩
        rw [hc.out]
        rfl
      · have hc := Lib.hid (cntB_ok HR.out h1)
        unfold u64V
        go_wp2
        go_ret3
        rw [HP.out]
        refine ⟨?_, hs1⟩
        rw [hc.out]
        exact ret_ok (val := i64V) rfl HSub.out

theorem cnt1_any (b : List UInt8) (most : Int) (q : Nat) (w : World) (x : Value) (hx : Slc w x b) (hlen : b.length ≤ 140737488355328) (hmost : most ≤ 9223372036854775807) (hq : w.cell? ⟨q, 0, none⟩ = some (.int .i64 most)) :
    Calls Tryz.prog 122 #[x, .pointer (some ⟨q, 0, none⟩)] w fun e w' => CntRet w' x (cntB most b) e ∧ Stay (fun _ => False) w w' := by
  obtain ⟨post, hpost⟩ : ∃ post : Ending → World → Prop, post = fun e w' => CntRet w' x (cntB most b) e ∧ Stay (fun _ => False) w w' := ⟨_, rfl⟩
  rw [← hpost]
  have HP := Lib.hid hpost
  clear hpost
  go_enter Tryz.func122, Tryz.ntmps122
  go_wp2_with fail
  refine (count_any b most w x hx hlen hmost).mono ?_
  rintro e w1 ⟨hret, hs1⟩
  cases hr : cntB most b with
  | error c =>
    rw [hr] at hret
    obtain rfl := hret
    have HR := Lib.hid hr
    clear hr
    go_wp2
    go_ret3
    rw [HP.out]
    refine ⟨?_, hs1⟩
    rw [HR.out]
    rfl
  | ok p =>
    obtain ⟨n, r⟩ := p
    rw [hr] at hret
    obtain ⟨v, rfl, hsub⟩ := hret
    have HR := Lib.hid hr
    have HSub := Lib.hid hsub
    clear hr hsub
    go_wp2
    go_ret3
    rw [HP.out]
    refine ⟨?_, hs1⟩
    rw [HR.out]
    exact ret_ok (val := i64V) rfl HSub.out

set_option maxHeartbeats 1000000 in
theorem take_cnt (X : Nat → Prop) (w : World) (p : Nat) (s : RS) (most : Int) (q : Nat) (h : RdAt X w p s) (hmost : most ≤ 9223372036854775807) (hlen : s.b.length ≤ 140737488355328) (hq : w.cell? ⟨q, 0, none⟩ = some (.int .i64 most)) :
    Calls Tryz.prog 86 #[.pointer (some ⟨p, 0, none⟩), .func (.func 122) #[] #[.pointer (some ⟨q, 0, none⟩)]] w fun e w' => e = .returned (i64V (takeB (cntB most) 0 s).1) ∧ RdAt X w' p (takeB (cntB most) 0 s).2 ∧ Stay (fun k => k = p) w w' := by
  by_cases he : s.err = 0
  · obtain ⟨hp, x, hx, hsl, hk⟩ := id h
    have hc0 : w.cell? ⟨p, 0, none⟩ = some x := by rw [cell_of_row w p 0 _ _ _ hx]; rfl
    have HP := Lib.hid h
    have HX := Lib.hid hx
    have HK := Lib.hid hk
    have HE := Lib.hid he
    have hlt := lt_of_block hx
    obtain ⟨TK, htk⟩ : ∃ TK, TK = takeB (cntB most) 0 s := ⟨_, rfl⟩
    rw [← htk]
    have HT := Lib.hid htk
    clear hx hk he htk h
    go_enter Tryz.func86, Tryz.ntmps86
    go_wp2_with fail
    refine (err_any X w p s HP.out).mono ?_
    rintro e w' ⟨rfl, rfl⟩
    rw [HE.out, errV_zero]
    go_wp2_with fail
    refine (cnt1_any s.b most q w x hsl hlen hmost hq).mono ?_
    rintro e w1 ⟨hret, hs1⟩
    have hp1 := Lib.hid ((hs1.block p hlt (fun x => x)).trans HX.out)
    cases hr : cntB most s.b with
    | error c =>
      rw [hr] at hret
      obtain rfl := hret
      have HR := Lib.hid (takeB_error (zero := 0) HE.out hr)
      have hcn : c ≠ 0 := by have := cntB_err hr; omega
      have HC := Lib.hid hcn
      have hc1 : w1.cell? ⟨p, 1, none⟩ = some (errV s.err) := by rw [cell_of_row w1 p 1 _ _ _ hp1.out]; rfl
      have hf1 : w1.frozen? ⟨p, 1, none⟩ = false := frozen_of_row w1 p 1 _ _ hp1.out
      clear hr hcn
      unfold errI
      go_wp2
      go_ret
      rw [HT.out, HR.out]
      exact ⟨rfl, HP.out.fail hs1 HC.out, (hs1.mono (fun _ x => x.elim)).trans (Stay.setCell _ _ _ rfl)⟩
    | ok y =>
      obtain ⟨n, r⟩ := y
      rw [hr] at hret
      obtain ⟨v, rfl, hsub⟩ := hret
      obtain ⟨a2, c2, rfl, _⟩ := id hsub.1
      have HSub := Lib.hid hsub
      have HR := Lib.hid (takeB_ok (zero := 0) HE.out hr)
      have hc1 : w1.cell? ⟨p, 0, none⟩ = some x := by rw [cell_of_row w1 p 0 _ _ _ hp1.out]; rfl
      have hf1 : w1.frozen? ⟨p, 0, none⟩ = false := frozen_of_row w1 p 0 _ _ hp1.out
      clear hr hsub
      unfold i64V
      go_wp2
      go_ret
      rw [HT.out, HR.out]
      exact ⟨rfl, RdAt.go hp hp1.out HK.out HE.out HSub.out, (hs1.mono (fun _ x => x.elim)).trans (Stay.setCell _ _ _ rfl)⟩
  · rw [takeB_bad he]
    have HE := Lib.hid he
    clear he
    go_enter Tryz.func86, Tryz.ntmps86
    go_wp2_with fail
    refine (err_any X w p s h).mono ?_
    rintro e w' ⟨rfl, rfl⟩
    rw [errV_pos HE.out]
    unfold errI
    go_wp2
    go_ret
    exact ⟨rfl, h, Stay.refl _ _⟩

theorem rcount_any (X : Nat → Prop) (w : World) (p : Nat) (s : RS) (most : Int) (h : RdAt X w p s) (hlen : s.b.length ≤ 140737488355328) (hmost : most ≤ 9223372036854775807) :
    Calls Tryz.prog 88 #[.pointer (some ⟨p, 0, none⟩), .int .i64 most] w fun e w' => e = .returned (i64V (takeB (cntB most) 0 s).1) ∧ RdAt X w' p (takeB (cntB most) 0 s).2 ∧ Stay (fun k => k = p) w w' := by
  have h1 := h.stay0 (Stay.alloc w (.cells #[.int .i64 most] 3))
  go_enter Tryz.func88, Tryz.ntmps88
  go_wp2_with fail
  refine (take_cnt X _ p s most _ h1 hmost hlen (by simp)).mono ?_
  rintro e w1 ⟨rfl, hr, hs⟩
  go_wp2
  go_ret
  exact ⟨rfl, hr, (Stay.alloc _ _).trans hs⟩

end Go.Proofs.YtljlfdhjolcnaaaGreat.Pk

/-
  pack, in plain lists: bytes that are read as a number are the number's.
-/
namespace Go.Proofs.YtljlfdhjolcnaaaGreat.Pk
open Go.RowKit

/-- The low bytes of what bytes are read as are those bytes. -/
theorem low_fold : ∀ (l : List UInt8) (a k : Nat), l.length = k → ∀ N, N = foldB a l → lowB N k = l
  | [], a, k, hk, N, _ => by
    subst hk
    rfl
  | c :: l, a, 0, hk, N, _ => by simp at hk
  | c :: l, a, k + 1, hk, N, hN => by
    have hl : l.length = k := by simpa using hk
    have hc := c.toNat_lt
    rw [foldB_cons] at hN
    have ih := low_fold l (a * 256 + c.toNat) k hl N hN
    have hlo := foldB_ge l (a * 256 + c.toNat)
    have hhi := foldB_lt l (a * 256 + c.toNat) (a * 256 + c.toNat + 1) (by omega)
    rw [← hN, hl] at hlo hhi
    have hdiv : N / 256 ^ k = a * 256 + c.toNat := Nat.div_eq_of_lt_le hlo hhi
    unfold lowB
    rw [ih, hdiv, show (a * 256 + c.toNat) % 256 = c.toNat by omega, UInt8.ofNat_toNat]
/-- Bytes that are read as a number are the number's. -/
theorem spell_num {most n : Nat} {b r : List UInt8} (h : numB most b = .ok (n, r)) : b = spellB n ++ r ∧ n ≤ most := by
  cases b with
  | nil => cases h
  | cons c l =>
    unfold numB at h
    simp only [] at h
    obtain ⟨hf1, hf2, hf3⟩ := lead_first c
    have h8 := leadN_le c.toNat
    have hcb := c.toNat_lt
    have hon : onesN (leadN c.toNat) ≤ c.toNat := by
      have : ∀ c : Fin 256, onesN (leadN c.val) ≤ c.val := by decide +kernel
      exact this ⟨c.toNat, c.toNat_lt⟩
    generalize hk : leadN c.toNat = k at *
    split at h
    · cases h
    · rename_i h1
      split at h
      · cases h
      · rename_i h2
        split at h
        · cases h
        · rename_i h3
          have hlk : (l.take k).length = k := by rw [List.length_take]; omega
          generalize hN : foldB (c.toNat - onesN k) (l.take k) = N at *
          cases h
          have hlo := foldB_ge (l.take k) (c.toNat - onesN k)
          have hhi := foldB_lt (l.take k) (c.toNat - onesN k) (c.toNat - onesN k + 1) (by omega)
          rw [hN, hlk] at hlo hhi
          have hko : kOf n = k := by
            refine kOf_eq h8 (fun j hj => ?_) (fun hk8 => ?_)
            · have h4 : 2 ^ (7 * k) ≤ n := by
                rcases Nat.lt_or_ge n (2 ^ (7 * k)) with h5 | h5
                · exact absurd ⟨by omega, h5⟩ h2
                · exact h5
              exact Nat.le_trans (Nat.pow_le_pow_right (by decide) (by omega)) h4
            · refine Nat.lt_of_lt_of_le hhi ?_
              have e : 2 ^ (7 * k + 7) = 2 ^ (7 - k) * 256 ^ k := by
                rw [show (256 : Nat) = 2 ^ 8 by decide, ← Nat.pow_mul, ← Nat.pow_add]
                congr 1
                omega
              rw [e]
              exact Nat.mul_le_mul_right _ (by omega)
          have hdiv : n / 256 ^ k = c.toNat - onesN k := by
            refine Nat.div_eq_of_lt_le hlo hhi
          have hlow : lowB n k = l.take k := low_fold (l.take k) (c.toNat - onesN k) k hlk n hN.symm
          refine ⟨?_, by omega⟩
          unfold spellB
          rw [hko, hdiv, hlow, show onesN k + (c.toNat - onesN k) = c.toNat by omega, UInt8.ofNat_toNat, List.cons_append, List.take_append_drop]
end Go.Proofs.YtljlfdhjolcnaaaGreat.Pk

/-
  pack: what the writer lays, where what it may turn are the blocks of any set that holds all new ones.
-/
namespace Go.Proofs.YtljlfdhjolcnaaaGreat.Pk
open Go.RowKit
set_option maxRecDepth 100000

/-- All new blocks are of Y. -/
def Cl (Y : Nat → Prop) (w : World) : Prop := ∀ k, w.heap.size ≤ k → Y k
theorem Cl.stay {X Y : Nat → Prop} {w w' : World} (h : Cl Y w) (hs : Stay X w w') : Cl Y w' := fun k hk => h k (Nat.le_trans hs.size hk)

theorem boolY (Y : Nat → Prop) (w : World) (p : Nat) (l : List UInt8) (b : Bool) (h : WrAt Y w p l) (hY : Cl Y w) (hlen : l.length + 1 ≤ 140737488355328) :
    Calls Tryz.prog 48 #[.pointer (some ⟨p, 0, none⟩), .bool b] w fun e w' => e = .returned (.pointer (some ⟨p, 0, none⟩)) ∧ WrAt Y w' p (l ++ boolB b) ∧ Stay Y w w' :=
  (bool_any _ w p l b h hlen).mono fun _ _ ⟨h1, h2, h3⟩ => ⟨h1, h2.mono (fun k hk => hk.elim id (hY k)), h3⟩
theorem wtextY (Y : Nat → Prop) (w : World) (p : Nat) (l b : List UInt8) (h : WrAt Y w p l) (hY : Cl Y w) (hlen : l.length + 9 + b.length ≤ 140737488355328) :
    Calls Tryz.prog 47 #[.pointer (some ⟨p, 0, none⟩), strV b] w fun e w' => e = .returned (.pointer (some ⟨p, 0, none⟩)) ∧ WrAt Y w' p (l ++ bytesB b) ∧ Stay Y w w' := by
  obtain ⟨cap, w1, hcv, hslc, hst, hsz⟩ := conv_txt w b (by omega)
  have H := Lib.hid h
  have HSL := Lib.hid hslc
  have HST := Lib.hid hst
  have HY := Lib.hid hY
  clear h hslc hst hY
  have HB := H.out.lt
  unfold strV at hcv ⊢
  go_enter Tryz.func47, Tryz.ntmps47
  go_wp2_with fail
  refine (wbytes_any (fun k => Y k ∧ k < w.heap.size) w1 p l b _ (H.out.tight.stay0 HST.out) HSL.out (fun _ k e hX => by have e' : w.heap.size = k := (by simpa [Value.ownBlock] using e); omega) hlen).mono ?_
  rintro e w2 ⟨rfl, hw2, hst2⟩
  go_wp2
  go_ret
  have hsz1 := HST.out.size
  exact ⟨rfl, hw2.mono (fun k hk => by rcases hk with hk | hk; exact hk.1; exact HY.out k (by omega)), (HST.out.mono (fun _ x => x.elim)).trans (hst2.mono (fun k hk => hk.1))⟩

end Go.Proofs.YtljlfdhjolcnaaaGreat.Pk

