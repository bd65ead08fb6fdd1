import Derived.Test.YtahfgoafiepioaaGreatDoorGaK
import Derived.BigQuiet
import Derived.Deep.QuietTactic
import Derived.LoopTactic
import Derived.Lib.SlBytesConst
import Derived.Test.YtahfgoafiepioaaGreatDoorGrow
import Derived.Test.YtahfgoafiepioaaGreatDoorClass
import Derived.Stop.BytesEq
/-
  horner: sums by Horner's rule, as plain numbers.
-/
namespace Go.Proofs.YtahfgoafiepioaaGreatDoor.Hn

/-- A sum, and bytes behind it. -/
def moreN (s : Nat) (l : List UInt8) : Nat := l.foldl (fun n c => (n * 257 + c.toNat) % 2147483647) (s % 2147483647)
theorem moreN_nil (s : Nat) : moreN s [] = s % 2147483647 := rfl
theorem moreN_snoc (s : Nat) (l : List UInt8) (c : UInt8) : moreN s (l ++ [c]) = (moreN s l * 257 + c.toNat) % 2147483647 := by simp [moreN, List.foldl_append]
theorem fold_lt (l : List UInt8) : ∀ n, n < 2147483647 → l.foldl (fun n c => (n * 257 + c.toNat) % 2147483647) n < 2147483647 := by
  induction l with
  | nil => exact fun n h => h
  | cons c r ih => exact fun n _ => ih _ (Nat.mod_lt _ (by decide))
theorem moreN_lt (s : Nat) (l : List UInt8) : moreN s l < 2147483647 := fold_lt l _ (Nat.mod_lt _ (by decide))
theorem moreN_small {s : Nat} (h : s < 2147483647) (l : List UInt8) : moreN s l = l.foldl (fun n c => (n * 257 + c.toNat) % 2147483647) s := by rw [moreN, Nat.mod_eq_of_lt h]
theorem moreN_app (s : Nat) (a b : List UInt8) : moreN s (a ++ b) = moreN (moreN s a) b := by
  rw [moreN_small (moreN_lt s a)]
  simp [moreN, List.foldl_append]

/-- A power of the base. -/
def pwN (n : Nat) : Nat := 257 ^ n % 2147483647
theorem pwN_lt (n : Nat) : pwN n < 2147483647 := Nat.mod_lt _ (by decide)
theorem pow_start (n : Nat) : (1 * 257 ^ n) % 2147483647 = pwN n := by rw [Nat.one_mul]; rfl
theorem pow_odd (p q m : Nat) (h : m % 2 = 1) : ((p * q % 2147483647) * (q * q % 2147483647) ^ (m / 2)) % 2147483647 = (p * q ^ m) % 2147483647 := by
  rw [Nat.mul_mod, Nat.mod_mod, ← Nat.pow_mod, ← Nat.mul_mod]
  have e : q ^ m = q * (q * q) ^ (m / 2) := by
    rw [← Nat.pow_two, ← Nat.pow_mul]
    have : q * q ^ (2 * (m / 2)) = q ^ (2 * (m / 2) + 1) := by rw [Nat.pow_succ, Nat.mul_comm]
    rw [this]
    congr 1
    omega
  rw [e, Nat.mul_assoc]
theorem pow_even (p q m : Nat) (h : m % 2 = 0) : (p * (q * q % 2147483647) ^ (m / 2)) % 2147483647 = (p * q ^ m) % 2147483647 := by
  rw [Nat.mul_mod, ← Nat.pow_mod, ← Nat.mul_mod]
  have e : q ^ m = (q * q) ^ (m / 2) := by
    rw [← Nat.pow_two, ← Nat.pow_mul]
    congr 1
    omega
  rw [e]
theorem pow_end {p q : Nat} (hp : p < 2147483647) : (p * q ^ 0) % 2147483647 = p := by rw [Nat.pow_zero, Nat.mul_one, Nat.mod_eq_of_lt hp]
theorem pwN_add (n m : Nat) : pwN (n + m) = (pwN n * pwN m) % 2147483647 := by
  unfold pwN
  rw [Nat.pow_add, Nat.mul_mod]
theorem pwN_succ (n : Nat) : pwN (n + 1) = (pwN n * 257) % 2147483647 := by
  unfold pwN
  rw [Nat.pow_succ, Nat.mul_mod]
theorem pwN_zero : pwN 0 = 1 := by decide

/-- Two sums joined. -/
def joinN (a b n : Nat) : Nat := ((a + 2147483646) % 2147483647 * pwN n + b) % 2147483647
theorem joinN_lt (a b n : Nat) : joinN a b n < 2147483647 := Nat.mod_lt _ (by decide)

theorem mm (a b c : Nat) : (a % 2147483647 * b + c) % 2147483647 = (a * b + c) % 2147483647 := by
  rw [Nat.add_mod, Nat.mul_mod, Nat.mod_mod, ← Nat.mul_mod, ← Nat.add_mod]
theorem mm2 (a b c : Nat) : (a * (b % 2147483647) + c) % 2147483647 = (a * b + c) % 2147483647 := by
  rw [Nat.mul_comm, mm, Nat.mul_comm]
theorem addr (a b : Nat) : (a + b) % 2147483647 = (a + b % 2147483647) % 2147483647 := by omega
theorem join_less (A : Nat) : ((A + 1) % 2147483647 + 2147483646) % 2147483647 = A % 2147483647 := by omega
theorem join_join (a i k : Nat) : joinN (joinN a 1 i) 1 k = joinN a 1 (i + k) := by
  unfold joinN
  generalize (a + 2147483646) % 2147483647 = A
  rw [join_less, mm, pwN_add, mm2, Nat.mul_assoc]
theorem join_one (a i : Nat) : joinN 1 a i = a % 2147483647 := by
  unfold joinN
  rw [show (1 + 2147483646) % 2147483647 = 0 from rfl, Nat.zero_mul, Nat.zero_add]

theorem fold_aux (n c P Q F G K : Nat) (h1 : K % 2147483647 = ((n * 257 + c) % 2147483647 * P + F) % 2147483647) (h2 : G % 2147483647 = ((0 * 257 + c) % 2147483647 * P + F) % 2147483647) (h3 : Q = P * 257 % 2147483647) :
    K % 2147483647 = (n * Q + G) % 2147483647 := by
  have e1 := mm (n * 257 + c) P F
  have e2 := mm (0 * 257 + c) P F
  have e3 := mm2 n (P * 257) (c * P + F)
  have e4 := addr (n * Q) G
  have e5 := addr (n * Q) (c * P + F)
  have e6 : (n * 257 + c) * P + F = n * (P * 257) + (c * P + F) := by
    rw [Nat.add_mul, Nat.mul_assoc, Nat.mul_comm 257, Nat.add_assoc]
  have e7 : (0 * 257 + c) * P + F = c * P + F := by rw [Nat.zero_mul, Nat.zero_add]
  rw [h1, e1, e6, ← e3, ← h3, e5, e4, h2, e2, e7]

/-- What bytes behind a number make of it. -/
theorem fold_join (l : List UInt8) : ∀ n : Nat,
    l.foldl (fun n c => (n * 257 + c.toNat) % 2147483647) n % 2147483647 = (n * pwN l.length + l.foldl (fun n c => (n * 257 + c.toNat) % 2147483647) 0) % 2147483647 := by
  induction l with
  | nil => intro n; simp [pwN_zero]
  | cons c r ih =>
    intro n
    simp only [List.foldl_cons, List.length_cons]
    exact fold_aux n c.toNat _ _ _ _ _ (ih _) (ih _) (pwN_succ _)
theorem more_fold (n : Nat) (l : List UInt8) : moreN n l = (n * pwN l.length + l.foldl (fun n c => (n * 257 + c.toNat) % 2147483647) 0) % 2147483647 := by
  have h := fold_join l (n % 2147483647)
  rw [mm] at h
  rw [← h]
  exact (Nat.mod_eq_of_lt (fold_lt l _ (Nat.mod_lt _ (by decide)))).symm
theorem join_more (A : Nat) (b : List UInt8) : joinN A (moreN 1 b) b.length = moreN A b := by
  have e1 := more_fold A b
  have e2 := more_fold 1 b
  generalize b.foldl (fun n c => (n * 257 + c.toNat) % 2147483647) 0 = F at e1 e2
  rw [e1, e2]
  unfold joinN
  generalize pwN b.length = P
  have e3 := mm (A + 2147483646) P ((1 * P + F) % 2147483647)
  have e4 := addr ((A + 2147483646) * P) (1 * P + F)
  have e5 : (A + 2147483646) * P + (1 * P + F) = A * P + F + 2147483647 * P := by
    rw [Nat.add_mul]
    omega
  rw [e3, ← e4, e5, Nat.add_mul_mod_self_left]

end Go.Proofs.YtahfgoafiepioaaGreatDoor.Hn

/-
  horner: the contracts of More, Sum, power, Join, and the document's More and Sum.
-/
namespace Go.Proofs.YtahfgoafiepioaaGreatDoor.Hn
open Go.RowKit Pk
set_option maxRecDepth 100000

def u32V (n : Nat) : Value := .int .u32 (n : Int)
theorem ret_u32 {a b : Nat} (h : a = b) : Ending.returned (u32V a) = .returned (u32V b) := by rw [h]

set_option maxHeartbeats 1000000 in
theorem more_any (s : Nat) (b : List UInt8) (x : Value) (w : World) (hs : (s : Int) ≤ 4294967295) (hx : Slc w x b) :
    Calls Tryz.prog 93 #[.int .u32 s, x] w fun e w' => e = .returned (u32V (moreN s b)) ∧ w = w' := by
  obtain ⟨a0, cap, rfl, hr, hn, hcap, hm⟩ := hx
  have hbl : (b.length : Int) ≤ 9223372036854775806 ∨ (b.length : Int) = 9223372036854775807 := by omega
  have HR := Lib.hid hr
  clear hr hn
  unfold u32V
  go_enter Tryz.func93, Tryz.ntmps93
  go_wp2
  go_loop [5, 13] (fun n i => ∃ j : Nat, j ≤ b.length ∧ i = .int .i64 j ∧ n = .int .u64 ((moreN s (b.take j) : Nat) : Int)) (fun _ i => b.length - (intOf i).toNat)
  case atStart => exact ⟨0, Nat.zero_le _, rfl, rfl⟩
  case round =>
    obtain ⟨j, hj, rfl, rfl⟩ := hrel
    have hlt0 := moreN_lt s (b.take j)
    have HL := Lib.hid (show b.take b.length = b from List.take_length)
    by_cases hlt : j < b.length
    · obtain ⟨c, hc⟩ : ∃ c, b[j]? = some c := ⟨_, List.getElem?_eq_getElem hlt⟩
      obtain ⟨ad, rfl, hcell⟩ := HR.out (by omega)
      have hcj := hcell j (byteV c) (by simp [cellsB, hc])
      unfold byteV at hcj
      have HS := Lib.hid (show moreN s (b.take (j + 1)) = (moreN s (b.take j) * 257 + c.toNat) % 2147483647 by rw [List.take_add_one, hc]; exact moreN_snoc _ _ _)
      have hcb := c.toNat_lt
      clear hc hcell
      generalize moreN s (b.take j) = F at *
      go_wp2
      go_round
      case rel => exact ⟨j + 1, by omega, by go_num, by rw [HS.out]; congr 1⟩
      case measure => simp [intOf]; omega
    · obtain rfl : b.length = j := by omega
      rw [HL.out] at *
      go_wp2
      go_ret
      exact ⟨rfl, rfl⟩

set_option maxHeartbeats 1000000 in
theorem rmore_any (s : Nat) (b : List UInt8) (x : Value) (w : World) (hs : (s : Int) ≤ 4294967295) (hx : Slc w x b) :
    Calls Tryz.prog 105 #[.int .u32 s, x] w fun e w' => e = .returned (u32V (moreN s b)) ∧ w = w' := by
  obtain ⟨a0, cap, rfl, hr, hn, hcap, hm⟩ := hx
  have HR := Lib.hid hr
  clear hr hn
  unfold u32V
  go_enter Tryz.func105, Tryz.ntmps105
  go_wp2
  go_loop [5, 6] (fun n i => ∃ j : Nat, j ≤ b.length ∧ i = .int .i64 j ∧ n = .int .u64 ((moreN s (b.take j) : Nat) : Int)) (fun _ i => b.length - (intOf i).toNat)
  case atStart => exact ⟨0, Nat.zero_le _, rfl, rfl⟩
  case round =>
    obtain ⟨j, hj, rfl, rfl⟩ := hrel
    have hlt0 := moreN_lt s (b.take j)
    have HL := Lib.hid (show b.take b.length = b from List.take_length)
    by_cases hlt : j < b.length
    · obtain ⟨c, hc⟩ : ∃ c, b[j]? = some c := ⟨_, List.getElem?_eq_getElem hlt⟩
      obtain ⟨ad, rfl, hcell⟩ := HR.out (by omega)
      have hcj := hcell j (byteV c) (by simp [cellsB, hc])
      unfold byteV at hcj
      have HS := Lib.hid (show moreN s (b.take (j + 1)) = (moreN s (b.take j) * 257 + c.toNat) % 2147483647 by rw [List.take_add_one, hc]; exact moreN_snoc _ _ _)
      have hcb := c.toNat_lt
      clear hc hcell
      generalize moreN s (b.take j) = F at *
      go_wp2
      go_round
      case rel => exact ⟨j + 1, by omega, by go_num, by rw [HS.out]; congr 1; omega⟩
      case measure => simp [intOf]; omega
    · obtain rfl : b.length = j := by omega
      rw [HL.out] at *
      go_wp2
      go_ret
      exact ⟨rfl, rfl⟩

theorem sum_any (b : List UInt8) (x : Value) (w : World) (hx : Slc w x b) :
    Calls Tryz.prog 58 #[x] w fun e w' => e = .returned (u32V (moreN 1 b)) ∧ w = w' := by
  unfold u32V
  go_enter Tryz.func58, Tryz.ntmps58
  go_wp2_with fail
  refine (more_any 1 b x w (by decide) hx).mono ?_
  rintro e w' ⟨rfl, rfl⟩
  go_wp2
  go_ret
  exact ⟨rfl, rfl⟩
theorem rsum_any (b : List UInt8) (x : Value) (w : World) (hx : Slc w x b) :
    Calls Tryz.prog 96 #[x] w fun e w' => e = .returned (u32V (moreN 1 b)) ∧ w = w' := by
  unfold u32V
  go_enter Tryz.func96, Tryz.ntmps96
  go_wp2_with fail
  refine (rmore_any 1 b x w (by decide) hx).mono ?_
  rintro e w' ⟨rfl, rfl⟩
  go_wp2
  go_ret
  exact ⟨rfl, rfl⟩

def u64V (n : Nat) : Value := .int .u64 (n : Int)
/-- An error by its number. -/
def errI (c : Nat) : Value := .iface 59 (.int .i64 (c : Int))

def lessN (a : Nat) : Nat := (a + 2147483646) % 2147483647
theorem less_eq (a : Nat) : ((a : Int) + 2147483647 - 1) % 2147483647 = (lessN a : Int) := by unfold lessN; omega
end Go.Proofs.YtahfgoafiepioaaGreatDoor.Hn

/-
  horner over pack's slices: the contracts of spell, Grow and Concat.
-/
namespace Go.Proofs.YtahfgoafiepioaaGreatDoor.Hn
open Go.RowKit Pk
set_option maxRecDepth 100000

/-- A block of bytes, marked or not, as a slice. -/
theorem slc_block (w : World) (l : List UInt8) (t : TypeId) (fr : Nat × Nat) (hl : l.length ≤ 9223372036854775807) : Slc (w.alloc (.cells (cellsB l).toArray t fr)) (.slice (some ⟨w.heap.size, 0, none⟩) l.length l.length) l := by
  refine ⟨_, _, rfl, fun _ => ⟨_, rfl, fun j v hv => ?_⟩, (fun h => by cases h), Nat.le_refl _, hl⟩
  rw [add_at, Nat.zero_add]
  rw [cell_of_row _ _ _ _ _ _ (heap_alloc_new w _)]
  simpa using hv

/-- A sum as its bytes. -/
def tailB (s : Nat) : List UInt8 := [UInt8.ofNat (s % 256), UInt8.ofNat (s / 256 % 256), UInt8.ofNat (s / 65536 % 256), UInt8.ofNat (s / 16777216 % 256)]
theorem length_tailB (s : Nat) : (tailB s).length = 4 := rfl
theorem toNat_mod (s : Nat) : (UInt8.ofNat (s % 256)).toNat = s % 256 := by simp

theorem tail_vals {s : Nat} (hs : (s : Int) ≤ 4294967295) : (cellsB (tailB s)).toArray = #[.int .u8 ((s : Int) % 256), .int .u8 ((s : Int) / 256 % 256), .int .u8 ((s : Int) / 65536 % 256), .int .u8 ((s : Int) / 16777216)] := by
  simp only [cellsB, tailB, List.map_cons, List.map_nil, byteV, toNat_mod]
  have h3 : s / 16777216 % 256 = s / 16777216 := by omega
  rw [h3]
  simp
theorem info_tail {l : List UInt8} (h : l.length = 4) : (Tryz.prog.info? 118).map (·.size) = some (cellsB l).toArray.size := by
  rw [List.size_toArray, length_cellsB, h]
  kernel_rfl
/-- A whole tail out of cells that are known. -/
theorem load_tail {w : World} {g o : Nat} {t : TypeId} {S : Array Value} {fr : Nat × Nat} {l : List UInt8} (hl : l.length = 4) (hg : w.heap[g]? = some (.cells S t fr)) (hc : ∀ j, j < 4 → S[o + j]? = (cellsB l).toArray[j]?) :
    (loadVar 118 ⟨g, o, none⟩).run Tryz.prog w = .ok (.agg (cellsB l).toArray) w :=
  run_loadVar_mid (P := Tryz.prog) w g o t 118 S (cellsB l).toArray fr _ hg Tryz.underlying118 rfl (info_tail hl) (fun j hj => hc j (by rw [List.size_toArray, length_cellsB, hl] at hj; exact hj))

theorem spell_any (s : Nat) (w : World) (hs : (s : Int) ≤ 4294967295) :
    Calls Tryz.prog 57 #[.int .u32 s] w fun e w' => e = .returned (.agg (cellsB (tailB s)).toArray) ∧ Stay (fun _ => False) w w' := by
  have HT := Lib.hid (tail_vals hs)
  go_enter Tryz.func57, Tryz.ntmps57
  go_wp2
  refine wp_loop_rounds 5 ?_
  repeat any_goals (rw [rounds_succ]; go_wp2)
  rw [← HT.out]
  have hld := load_tail (l := tailB s) rfl (show ((w.alloc (.cells (cellsB (tailB s)).toArray 118)).alloc (.cells (cellsB (tailB s)).toArray 118)).heap[w.heap.size]? = _ from (Below.heap_alloc _ _ _ (by simp)).trans (heap_alloc_new w _)) (o := 0) (fun j _ => by rw [Nat.zero_add])
  exact bodyPost_ret (v := .agg (cellsB (tailB s)).toArray) (by simp [results, Tryz.results57, asAddr, hld]) rfl ⟨rfl, (Stay.alloc _ _).trans (Stay.alloc _ _)⟩

theorem stay_nil {w w' : World} (h : w.grownBy w' (Value.slice none 0 0).ownBlock) : Stay (fun _ => False) w w' := Stay.grown (X := fun _ => False) h (fun k e => by cases e)

theorem grow_nil (n : Nat) (w : World) (hn : n ≤ 140737488355328) :
    Calls Tryz.prog 103 #[.slice none 0 0, .int .i64 n] w fun e w' => ∃ v, e = .returned v ∧ Owns w.heap.size w' v [] ∧ Stay (fun _ => False) w w' := by
  obtain ⟨i0, hi, hz0, hz1, hz2⟩ := info_parts info5
  rcases Nat.eq_zero_or_pos n with h0 | h0
  · exact (Any8.slices_Grow_room Tryz.growA none 0 0 n w (Nat.le_refl _) (by decide) (by omega) (by omega)).mono fun e w' ⟨h1, h2⟩ => ⟨_, h1, Owns.nil _ _, h2 ▸ Stay.refl _ _⟩
  · refine (Any8.slices_Grow_grow Tryz.growA i0 _ hi hz0 (by omega) none 0 0 n [] w (Nat.le_refl _) (by omega) (by rw [hz2]; omega) (by omega) (by simp) (fun _ => rfl) (fun a e => by cases e)).mono fun e w' ⟨h1, h2⟩ => ?_
    have hgc := grownCap_ge w (0 + n) 0 5
    have hg := heap_alloc_new w.drew (.cells (([] : List Value).toArray ++ Builtin.zeroCells (Value.int .u8 0).cells (0 + n - 0) ++ Builtin.zeroCells (Value.int .u8 0).cells (grownCap w (0 + n) 0 5 - (0 + n))) 5)
    subst h2
    refine ⟨_, h1, ⟨rfl, .inr ⟨w.heap.size, _, _, rfl, Nat.le_refl _, hg, Nat.zero_le _, grownCap_le_maxLen _ _ _ _ (by unfold maxLen; omega), ?_, rfl⟩⟩, Stay.drew.trans (Stay.alloc _ _)⟩
    simp [size_zeroCells, Value.cells]
    show n + (grownCap w n 0 5 - n) = grownCap w n 0 5
    rw [Nat.zero_add] at hgc
    omega

/-- slices.Concat of two. -/
theorem concat_any (g : Nat) (x y : Value) (a b : List UInt8) (w : World) (fr : Nat × Nat) (hg : w.heap[g]? = some (.cells #[x, y] 30 fr)) (hx : Slc w x a) (hy : Slc w y b) (hlen : a.length + b.length ≤ 140737488355328) :
    Calls Tryz.prog 92 #[.slice (some ⟨g, 0, none⟩) 2 2] w fun e w' => ∃ v, e = .returned v ∧ Owns w.heap.size w' v (a ++ b) ∧ Stay (fun _ => False) w w' := by
  obtain ⟨i0, hi, hz0, hz1, hz2⟩ := info_parts info5
  have HI := Lib.hid hi
  have HZ0 := Lib.hid hz0
  have HZ1 := Lib.hid hz1
  have HZ2 := Lib.hid hz2
  have HX := Lib.hid hx
  have HY := Lib.hid hy
  obtain ⟨a0, c0, rfl, _⟩ := hx
  obtain ⟨a1, c1, rfl, _⟩ := hy
  have k0 : w.cell? ⟨g, 0, none⟩ = some (.slice a0 a.length c0) := cell_of_row w g 0 _ _ fr hg
  have k1 : w.cell? ⟨g, 1, none⟩ = some (.slice a1 b.length c1) := cell_of_row w g 1 _ _ fr hg
  have HKW := Lib.hid k1
  have e0 : ((a.length : Int) + (b.length : Int)) = ((a.length + b.length : Nat) : Int) := by omega
  have E0 := Lib.hid e0
  clear hi hz0 hz1 hz2 hg e0
  go_enter Tryz.func92, Tryz.ntmps92
  go_wp2
  refine wp_loop_rounds 3 ?_
  repeat any_goals (rw [rounds_succ]; go_wp2_with fail)
  rw [E0.out]
  refine (grow_nil (a.length + b.length) w hlen).mono ?_
  rintro e w1 ⟨v, rfl, how, hst⟩
  have k0' := hst.cell k0 (fun x => x)
  have k1' := hst.cell k1 (fun x => x)
  have hxl := HX.out.stay0 hst
  have hyl := HY.out.stay0 hst
  have hsz := hst.size
  have HO := Lib.hid how
  have HT := Lib.hid hst
  obtain ⟨av, cv, hv⟩ := how.form
  subst hv
  clear k0 k1 how hst
  go_wp2_with fail
  refine wp_loop_rounds 3 ?_
  rw [rounds_succ]
  go_wp2_with (at_builtin; refine wpList_append_slc rfl (.tmp 31) (.tmp 32) 30 rfl w.heap.size i0 Tryz.underlying30 HI.out HZ0.out HZ1.out HZ2.out _ (.slice a0 a.length c0) [] a rfl rfl HO.out hxl (by simp; omega) hsz ?_; intro v2 w2 hown2 hgr2 hnn2)
  have hT2 : Stay (fun _ => False) w w2 := stay_seal (X := fun k => w.heap.size ≤ k) ((HT.out.mono (fun _ x => x.elim)).trans (Stay.grown (X := fun k => w.heap.size ≤ k) hgr2 (fun k e => (HO.out.lt k e).1))) (fun k hk => hk)
  have k1'' := hT2.cell (HKW.out) (fun x => x)
  have hyl2 := HY.out.stay0 hT2
  have hsz2 := hT2.size
  have HO2 := Lib.hid hown2
  have HT2 := Lib.hid hT2
  rw [List.nil_append] at hown2
  obtain ⟨av2, cv2, hv2⟩ := hown2.form
  subst hv2
  clear hxl hyl k0' k1' hown2 hgr2 hnn2 hT2
  go_wp2_with fail
  rw [rounds_succ]
  go_wp2_with (at_builtin; refine wpList_append_slc rfl (.tmp 31) (.tmp 32) 30 rfl w.heap.size i0 Tryz.underlying30 HI.out HZ0.out HZ1.out HZ2.out (.slice av2 a.length cv2) (.slice a1 b.length c1) a b rfl rfl HO2.out hyl2 hlen hsz2 ?_; intro v3 w3 hown3 hgr3 hnn3)
  have hT3 : Stay (fun _ => False) w w3 := stay_seal (X := fun k => w.heap.size ≤ k) ((HT2.out.mono (fun _ x => x.elim)).trans (Stay.grown (X := fun k => w.heap.size ≤ k) hgr3 (fun k e => (HO2.out.lt k e).1))) (fun k hk => hk)
  clear hgr3 hnn3 hyl2
  go_wp2_with fail
  rw [rounds_succ]
  go_wp2
  go_ret
  exact ⟨v3, rfl, hown3, hT3⟩

end Go.Proofs.YtahfgoafiepioaaGreatDoor.Hn

/-
  horner over pack's slices: the contracts of Seal and the document's Seal.
-/
namespace Go.Proofs.YtahfgoafiepioaaGreatDoor.Hn
open Go.RowKit Pk
set_option maxRecDepth 100000

/-- Bytes and their sum. -/
def sealB (b : List UInt8) : List UInt8 := b ++ tailB (moreN 1 b)
theorem length_sealB (b : List UInt8) : (sealB b).length = b.length + 4 := by simp [sealB, length_tailB]

/-- A block that holds a tail. -/
def TailAt (w : World) (g : Nat) (l : List UInt8) : Prop := w.heap[g]? = some (.cells (cellsB l).toArray 118 (0, 0))
theorem TailAt.slc {w : World} {g : Nat} {l : List UInt8} (h : TailAt w g l) (hl : l.length ≤ 9223372036854775807) : Slc w (.slice (some ⟨g, 0, none⟩) l.length l.length) l := by
  refine ⟨_, _, rfl, fun _ => ⟨_, rfl, fun j v hv => ?_⟩, (fun h => by cases h), Nat.le_refl _, hl⟩
  rw [add_at, Nat.zero_add, cell_of_row _ _ _ _ _ _ h]
  simpa using hv
theorem store_tail {ops : Array Oper} {rest : List Oper} {o : Oper} {a : Act} {w : World} {Q : Exit → Act → World → Prop} (hgd : o.guard = none) (x y : Operand) (ho : o.op = .store 118 x y)
    (g : Nat) (hx : a.eval x = .pointer (some ⟨g, 0, none⟩)) (l0 l : List UInt8) (hy : a.eval y = .agg (cellsB l).toArray) (hl0 : l0.length = 4) (hl : l.length = 4) (hg : TailAt w g l0)
    (hn : ∀ w', TailAt w' g l → Stay (· = g) w w' → wpList Tryz.prog ops Q rest (a.put o.dst undef) w') : wpList Tryz.prog ops Q (o :: rest) a w :=
  wpList_store_mid hgd 118 x y ho g 0 hx 118 (cellsB l0) (cellsB l) hy hg (by have := info_tail hl; simpa using this) (by rw [length_cellsB, length_cellsB, hl, hl0]; exact Nat.le_refl _) (oneCell_cellsB _)
    (fun w' h1 h2 => hn w' (by
      have e : splice (cellsB l0) 0 (cellsB l) = cellsB l := by
        unfold splice
        rw [List.take_zero, List.nil_append, Nat.zero_add, length_cellsB, hl, List.drop_eq_nil_of_le (by rw [length_cellsB, hl0]; exact Nat.le_refl _), List.append_nil]
      rw [e] at h1
      exact h1) h2)

theorem seal_any (x : Value) (b : List UInt8) (w : World) (hx : Slc w x b) (hlen : b.length + 4 ≤ 140737488355328) :
    Calls Tryz.prog 55 #[x] w fun e w' => ∃ v, e = .returned v ∧ Owns w.heap.size w' v (sealB b) ∧ Stay (fun _ => False) w w' := by
  have HX := Lib.hid hx
  have hm := moreN_lt 1 b
  obtain ⟨a0, c0, rfl, _⟩ := hx
  go_enter Tryz.func55, Tryz.ntmps55
  go_wp2_with fail
  refine (sum_any b _ _ HX.out).mono ?_
  rintro e w' ⟨rfl, rfl⟩
  unfold u32V
  go_wp2_with fail
  refine (spell_any (moreN 1 b) _ (by omega)).mono ?_
  rintro e w1 ⟨rfl, hst⟩
  have h0 : TailAt (w1.alloc (.cells #[.int .u8 0, .int .u8 0, .int .u8 0, .int .u8 0] 118)) w1.heap.size [0, 0, 0, 0] := heap_alloc_new w1 _
  have H0 := Lib.hid h0
  have hszz := hst.size
  clear h0
  go_wp2_with (refine store_tail rfl (.tmp 3) (.tmp 6) rfl w1.heap.size rfl [0, 0, 0, 0] (tailB (moreN 1 b)) rfl rfl rfl H0.out ?_; intro w2 hT2 hs2; have HT2 := Lib.hid hT2; have hst2 := hst.trans (stay_seal (X := fun k => k = w1.heap.size) ((Stay.alloc _ _).trans hs2) (fun k e => by omega)); clear hT2 hs2)
  have hb := heap_alloc_new w2 (.cells #[.slice a0 b.length c0, .slice (some ⟨w1.heap.size, 0, none⟩) 4 4] 30)
  refine (concat_any _ _ _ b (tailB (moreN 1 b)) _ _ hb ((HX.out.stay0 hst2).alloc _) ((HT2.out.slc (by rw [length_tailB]; decide)).alloc _) hlen).mono ?_
  rintro e w3 ⟨v, rfl, how, hs3⟩
  have hst3 := (hst2.trans (Stay.alloc _ _)).trans hs3
  have how3 := how.base (base' := w.heap.size) (fun k hk => by have := (how.lt k hk).1; have := hst2.size; simp at *; omega)
  clear hb how hs3 hst2
  go_wp2
  go_ret
  exact ⟨_, rfl, how3, hst3⟩

theorem rseal_any (x : Value) (b : List UInt8) (w : World) (hx : Slc w x b) (hlen : b.length + 4 ≤ 140737488355328) :
    Calls Tryz.prog 75 #[x] w fun e w' => ∃ v, e = .returned v ∧ Owns w.heap.size w' v (sealB b) ∧ Stay (fun _ => False) w w' := by
  obtain ⟨i0, hi, hz0, hz1, hz2⟩ := info_parts info5
  have HI := Lib.hid hi
  have HZ0 := Lib.hid hz0
  have HZ1 := Lib.hid hz1
  have HZ2 := Lib.hid hz2
  have HX := Lib.hid hx
  have hm := moreN_lt 1 b
  clear hi hz0 hz1 hz2 hx
  go_enter Tryz.func75, Tryz.ntmps75
  go_wp2_with fail
  refine (rsum_any b _ _ HX.out).mono ?_
  rintro e w' ⟨rfl, rfl⟩
  unfold u32V
  have hsl : sealB b = b ++ tailB (moreN 1 b) := rfl
  generalize moreN 1 b = s at *
  have HSL := Lib.hid hsl
  clear hsl
  have hT := Lib.hid (tail_vals (s := s) (by omega))
  go_wp2_with (first
    | (at_builtin; refine wpList_append_slc rfl (.tmp 7) (.tmp 8) 30 rfl w.heap.size i0 Tryz.underlying30 HI.out HZ0.out HZ1.out HZ2.out (.slice none 0 0) x [] b rfl rfl (Owns.nil _ _) HX.out (by simp; omega) (Nat.le_refl _) ?_; intro v1 w1 hown1 hgr1 hnn1; have hst1 := stay_nil hgr1; have hsz1 := hst1.size; have HO1 := Lib.hid hown1; rw [List.nil_append] at hown1; obtain ⟨a1, c1, hv1⟩ := hown1.form; subst hv1; clear hown1 hgr1 hnn1)
    | (refine wpList_append_slc rfl (.tmp 9) (.tmp 24) 30 rfl w.heap.size i0 Tryz.underlying30 HI.out HZ0.out HZ1.out HZ2.out (.slice a1 b.length c1) (.slice (some ⟨w1.heap.size, 0, none⟩) 4 4) b (tailB s) rfl rfl (HO1.out.alloc _) (by rw [← hT.out]; exact slc_block w1 (tailB s) _ _ (by rw [length_tailB]; decide)) (by rw [length_tailB]; exact hlen) (by simp; omega) ?_; intro v2 w2 hown2 hgr2 hnn2))
  go_ret
  exact ⟨v2, rfl, by rw [HSL.out]; exact hown2, stay_seal (X := fun k => w.heap.size ≤ k) (((hst1.trans (Stay.alloc _ _)).mono (fun _ x => x.elim)).trans (Stay.grown (X := fun k => w.heap.size ≤ k) hgr2 (fun k e => (HO1.out.lt k e).1))) (fun k hk => hk)⟩

end Go.Proofs.YtahfgoafiepioaaGreatDoor.Hn

/-
  horner over pack's slices: the contract of Open.
-/
namespace Go.Proofs.YtahfgoafiepioaaGreatDoor.Hn
open Go.RowKit Pk
set_option maxRecDepth 100000

section
variable {P : Program}
theorem run_loadVar_at (w : World) (ad : Addr) (ty : TypeId) (cs : List Value) (d : TypeDesc)
    (hu : P.underlying ty = some d) (hd : (match d with | .struct _ | .array _ _ => true | _ => false) = true) (hi : (P.info? ty).map (·.size) = some cs.length)
    (hcs : ∀ j v, cs[j]? = some v → w.cell? (ad.add j) = some v) :
    (loadVar ty ad).run P w = .ok (.agg cs.toArray) w := by
  have hl : (loadCells ad cs.length).run P w = .ok cs.toArray w := run_loadCells_list (P := P) w ad cs hcs
  cases hq : P.info? ty with
  | none => simp [hq] at hi
  | some i =>
    have hs : i.size = cs.length := by simpa [hq] using hi
    have hagg : (isAgg ty).run P w = .ok true w := by
      unfold isAgg
      rw [Sem.run_bind, run_underlying hu w]
      cases d <;> simp_all
    simp [loadVar, Sem.run_bind, hagg, sizeOf, typeInfo, hq, hs, hl]
end
theorem size_u8 (w : World) : (sizeOf 5).run Tryz.prog w = .ok 1 w := by
  obtain ⟨i0, hi, hz0, hz1, hz2⟩ := info_parts info5
  simp [sizeOf, typeInfo, hi, hz1]


/-- What bytes are, opened. -/
def openB (b : List UInt8) : Except Nat (List UInt8) :=
  if b.length < 4 then .error 12
  else if b.drop (b.length - 4) = tailB (moreN 1 (b.take (b.length - 4))) then .ok (b.take (b.length - 4))
  else .error 11
/-- What Open hands back. -/
def OpenRet (base : Nat) (w : World) : Except Nat (List UInt8) → Ending → Prop
  | .error c, e => e = .returned (.tuple #[.slice none 0 0, errI c])
  | .ok r, e => ∃ v, e = .returned (.tuple #[v, .nilIface]) ∧ Owns base w v r

theorem open_short (x : Value) (b : List UInt8) (w : World) (hx : Slc w x b) (h : b.length < 4) :
    Calls Tryz.prog 23 #[x] w fun e w' => OpenRet w.heap.size w' (openB b) e ∧ Stay (fun _ => False) w w' := by
  obtain ⟨a0, c0, rfl, _⟩ := hx
  have HB := Lib.hid (show openB b = .error 12 by unfold openB; rw [if_pos h])
  go_enter Tryz.func23, Tryz.ntmps23
  go_wp2
  go_ret2
  exact ⟨by rw [HB.out]; rfl, Stay.refl _ _⟩

theorem eq_tail (w : World) (p q : List UInt8) (hp : p.length = 4) (hq : q.length = 4) : (Op.equalIn 10000 118 (.agg (cellsB p).toArray) (.agg (cellsB q).toArray)).run Tryz.prog w = .ok (p == q) w :=
  run_equalIn_bytes (P := Tryz.prog) w 9998 118 5 4 Tryz.underlying118 Tryz.underlying5 size_u8 p q hp hq

theorem array_at (w : World) (a : Option Addr) (c : Nat) : (Instr.arrayAt 118 (.slice a 4 c)).run Tryz.prog w = .ok (.pointer a) w := by
  simp [Instr.arrayAt, Sem.run_bind, run_underlying Tryz.underlying118]
theorem open_form {b : List UInt8} {n : Nat} (hn : b.length = n + 4) : openB b = if b.drop n = tailB (moreN 1 (b.take n)) then .ok (b.take n) else .error 11 := by
  unfold openB
  rw [if_neg (by omega), hn, Nat.add_sub_cancel]
theorem info_tail4 {l : List UInt8} (h : l.length = 4) : (Tryz.prog.info? 118).map (·.size) = some (cellsB l).length := by
  have := info_tail h
  simpa using this

set_option maxHeartbeats 1000000 in
theorem open_long (x : Value) (b : List UInt8) (w : World) (n : Nat) (hn : b.length = n + 4) (hx : Slc w x b) (hlen : (n : Int) ≤ 140737488355328) :
    Calls Tryz.prog 23 #[x] w fun e w' => OpenRet w.heap.size w' (openB b) e ∧ Stay (fun _ => False) w w' := by
  have HX := Lib.hid hx
  obtain ⟨a0, c0, rfl, hr, _, hc0, hcm⟩ := id hx
  obtain ⟨ad, rfl, hcell⟩ := hr (by omega)
  have hcut := (hx.cut (k := n) (by omega)).1
  rw [if_neg (by omega), Option.map_some, hn, Nat.add_sub_cancel_left] at hcut
  have hfst := hx.first (k := n) (by omega)
  have hdl : (b.drop n).length = 4 := by rw [List.length_drop]; omega
  have htl : (b.take n).length = n := by rw [List.length_take]; omega
  have hcn : ¬ c0 = n := by omega
  have hcc : (n : Int) + 4 ≤ c0 := by omega
  have hld : ∀ W, Stay (fun _ => False) w W → (loadVar 118 (ad.add n)).run Tryz.prog W = .ok (.agg (cellsB (b.drop n)).toArray) W := fun W hW =>
    run_loadVar_at W (ad.add n) 118 (cellsB (b.drop n)) _ Tryz.underlying118 rfl (info_tail4 hdl) (fun j v hv => by
      have h1 : (ad.add n).add j = ad.add (n + j) := by
        unfold Addr.add
        by_cases h1 : n = 0 <;> by_cases h2 : j = 0 <;> simp [h1, h2, Nat.add_assoc]
      rw [h1]
      refine (hW.cell (hcell (n + j) v (by rw [← hv]; simp [cellsB])) (fun x => x)))
  have HCUT := Lib.hid hcut
  have HF := Lib.hid hfst
  have HLD := Lib.hid hld
  have HDL := Lib.hid hdl
  have HTL := Lib.hid htl
  have HN := Lib.hid hn
  have hm := moreN_lt 1 (b.take n)
  rw [hn] at hx ⊢
  clear hx hcut hfst hr hcell hld hdl htl hc0
  have HNN := Lib.hid hn
  clear hn
  go_enter Tryz.func23, Tryz.ntmps23
  go_wp2_with fail
  obtain ⟨D, hDd⟩ : ∃ D : World → Prop, D = Stay (fun _ => False) w := ⟨_, rfl⟩
  have HD := Lib.hid (show ∀ W, D W → Stay (fun _ => False) w W by intro W h; rw [hDd] at h; exact h)
  have HDm := Lib.hid (show ∀ W, Stay (fun _ => False) w W → D W by intro W h; rw [hDd]; exact h)
  clear hDd
  have HN0 := Lib.hid (HDm.out _ (Stay.drew (w := w)))
  have karr := fun (w : World) (a : Option Addr) (c : Nat) => array_at w a c
  have k1 := fun i : InC D => HLD.out _ (HD.out _ i.h)
  have k2 := fun i : InC D => eq_tail i.w (b.drop n) (tailB (moreN 1 (b.take n))) HDL.out rfl
  have H1 := Lib.hid (show ∀ W, D W → Calls Tryz.prog 58 #[.slice (some ad) n c0] W fun e w' => e = .returned (.int .u32 ((moreN 1 (b.take n) : Nat) : Int)) ∧ D w' from fun W h => (sum_any (b.take n) _ W (HF.out.stay0 (HD.out W h))).mono fun e w' ⟨h1, h2⟩ => ⟨h1, h2 ▸ h⟩)
  have H2 := Lib.hid (show ∀ W, D W → Calls Tryz.prog 57 #[.int .u32 ((moreN 1 (b.take n) : Nat) : Int)] W fun e w' => e = .returned (.agg (cellsB (tailB (moreN 1 (b.take n)))).toArray) ∧ D w' from fun W h => (spell_any (moreN 1 (b.take n)) W (by omega)).mono fun e w' ⟨h1, h2⟩ => ⟨h1, HDm.out _ ((HD.out W h).trans h2)⟩)
  haveI : Nonempty (InC D) := ⟨⟨_, HN0.out⟩⟩
  refine wp_region_class D HN0.out (by kernel_rfl) (by kernel_rfl) ?_
  repeat (go_big_quiet_step ((first
    | with_reducible exact calls_class H1.out
    | with_reducible exact calls_class H2.out)))
  refine quiet_load rfl 118 (.tmp 14) rfl (ad.add n) rfl _ k1 ?_
  go_frame
  repeat (go_big_quiet_step ((first
    | with_reducible exact calls_class H1.out
    | with_reducible exact calls_class H2.out)))
  refine wpQuiet_nil ?_
  rintro W ⟨i, rfl⟩
  have hst := HD.out _ i.h
  clear k1 k2 karr
  generalize i.w = w9 at *
  have HS := Lib.hid hst
  have hn := HNN.out
  have hE0 := open_form hn
  clear hst
  by_cases hE : b.drop n = tailB (moreN 1 (b.take n))
  · have hb : (b.drop n == tailB (moreN 1 (b.take n))) = true := beq_iff_eq.2 hE
    have HO := Lib.hid (hE0.trans (if_pos hE))
    rw [hb]
    clear hE hE0 hn hb
    go_wp2_with fail
    have hcl := clone_slc w9 (.slice (some ad) n c0) (b.take n) (HF.out.stay0 HS.out) (by rw [HTL.out]; omega)
    refine hcl.mono ?_
    rintro e w10 ⟨v, rfl, how, hs10⟩
    have hfin := HS.out.trans hs10
    have how' := how.base (base' := w.heap.size) (fun k hk => Nat.le_trans HS.out.size (how.lt k hk).1)
    clear hcl how hs10
    go_wp2
    go_ret2
    exact ⟨by rw [HO.out]; exact ⟨v, rfl, how'⟩, hfin⟩
  · have hb : (b.drop n == tailB (moreN 1 (b.take n))) = false := beq_eq_false_iff_ne.2 hE
    have HO := Lib.hid (hE0.trans (if_neg hE))
    rw [hb]
    clear hE hE0 hn hb
    go_wp2
    go_ret2
    exact ⟨by rw [HO.out]; rfl, HS.out⟩

theorem open_any (x : Value) (b : List UInt8) (w : World) (hx : Slc w x b) (hlen : b.length ≤ 140737488355328) :
    Calls Tryz.prog 23 #[x] w fun e w' => OpenRet w.heap.size w' (openB b) e ∧ Stay (fun _ => False) w w' := by
  by_cases h : b.length < 4
  · exact open_short x b w hx h
  · exact open_long x b w (b.length - 4) (by omega) hx (by omega)

end Go.Proofs.YtahfgoafiepioaaGreatDoor.Hn

/-
  horner over pack's slices: the contract of the document's Open.
-/
namespace Go.Proofs.YtahfgoafiepioaaGreatDoor.Hn
open Go.RowKit Pk
set_option maxRecDepth 100000

/-- An error's number, and the bytes, 0 and none where there is none. -/
def codeB (b : List UInt8) : Nat := match openB b with | .error c => c | .ok _ => 0
def bodyB (b : List UInt8) : List UInt8 := match openB b with | .error _ => [] | .ok r => r
/-- What the document's Open hands back. -/
def ROpen (w : World) (b : List UInt8) (e : Ending) : Prop := ∃ v, e = .returned (.tuple #[v, .int .i64 (codeB b : Nat)]) ∧ Slc w v (bodyB b)

theorem seal_eq {b : List UInt8} {n : Nat} : (sealB (b.take n) = b) ↔ b.drop n = tailB (moreN 1 (b.take n)) := by
  unfold sealB
  constructor
  · intro h
    generalize moreN 1 (b.take n) = s at *
    have := List.take_append_drop n b
    have h2 : b.take n ++ tailB s = b.take n ++ b.drop n := by rw [h, this]
    exact (List.append_cancel_left h2).symm
  · intro h
    rw [← h, List.take_append_drop]

theorem ropen_short (x : Value) (b : List UInt8) (w : World) (hx : Slc w x b) (h : b.length < 4) :
    Calls Tryz.prog 32 #[x] w fun e w' => ROpen w' b e ∧ Stay (fun _ => False) w w' := by
  obtain ⟨a0, c0, rfl, _⟩ := hx
  have HB := Lib.hid (show openB b = .error 12 by unfold openB; rw [if_pos h])
  go_enter Tryz.func32, Tryz.ntmps32
  go_wp2
  go_ret2
  exact ⟨⟨_, by unfold codeB; rw [HB.out]; rfl, by unfold bodyB; rw [HB.out]; exact (Owns.nil 0 _).slc⟩, Stay.refl _ _⟩

theorem ropen_no {b : List UInt8} {n : Nat} {w : World} (hn : b.length = n + 4) (h : (!sealB (b.take n) == b) = true) : ROpen w b (.returned (.tuple #[.slice none 0 0, .int .i64 11])) := by
  have hE : ¬ b.drop n = tailB (moreN 1 (b.take n)) := by
    intro hE
    rw [← seal_eq] at hE
    simp [hE] at h
  have HB := (open_form hn).trans (if_neg hE)
  exact ⟨_, by unfold codeB; rw [HB]; rfl, by unfold bodyB; rw [HB]; exact (Owns.nil 0 _).slc⟩
theorem ropen_yes {b : List UInt8} {n : Nat} {w : World} {v : Value} (hn : b.length = n + 4) (h : (!sealB (b.take n) == b) = false) (hv : Slc w v (b.take n)) : ROpen w b (.returned (.tuple #[v, .int .i64 0])) := by
  have hE : b.drop n = tailB (moreN 1 (b.take n)) := by
    rw [← seal_eq]
    simpa using h
  have HB := (open_form hn).trans (if_pos hE)
  exact ⟨_, by unfold codeB; rw [HB]; rfl, by unfold bodyB; rw [HB]; exact hv⟩

set_option maxHeartbeats 1000000 in
theorem ropen_long (x : Value) (b : List UInt8) (w : World) (n : Nat) (hn : b.length = n + 4) (hx : Slc w x b) (hlen : (n : Int) ≤ 140737488355324) :
    Calls Tryz.prog 32 #[x] w fun e w' => ROpen w' b e ∧ Stay (fun _ => False) w w' := by
  have HX := Lib.hid hx
  obtain ⟨a0, c0, rfl, hr, _, hc0, hcm⟩ := id hx
  obtain ⟨ad, rfl, hcell⟩ := hr (by omega)
  have hfst := hx.first (k := n) (by omega)
  have htl : (b.take n).length = n := by rw [List.length_take]; omega
  have hcn : ¬ c0 = n := by omega
  have hcc : (n : Int) + 4 ≤ c0 := by omega
  have HF := Lib.hid hfst
  have HTL := Lib.hid htl
  have HN := Lib.hid hn
  rw [hn] at hx ⊢
  clear hfst hr hcell htl hc0
  have hconv := conv_slc (hx.stay0 (Stay.drew (w := w)))
  unfold strV at hconv
  have HXN := Lib.hid hx
  clear hx hn
  go_enter Tryz.func32, Tryz.ntmps32
  go_wp2_with fail
  go_region_with (go_at_call 75; refine (rseal_any _ (b.take n) _ (HF.out.stay0 Stay.drew) (by rw [HTL.out]; omega)).mono ?_; rintro e w1 ⟨v, rfl, how, hs1⟩; have hcv := conv_slc how.slc; have hcx := conv_slc (HXN.out.stay0 ((Stay.drew (w := w)).trans hs1)); have hT := (Stay.drew (X := fun _ => False) (w := w)).trans hs1; unfold strV at hcv hcx; clear how hs1)
  all_goals go_wp2
  all_goals
    go_ret2
    first
      | exact ⟨ropen_no HN.out (by assumption), hT⟩
      | exact ⟨ropen_yes HN.out (by assumption) (HF.out.stay0 hT), hT⟩

theorem ropen_any (x : Value) (b : List UInt8) (w : World) (hx : Slc w x b) (hlen : b.length ≤ 140737488355328) :
    Calls Tryz.prog 32 #[x] w fun e w' => ROpen w' b e ∧ Stay (fun _ => False) w w' := by
  by_cases h : b.length < 4
  · exact ropen_short x b w hx h
  · exact ropen_long x b w (b.length - 4) (by omega) hx (by omega)

end Go.Proofs.YtahfgoafiepioaaGreatDoor.Hn

/-
  horner: texts that differ only within three bytes that follow one another have unlike sums, as plain lists.
-/
namespace Go.Proofs.YtahfgoafiepioaaGreatDoor.Hn
open Go.RowKit Pk
set_option maxRecDepth 100000

/-- The first k of the three bytes from i on are other ones. -/
def nearB (b : List UInt8) (i : Nat) (y : Nat → UInt8) (k : Nat) : List UInt8 := b.mapIdx fun j c => if i ≤ j ∧ j < i + k then c ^^^ y (j - i) else c
theorem length_nearB (b : List UInt8) (i : Nat) (y : Nat → UInt8) (k : Nat) : (nearB b i y k).length = b.length := by simp [nearB]
theorem nearB_get (b : List UInt8) (i : Nat) (y : Nat → UInt8) (k j : Nat) : (nearB b i y k)[j]? = (b[j]?).map fun c => if i ≤ j ∧ j < i + k then c ^^^ y (j - i) else c := by
  unfold nearB
  rw [List.getElem?_mapIdx]
theorem nearB_zero (b : List UInt8) (i : Nat) (y : Nat → UInt8) : nearB b i y 0 = b := by
  apply List.ext_getElem?
  intro j
  rw [nearB_get]
  cases b[j]? with
  | none => rfl
  | some c => simp; omega
theorem nearB_at (b : List UInt8) (i : Nat) (y : Nat → UInt8) (k : Nat) : (nearB b i y k)[i + k]? = b[i + k]? := by
  rw [nearB_get]
  cases b[i + k]? with
  | none => rfl
  | some c => simp
theorem nearB_succ (b : List UInt8) (i : Nat) (y : Nat → UInt8) (k : Nat) (c : UInt8) (hc : b[i + k]? = some c) : nearB b i y (k + 1) = (nearB b i y k).set (i + k) (c ^^^ y k) := by
  apply List.ext_getElem?
  intro j
  rw [nearB_get, List.getElem?_set, nearB_get]
  by_cases h : i + k = j
  · subst h
    have hl : i + k < b.length := (List.getElem?_eq_some_iff.1 hc).1
    rw [if_pos rfl, if_pos (by rw [length_nearB]; exact hl), hc]
    simp
  · rw [if_neg h]
    cases b[j]? with
    | none => rfl
    | some d =>
      simp only [Option.map_some]
      by_cases h1 : i ≤ j ∧ j < i + k
      · rw [if_pos h1, if_pos (by omega)]
      · rw [if_neg h1, if_neg (by omega)]

/-- Whether one of the first k is another one. -/
def othB (y : Nat → UInt8) : Nat → Bool
  | 0 => false
  | k + 1 => othB y k || (y k != 0)

theorem xor_same {c d : UInt8} (h : (c ^^^ d).toNat = c.toNat) : d = 0 := by
  have h1 : c ^^^ d = c := UInt8.toNat_inj.1 h
  have h2 : c ^^^ (c ^^^ d) = c ^^^ c := by rw [h1]
  rw [← UInt8.xor_assoc, UInt8.xor_self, UInt8.zero_xor] at h2
  exact h2

theorem fold_inj (l : List UInt8) : ∀ n m : Nat, n < 2147483647 → m < 2147483647 → l.foldl (fun n c => (n * 257 + c.toNat) % 2147483647) n = l.foldl (fun n c => (n * 257 + c.toNat) % 2147483647) m → n = m := by
  induction l with
  | nil => exact fun n m _ _ h => h
  | cons c r ih =>
    intro n m hn hm h
    simp only [List.foldl_cons] at h
    have h1 := ih _ _ (Nat.mod_lt _ (by decide)) (Nat.mod_lt _ (by decide)) h
    clear ih h
    omega

theorem near_one (N a c : Nat) (ha : a < 256) (hc : c < 256) (h : (N * 257 + a) % 2147483647 = (N * 257 + c) % 2147483647) : a = c := by omega
theorem near_cancel (X p q : Nat) (hp : p < 2147483647) (hq : q < 2147483647) (h : (X + p) % 2147483647 = (X + q) % 2147483647) : p = q := by omega
theorem ring3 (X a b : Nat) : (X * 257 + a) * 257 + b = X * 66049 + (a * 257 + b) := by omega
theorem ring4 (N a p : Nat) : (N * 257 + a) * 66049 + p = N * 16974593 + (a * 66049 + p) := by omega
theorem near_two (N a0 a1 c0 c1 : Nat) (h0 : a0 < 256) (h1 : a1 < 256) (k0 : c0 < 256) (k1 : c1 < 256) (h : ((N * 257 + a0) % 2147483647 * 257 + a1) % 2147483647 = ((N * 257 + c0) % 2147483647 * 257 + c1) % 2147483647) : a0 = c0 ∧ a1 = c1 := by
  rw [mm, mm] at h
  have e3 : (N * 257 + a0) * 257 + a1 = N * 66049 + (a0 * 257 + a1) := by omega
  have e4 : (N * 257 + c0) * 257 + c1 = N * 66049 + (c0 * 257 + c1) := by omega
  rw [e3, e4] at h
  have := near_cancel _ _ _ (by omega) (by omega) h
  clear h e3 e4
  omega
theorem near_three (N a0 a1 a2 c0 c1 c2 : Nat) (h0 : a0 < 256) (h1 : a1 < 256) (h2 : a2 < 256) (k0 : c0 < 256) (k1 : c1 < 256) (k2 : c2 < 256)
    (h : (((N * 257 + a0) % 2147483647 * 257 + a1) % 2147483647 * 257 + a2) % 2147483647 = (((N * 257 + c0) % 2147483647 * 257 + c1) % 2147483647 * 257 + c2) % 2147483647) : a0 = c0 ∧ a1 = c1 ∧ a2 = c2 := by
  rw [mm, mm, ring3, ring3, mm, mm, ring4, ring4] at h
  have := near_cancel _ _ _ (by omega) (by omega) h
  clear h
  omega

theorem nearB_app (p r : List UInt8) (y : Nat → UInt8) (k : Nat) : nearB (p ++ r) p.length y k = p ++ nearB r 0 y k := by
  apply List.ext_getElem?
  intro j
  rw [nearB_get]
  by_cases h : j < p.length
  · rw [List.getElem?_append_left h, List.getElem?_append_left h]
    rw [List.getElem?_eq_getElem h]
    simp
    omega
  · rw [List.getElem?_append_right (by omega), List.getElem?_append_right (by omega), nearB_get]
    cases r[j - p.length]? with
    | none => rfl
    | some c =>
      simp only [Option.map_some]
      by_cases h1 : j < p.length + k
      · rw [if_pos ⟨by omega, h1⟩, if_pos ⟨by omega, by omega⟩]
        congr 3
      · rw [if_neg (by omega), if_neg (by omega)]

theorem rest_one (c : UInt8) (r : List UInt8) (y : Nat → UInt8) : nearB (c :: r) 0 y 1 = (c ^^^ y 0) :: r := by
  apply List.ext_getElem?
  intro j
  rw [nearB_get]
  cases j with
  | zero => simp
  | succ j =>
    simp only [List.getElem?_cons_succ]
    cases r[j]? with
    | none => rfl
    | some d => simp
theorem rest_two (c d : UInt8) (r : List UInt8) (y : Nat → UInt8) : nearB (c :: d :: r) 0 y 2 = (c ^^^ y 0) :: (d ^^^ y 1) :: r := by
  apply List.ext_getElem?
  intro j
  rw [nearB_get]
  match j with
  | 0 => simp
  | 1 => simp
  | j + 2 =>
    simp only [List.getElem?_cons_succ]
    cases r[j]? with
    | none => rfl
    | some d => simp; omega
theorem rest_three (c d e : UInt8) (r : List UInt8) (y : Nat → UInt8) : nearB (c :: d :: e :: r) 0 y 3 = (c ^^^ y 0) :: (d ^^^ y 1) :: (e ^^^ y 2) :: r := by
  apply List.ext_getElem?
  intro j
  rw [nearB_get]
  match j with
  | 0 => simp
  | 1 => simp
  | 2 => simp
  | j + 3 =>
    simp only [List.getElem?_cons_succ]
    cases r[j]? with
    | none => rfl
    | some d => simp; omega

theorem oth_one {y : Nat → UInt8} : othB y 1 = (y 0 != 0) := by simp [othB]
theorem oth_two {y : Nat → UInt8} : othB y 2 = (y 0 != 0 || y 1 != 0) := by simp [othB]
theorem oth_three {y : Nat → UInt8} : othB y 3 = (y 0 != 0 || y 1 != 0 || y 2 != 0) := by simp [othB]

/-- Where none is another one. -/
theorem near_none {y : Nat → UInt8} : ∀ {k : Nat}, othB y k = false → ∀ j, j < k → y j = 0
  | 0, _, j, hj => by omega
  | k + 1, h, j, hj => by
    simp only [othB, Bool.or_eq_false_iff] at h
    by_cases e : j = k
    · subst e
      simpa using h.2
    · exact near_none h.1 j (by omega)
theorem near_same {b : List UInt8} {i k : Nat} {y : Nat → UInt8} (h : othB y k = false) : nearB b i y k = b := by
  apply List.ext_getElem?
  intro j
  rw [nearB_get]
  cases b[j]? with
  | none => rfl
  | some c =>
    simp only [Option.map_some]
    by_cases h1 : i ≤ j ∧ j < i + k
    · rw [if_pos h1, near_none h _ (by omega), UInt8.xor_zero]
    · rw [if_neg h1]

/-- Unlike texts have unlike sums. -/
theorem near_unlike {b : List UInt8} {i m : Nat} {y : Nat → UInt8} (s : Nat) (hm : 0 < m) (hm3 : m ≤ 3) (hi : i + m ≤ b.length) (h : othB y m = true) : moreN s (nearB b i y m) ≠ moreN s b := by
  intro he
  obtain ⟨p, r, rfl, rfl⟩ : ∃ p r, b = p ++ r ∧ i = p.length := ⟨b.take i, b.drop i, (List.take_append_drop i b).symm, by rw [List.length_take]; omega⟩
  rw [nearB_app, moreN_app, moreN_app, moreN_small (moreN_lt s p), moreN_small (moreN_lt s p)] at he
  rw [List.length_append] at hi
  have hN := moreN_lt s p
  generalize moreN s p = N at he hN
  have lt := fun c : UInt8 => c.toNat_lt
  have hr : m ≤ r.length := by omega
  clear hi
  rcases (by omega : m = 1 ∨ m = 2 ∨ m = 3) with rfl | rfl | rfl
  · obtain ⟨c, r, rfl⟩ : ∃ c r', r = c :: r' := by
      cases r with
      | nil => simp at hr
      | cons c r => exact ⟨c, r, rfl⟩
    rw [rest_one] at he
    have := fold_inj r _ _ (Nat.mod_lt _ (by decide)) (Nat.mod_lt _ (by decide)) he
    have := xor_same (near_one N _ _ (lt _) (lt _) this)
    rw [oth_one, this] at h
    exact absurd h (by decide)
  · obtain ⟨c, d, r, rfl⟩ : ∃ c d r', r = c :: d :: r' := by
      match r, hr with
      | c :: d :: r, _ => exact ⟨c, d, r, rfl⟩
    rw [rest_two] at he
    have := fold_inj r _ _ (Nat.mod_lt _ (by decide)) (Nat.mod_lt _ (by decide)) he
    obtain ⟨e0, e1⟩ := near_two N _ _ _ _ (lt _) (lt _) (lt _) (lt _) this
    rw [oth_two, xor_same e0, xor_same e1] at h
    exact absurd h (by decide)
  · obtain ⟨c, d, e, r, rfl⟩ : ∃ c d e r', r = c :: d :: e :: r' := by
      match r, hr with
      | c :: d :: e :: r, _ => exact ⟨c, d, e, r, rfl⟩
    rw [rest_three] at he
    have := fold_inj r _ _ (Nat.mod_lt _ (by decide)) (Nat.mod_lt _ (by decide)) he
    obtain ⟨e0, e1, e2⟩ := near_three N _ _ _ _ _ _ (lt _) (lt _) (lt _) (lt _) (lt _) (lt _) this
    rw [oth_three, xor_same e0, xor_same e1, xor_same e2] at h
    exact absurd h (by decide)

theorem ofNat_inj {a b : Nat} (ha : a < 256) (hb : b < 256) (h : UInt8.ofNat a = UInt8.ofNat b) : a = b := by
  have := congrArg UInt8.toNat h
  simp at this
  omega
theorem tail_inj {s t : Nat} (hs : s < 2147483647) (ht : t < 2147483647) (h : tailB s = tailB t) : s = t := by
  unfold tailB at h
  simp only [List.cons.injEq, and_true] at h
  obtain ⟨h0, h1, h2, h3⟩ := h
  have e0 := ofNat_inj (Nat.mod_lt _ (by decide)) (Nat.mod_lt _ (by decide)) h0
  have e1 := ofNat_inj (Nat.mod_lt _ (by decide)) (Nat.mod_lt _ (by decide)) h1
  have e2 := ofNat_inj (Nat.mod_lt _ (by decide)) (Nat.mod_lt _ (by decide)) h2
  have e3 := ofNat_inj (Nat.mod_lt _ (by decide)) (Nat.mod_lt _ (by decide)) h3
  clear h0 h1 h2 h3
  omega

/-- What Open tells of a text with another one's sum. -/
theorem near_code {b x : List UInt8} (hl : x.length = b.length) (oth : Bool) (h0 : oth = false → x = b) (h1 : oth = true → moreN 1 x ≠ moreN 1 b) : codeB (x ++ tailB (moreN 1 b)) = if oth then 11 else 0 := by
  have hn : (x ++ tailB (moreN 1 b)).length = b.length + 4 := by rw [List.length_append, hl, length_tailB]
  have hd : (x ++ tailB (moreN 1 b)).drop b.length = tailB (moreN 1 b) := by rw [← hl]; simp
  have ht : (x ++ tailB (moreN 1 b)).take b.length = x := by rw [← hl]; simp
  unfold codeB
  rw [open_form hn, hd, ht]
  cases oth with
  | false => rw [h0 rfl, if_pos rfl]; rfl
  | true =>
    rw [if_neg (fun h => h1 rfl (tail_inj (moreN_lt _ _) (moreN_lt _ _) h).symm)]
    rfl

end Go.Proofs.YtahfgoafiepioaaGreatDoor.Hn

