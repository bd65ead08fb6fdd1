import Derived.Test.YtljlfdhjolcnaaaGreatGaK
import Derived.BigQuiet
import Derived.Deep.QuietTactic
import Derived.LoopTactic
import Derived.Lib.SlBytesConst
import Derived.Test.YtljlfdhjolcnaaaGreatGrowz
import Derived.Test.YtljlfdhjolcnaaaGreatClassz
import Derived.Stop.BytesEq
/-
  horner: sums by Horner's rule, as plain numbers.
-/
namespace Go.Proofs.YtljlfdhjolcnaaaGreat.Hn

/-- A sum, and bytes behind it. -/
def moreN (s : Nat) (l : List UInt8) : Nat := l.foldl (fun n c => (n * 257 + c.toNat) % 2147483647) (s % 2147483647)
theorem moreN_snoc (s : Nat) (l : List UInt8) (c : UInt8) : moreN s (l ++ [c]) = (moreN s l * 257 + c.toNat) % 2147483647 := by simp [moreN, List.foldl_append]
theorem fold_lt (l : List UInt8) : ∀ n, n < 2147483647 → l.foldl (fun n c => (n * 257 + c.toNat) % 2147483647) n < 2147483647 := by
  induction l with
  | nil => exact fun n h => h
  | cons c r ih => exact fun n _ => ih _ (Nat.mod_lt _ (by decide))
theorem moreN_lt (s : Nat) (l : List UInt8) : moreN s l < 2147483647 := fold_lt l _ (Nat.mod_lt _ (by decide))
theorem mm (a b c : Nat) : (a % 2147483647 * b + c) % 2147483647 = (a * b + c) % 2147483647 := by
  rw [Nat.add_mod, Nat.mul_mod, Nat.mod_mod, ← Nat.mul_mod, ← Nat.add_mod]
end Go.Proofs.YtljlfdhjolcnaaaGreat.Hn

/-
  horner: the contracts of More, Sum, power, Join, and the document's More and Sum.
-/
namespace Go.Proofs.YtljlfdhjolcnaaaGreat.Hn
open Go.RowKit Pk
set_option maxRecDepth 100000

def u32V (n : Nat) : Value := .int .u32 (n : Int)
set_option maxHeartbeats 1000000 in
theorem more_any (s : Nat) (b : List UInt8) (x : Value) (w : World) (hs : (s : Int) ≤ 4294967295) (hx : Slc w x b) :
    Calls Tryz.prog 118 #[.int .u32 s, x] w fun e w' => e = .returned (u32V (moreN s b)) ∧ w = w' := by
  obtain ⟨a0, cap, rfl, hr, hn, hcap, hm⟩ := hx
  have hbl : (b.length : Int) ≤ 9223372036854775806 ∨ (b.length : Int) = 9223372036854775807 := by omega
  have HR := Lib.hid hr
  clear hr hn
  unfold u32V
  go_enter Tryz.func118, Tryz.ntmps118
  go_wp2
  go_loop [5, 13] (fun n i => ∃ j : Nat, j ≤ b.length ∧ i = .int .i64 j ∧ n = .int .u64 ((moreN s (b.take j) : Nat) : Int)) (fun _ i => b.length - (intOf i).toNat)
  case atStart => exact ⟨0, Nat.zero_le _, rfl, rfl⟩
  case round =>
    obtain ⟨j, hj, rfl, rfl⟩ := hrel
    have hlt0 := moreN_lt s (b.take j)
    have HL := Lib.hid (show b.take b.length = b from List.take_length)
    by_cases hlt : j < b.length
    · obtain ⟨c, hc⟩ : ∃ c, b[j]? = some c := ⟨_, List.getElem?_eq_getElem hlt⟩
      obtain ⟨ad, rfl, hcell⟩ := HR.out (by omega)
      have hcj := hcell j (byteV c) (by simp [cellsB, hc])
      unfold byteV at hcj
      have HS := Lib.hid (show moreN s (b.take (j + 1)) = (moreN s (b.take j) * 257 + c.toNat) % 2147483647 by rw [List.take_add_one, hc]; exact moreN_snoc _ _ _)
      have hcb := c.toNat_lt
      clear hc hcell
      generalize moreN s (b.take j) = F at *
      go_wp2
      go_round
      case rel => exact ⟨j + 1, by omega, by go_num, by rw [HS.out]; congr 1⟩
      case measure => simp [intOf]; omega
    · obtain rfl : b.length = j := by omega
      rw [HL.out] at *
      go_wp2
      go_ret
      exact ⟨rfl, rfl⟩

theorem sum_any (b : List UInt8) (x : Value) (w : World) (hx : Slc w x b) :
    Calls Tryz.prog 83 #[x] w fun e w' => e = .returned (u32V (moreN 1 b)) ∧ w = w' := by
  unfold u32V
  go_enter Tryz.func83, Tryz.ntmps83
  go_wp2_with fail
  refine (more_any 1 b x w (by decide) hx).mono ?_
  rintro e w' ⟨rfl, rfl⟩
  go_wp2
  go_ret
  exact ⟨rfl, rfl⟩
def u64V (n : Nat) : Value := .int .u64 (n : Int)
/-- An error by its number. -/
def errI (c : Nat) : Value := .iface 66 (.int .i64 (c : Int))

def lessN (a : Nat) : Nat := (a + 2147483646) % 2147483647
theorem less_eq (a : Nat) : ((a : Int) + 2147483647 - 1) % 2147483647 = (lessN a : Int) := by unfold lessN; omega
end Go.Proofs.YtljlfdhjolcnaaaGreat.Hn

/-
  horner over pack's slices: the contracts of spell, Grow and Concat.
-/
namespace Go.Proofs.YtljlfdhjolcnaaaGreat.Hn
open Go.RowKit Pk
set_option maxRecDepth 100000

/-- A sum as its bytes. -/
def tailB (s : Nat) : List UInt8 := [UInt8.ofNat (s % 256), UInt8.ofNat (s / 256 % 256), UInt8.ofNat (s / 65536 % 256), UInt8.ofNat (s / 16777216 % 256)]
theorem length_tailB (s : Nat) : (tailB s).length = 4 := rfl
theorem toNat_mod (s : Nat) : (UInt8.ofNat (s % 256)).toNat = s % 256 := by simp

theorem tail_vals {s : Nat} (hs : (s : Int) ≤ 4294967295) : (cellsB (tailB s)).toArray = #[.int .u8 ((s : Int) % 256), .int .u8 ((s : Int) / 256 % 256), .int .u8 ((s : Int) / 65536 % 256), .int .u8 ((s : Int) / 16777216)] := by
  simp only [cellsB, tailB, List.map_cons, List.map_nil, byteV, toNat_mod]
  have h3 : s / 16777216 % 256 = s / 16777216 := by omega
  rw [h3]
  simp
theorem info_tail {l : List UInt8} (h : l.length = 4) : (Tryz.prog.info? 142).map (·.size) = some (cellsB l).toArray.size := by
  rw [List.size_toArray, length_cellsB, h]
  kernel_rfl
/-- A whole tail out of cells that are known. -/
theorem load_tail {w : World} {g o : Nat} {t : TypeId} {S : Array Value} {fr : Nat × Nat} {l : List UInt8} (hl : l.length = 4) (hg : w.heap[g]? = some (.cells S t fr)) (hc : ∀ j, j < 4 → S[o + j]? = (cellsB l).toArray[j]?) :
    (loadVar 142 ⟨g, o, none⟩).run Tryz.prog w = .ok (.agg (cellsB l).toArray) w :=
  run_loadVar_mid (P := Tryz.prog) w g o t 142 S (cellsB l).toArray fr _ hg Tryz.underlying142 rfl (info_tail hl) (fun j hj => hc j (by rw [List.size_toArray, length_cellsB, hl] at hj; exact hj))

theorem spell_any (s : Nat) (w : World) (hs : (s : Int) ≤ 4294967295) :
    Calls Tryz.prog 82 #[.int .u32 s] w fun e w' => e = .returned (.agg (cellsB (tailB s)).toArray) ∧ Stay (fun _ => False) w w' := by
  have HT := Lib.hid (tail_vals hs)
  go_enter Tryz.func82, Tryz.ntmps82
  go_wp2
  refine wp_loop_rounds 5 ?_
  repeat any_goals (rw [rounds_succ]; go_wp2)
  rw [← HT.out]
  have hld := load_tail (l := tailB s) rfl (show ((w.alloc (.cells (cellsB (tailB s)).toArray 142)).alloc (.cells (cellsB (tailB s)).toArray 142)).heap[w.heap.size]? = _ from (Below.heap_alloc _ _ _ (by simp)).trans (heap_alloc_new w _)) (o := 0) (fun j _ => by rw [Nat.zero_add])
  exact bodyPost_ret (v := .agg (cellsB (tailB s)).toArray) (by simp [results, Tryz.results82, asAddr, hld]) rfl ⟨rfl, (Stay.alloc _ _).trans (Stay.alloc _ _)⟩

theorem grow_nil (n : Nat) (w : World) (hn : n ≤ 140737488355328) :
    Calls Tryz.prog 119 #[.slice none 0 0, .int .i64 n] w fun e w' => ∃ v, e = .returned v ∧ Owns w.heap.size w' v [] ∧ Stay (fun _ => False) w w' := by
  obtain ⟨i0, hi, hz0, hz1, hz2⟩ := info_parts info5
  rcases Nat.eq_zero_or_pos n with h0 | h0
  · exact (Any8.slices_Grow_room Tryz.growA none 0 0 n w (Nat.le_refl _) (by decide) (by omega) (by omega)).mono fun e w' ⟨h1, h2⟩ => ⟨_, h1, Owns.nil _ _, h2 ▸ Stay.refl _ _⟩
  · refine (Any8.slices_Grow_grow Tryz.growA i0 _ hi hz0 (by omega) none 0 0 n [] w (Nat.le_refl _) (by omega) (by rw [hz2]; omega) (by omega) (by simp) (fun _ => rfl) (fun a e => by cases e)).mono fun e w' ⟨h1, h2⟩ => ?_
    have hgc := grownCap_ge w (0 + n) 0 5
    have hg := heap_alloc_new w.drew (.cells (([] : List Value).toArray ++ Builtin.zeroCells (Value.int .u8 0).cells (0 + n - 0) ++ Builtin.zeroCells (Value.int .u8 0).cells (grownCap w (0 + n) 0 5 - (0 + n))) 5)
    subst h2
    refine ⟨_, h1, ⟨rfl, .inr ⟨w.heap.size, _, _, rfl, Nat.le_refl _, hg, Nat.zero_le _, grownCap_le_maxLen _ _ _ _ (by unfold maxLen; omega), ?_, rfl⟩⟩, Stay.drew.trans (Stay.alloc _ _)⟩
    simp [size_zeroCells, Value.cells]
    show n + (grownCap w n 0 5 - n) = grownCap w n 0 5
    rw [Nat.zero_add] at hgc
    omega

/-- slices.Concat of two. -/
theorem concat_any (g : Nat) (x y : Value) (a b : List UInt8) (w : World) (fr : Nat × Nat) (hg : w.heap[g]? = some (.cells #[x, y] 56 fr)) (hx : Slc w x a) (hy : Slc w y b) (hlen : a.length + b.length ≤ 140737488355328) :
    Calls Tryz.prog 84 #[.slice (some ⟨g, 0, none⟩) 2 2] w fun e w' => ∃ v, e = .returned v ∧ Owns w.heap.size w' v (a ++ b) ∧ Stay (fun _ => False) w w' := by
  obtain ⟨i0, hi, hz0, hz1, hz2⟩ := info_parts info5
  have HI := Lib.hid hi
  have HZ0 := Lib.hid hz0
  have HZ1 := Lib.hid hz1
  have HZ2 := Lib.hid hz2
  have HX := Lib.hid hx
  have HY := Lib.hid hy
  obtain ⟨a0, c0, rfl, _⟩ := hx
  obtain ⟨a1, c1, rfl, _⟩ := hy
  have k0 : w.cell? ⟨g, 0, none⟩ = some (.slice a0 a.length c0) := cell_of_row w g 0 _ _ fr hg
  have k1 : w.cell? ⟨g, 1, none⟩ = some (.slice a1 b.length c1) := cell_of_row w g 1 _ _ fr hg
  have HKW := Lib.hid k1
  have e0 : ((a.length : Int) + (b.length : Int)) = ((a.length + b.length : Nat) : Int) := by omega
  have E0 := Lib.hid e0
  clear hi hz0 hz1 hz2 hg e0
  go_enter Tryz.func84, Tryz.ntmps84
  go_wp2
  refine wp_loop_rounds 3 ?_
  repeat any_goals (rw [rounds_succ]; go_wp2_with fail)
  rw [E0.out]
  refine (grow_nil (a.length + b.length) w hlen).mono ?_
  rintro e w1 ⟨v, rfl, how, hst⟩
  have k0' := hst.cell k0 (fun x => x)
  have k1' := hst.cell k1 (fun x => x)
  have hxl := HX.out.stay0 hst
  have hyl := HY.out.stay0 hst
  have hsz := hst.size
  have HO := Lib.hid how
  have HT := Lib.hid hst
  obtain ⟨av, cv, hv⟩ := how.form
  subst hv
  clear k0 k1 how hst
  go_wp2_with fail
  refine wp_loop_rounds 3 ?_
  rw [rounds_succ]
  go_wp2_with (at_builtin; refine wpList_append_slc rfl (.tmp 31) (.tmp 32) 56 rfl w.heap.size i0 Tryz.underlying56 HI.out HZ0.out HZ1.out HZ2.out _ (.slice a0 a.length c0) [] a rfl rfl HO.out hxl (by simp; omega) hsz ?_; intro v2 w2 hown2 hgr2 hnn2)
  have hT2 : Stay (fun _ => False) w w2 := stay_seal (X := fun k => w.heap.size ≤ k) ((HT.out.mono (fun _ x => x.elim)).trans (Stay.grown (X := fun k => w.heap.size ≤ k) hgr2 (fun k e => (HO.out.lt k e).1))) (fun k hk => hk)
  have k1'' := hT2.cell (HKW.out) (fun x => x)
  have hyl2 := HY.out.stay0 hT2
  have hsz2 := hT2.size
  have HO2 := Lib.hid hown2
  have HT2 := Lib.hid hT2
  rw [List.nil_append] at hown2
  obtain ⟨av2, cv2, hv2⟩ := hown2.form
  subst hv2
  clear hxl hyl k0' k1' hown2 hgr2 hnn2 hT2
  go_wp2_with fail
  rw [rounds_succ]
  go_wp2_with (at_builtin; refine wpList_append_slc rfl (.tmp 31) (.tmp 32) 56 rfl w.heap.size i0 Tryz.underlying56 HI.out HZ0.out HZ1.out HZ2.out (.slice av2 a.length cv2) (.slice a1 b.length c1) a b rfl rfl HO2.out hyl2 hlen hsz2 ?_; intro v3 w3 hown3 hgr3 hnn3)
  have hT3 : Stay (fun _ => False) w w3 := stay_seal (X := fun k => w.heap.size ≤ k) ((HT2.out.mono (fun _ x => x.elim)).trans (Stay.grown (X := fun k => w.heap.size ≤ k) hgr3 (fun k e => (HO2.out.lt k e).1))) (fun k hk => hk)
  clear hgr3 hnn3 hyl2
  go_wp2_with fail
  rw [rounds_succ]
  go_wp2
  go_ret
  exact ⟨v3, rfl, hown3, hT3⟩

end Go.Proofs.YtljlfdhjolcnaaaGreat.Hn

/-
  horner over pack's slices: the contracts of Seal and the document's Seal.
-/
namespace Go.Proofs.YtljlfdhjolcnaaaGreat.Hn
open Go.RowKit Pk
set_option maxRecDepth 100000

/-- Bytes and their sum. -/
def sealB (b : List UInt8) : List UInt8 := b ++ tailB (moreN 1 b)
theorem length_sealB (b : List UInt8) : (sealB b).length = b.length + 4 := by simp [sealB, length_tailB]

/-- A block that holds a tail. -/
def TailAt (w : World) (g : Nat) (l : List UInt8) : Prop := w.heap[g]? = some (.cells (cellsB l).toArray 142 (0, 0))
theorem TailAt.slc {w : World} {g : Nat} {l : List UInt8} (h : TailAt w g l) (hl : l.length ≤ 9223372036854775807) : Slc w (.slice (some ⟨g, 0, none⟩) l.length l.length) l := by
  refine ⟨_, _, rfl, fun _ => ⟨_, rfl, fun j v hv => ?_⟩, (fun h => by cases h), Nat.le_refl _, hl⟩
  rw [add_at, Nat.zero_add, cell_of_row _ _ _ _ _ _ h]
  simpa using hv
theorem store_tail {ops : Array Oper} {rest : List Oper} {o : Oper} {a : Act} {w : World} {Q : Exit → Act → World → Prop} (hgd : o.guard = none) (x y : Operand) (ho : o.op = .store 142 x y)
    (g : Nat) (hx : a.eval x = .pointer (some ⟨g, 0, none⟩)) (l0 l : List UInt8) (hy : a.eval y = .agg (cellsB l).toArray) (hl0 : l0.length = 4) (hl : l.length = 4) (hg : TailAt w g l0)
    (hn : ∀ w', TailAt w' g l → Stay (· = g) w w' → wpList Tryz.prog ops Q rest (a.put o.dst undef) w') : wpList Tryz.prog ops Q (o :: rest) a w :=
  wpList_store_mid hgd 142 x y ho g 0 hx 142 (cellsB l0) (cellsB l) hy hg (by have := info_tail hl; simpa using this) (by rw [length_cellsB, length_cellsB, hl, hl0]; exact Nat.le_refl _) (oneCell_cellsB _)
    (fun w' h1 h2 => hn w' (by
      have e : splice (cellsB l0) 0 (cellsB l) = cellsB l := by
        unfold splice
        rw [List.take_zero, List.nil_append, Nat.zero_add, length_cellsB, hl, List.drop_eq_nil_of_le (by rw [length_cellsB, hl0]; exact Nat.le_refl _), List.append_nil]
      rw [e] at h1
      exact h1) h2)

theorem seal_any (x : Value) (b : List UInt8) (w : World) (hx : Slc w x b) (hlen : b.length + 4 ≤ 140737488355328) :
    Calls Tryz.prog 50 #[x] w fun e w' => ∃ v, e = .returned v ∧ Owns w.heap.size w' v (sealB b) ∧ Stay (fun _ => False) w w' := by
  have HX := Lib.hid hx
  have hm := moreN_lt 1 b
  obtain ⟨a0, c0, rfl, _⟩ := hx
  go_enter Tryz.func50, Tryz.ntmps50
  go_wp2_with fail
  refine (sum_any b _ _ HX.out).mono ?_
  rintro e w' ⟨rfl, rfl⟩
  unfold u32V
  go_wp2_with fail
  refine (spell_any (moreN 1 b) _ (by omega)).mono ?_
  rintro e w1 ⟨rfl, hst⟩
  have h0 : TailAt (w1.alloc (.cells #[.int .u8 0, .int .u8 0, .int .u8 0, .int .u8 0] 142)) w1.heap.size [0, 0, 0, 0] := heap_alloc_new w1 _
  have H0 := Lib.hid h0
  have hszz := hst.size
  clear h0
  go_wp2_with (refine store_tail rfl (.tmp 3) (.tmp 6) rfl w1.heap.size rfl [0, 0, 0, 0] (tailB (moreN 1 b)) rfl rfl rfl H0.out ?_; intro w2 hT2 hs2; have HT2 := Lib.hid hT2; have hst2 := hst.trans (stay_seal (X := fun k => k = w1.heap.size) ((Stay.alloc _ _).trans hs2) (fun k e => by omega)); clear hT2 hs2)
  have hb := heap_alloc_new w2 (.cells #[.slice a0 b.length c0, .slice (some ⟨w1.heap.size, 0, none⟩) 4 4] 56)
  refine (concat_any _ _ _ b (tailB (moreN 1 b)) _ _ hb ((HX.out.stay0 hst2).alloc _) ((HT2.out.slc (by rw [length_tailB]; decide)).alloc _) hlen).mono ?_
  rintro e w3 ⟨v, rfl, how, hs3⟩
  have hst3 := (hst2.trans (Stay.alloc _ _)).trans hs3
  have how3 := how.base (base' := w.heap.size) (fun k hk => by have := (how.lt k hk).1; have := hst2.size; simp at *; omega)
  clear hb how hs3 hst2
  go_wp2
  go_ret
  exact ⟨_, rfl, how3, hst3⟩

end Go.Proofs.YtljlfdhjolcnaaaGreat.Hn

/-
  horner over pack's slices: the contract of Open.
-/
namespace Go.Proofs.YtljlfdhjolcnaaaGreat.Hn
open Go.RowKit Pk
set_option maxRecDepth 100000

section
variable {P : Program}
theorem run_loadVar_at (w : World) (ad : Addr) (ty : TypeId) (cs : List Value) (d : TypeDesc)
    (hu : P.underlying ty = some d) (hd : (match d with | .struct _ | .array _ _ => true | _ => false) = true) (hi : (P.info? ty).map (·.size) = some cs.length)
    (hcs : ∀ j v, cs[j]? = some v → w.cell? (ad.add j) = some v) :
    (loadVar ty ad).run P w = .ok (.agg cs.toArray) w := by
  have hl : (loadCells ad cs.length).run P w = .ok cs.toArray w := run_loadCells_list (P := P) w ad cs hcs
  cases hq : P.info? ty with
  | none => simp [hq] at hi
  | some i =>
    have hs : i.size = cs.length := by simpa [hq] using hi
    have hagg : (isAgg ty).run P w = .ok true w := by
      unfold isAgg
      rw [Sem.run_bind, run_underlying hu w]
      cases d <;> simp_all
    simp [loadVar, Sem.run_bind, hagg, sizeOf, typeInfo, hq, hs, hl]
end
theorem size_u8 (w : World) : (sizeOf 5).run Tryz.prog w = .ok 1 w := by
  obtain ⟨i0, hi, hz0, hz1, hz2⟩ := info_parts info5
  simp [sizeOf, typeInfo, hi, hz1]


/-- What bytes are, opened. -/
def openB (b : List UInt8) : Except Nat (List UInt8) :=
  if b.length < 4 then .error 12
  else if b.drop (b.length - 4) = tailB (moreN 1 (b.take (b.length - 4))) then .ok (b.take (b.length - 4))
  else .error 11
/-- What Open hands back. -/
def OpenRet (base : Nat) (w : World) : Except Nat (List UInt8) → Ending → Prop
  | .error c, e => e = .returned (.tuple #[.slice none 0 0, errI c])
  | .ok r, e => ∃ v, e = .returned (.tuple #[v, .nilIface]) ∧ Owns base w v r

theorem open_short (x : Value) (b : List UInt8) (w : World) (hx : Slc w x b) (h : b.length < 4) :
    Calls Tryz.prog 52 #[x] w fun e w' => OpenRet w.heap.size w' (openB b) e ∧ Stay (fun _ => False) w w' := by
  obtain ⟨a0, c0, rfl, _⟩ := hx
  have HB := Lib.hid (show openB b = .error 12 by unfold openB; rw [if_pos h])
  go_enter Tryz.func52, Tryz.ntmps52
  go_wp2
  go_ret2
  exact ⟨by rw [HB.out]; rfl, Stay.refl _ _⟩

theorem eq_tail (w : World) (p q : List UInt8) (hp : p.length = 4) (hq : q.length = 4) : (Op.equalIn 10000 142 (.agg (cellsB p).toArray) (.agg (cellsB q).toArray)).run Tryz.prog w = .ok (p == q) w :=
  run_equalIn_bytes (P := Tryz.prog) w 9998 142 5 4 Tryz.underlying142 Tryz.underlying5 size_u8 p q hp hq

theorem array_at (w : World) (a : Option Addr) (c : Nat) : (Instr.arrayAt 142 (.slice a 4 c)).run Tryz.prog w = .ok (.pointer a) w := by
  simp [Instr.arrayAt, Sem.run_bind, run_underlying Tryz.underlying142]
theorem open_form {b : List UInt8} {n : Nat} (hn : b.length = n + 4) : openB b = if b.drop n = tailB (moreN 1 (b.take n)) then .ok (b.take n) else .error 11 := by
  unfold openB
  rw [if_neg (by omega), hn, Nat.add_sub_cancel]
theorem info_tail4 {l : List UInt8} (h : l.length = 4) : (Tryz.prog.info? 142).map (·.size) = some (cellsB l).length := by
  have := info_tail h
  simpa using this

set_option maxHeartbeats 1000000 in
theorem open_long (x : Value) (b : List UInt8) (w : World) (n : Nat) (hn : b.length = n + 4) (hx : Slc w x b) (hlen : (n : Int) ≤ 140737488355328) :
    Calls Tryz.prog 52 #[x] w fun e w' => OpenRet w.heap.size w' (openB b) e ∧ Stay (fun _ => False) w w' := by
  have HX := Lib.hid hx
  obtain ⟨a0, c0, rfl, hr, _, hc0, hcm⟩ := id hx
  obtain ⟨ad, rfl, hcell⟩ := hr (by omega)
  have hcut := (hx.cut (k := n) (by omega)).1
  rw [if_neg (by omega), Option.map_some, hn, Nat.add_sub_cancel_left] at hcut
  have hfst := hx.first (k := n) (by omega)
  have hdl : (b.drop n).length = 4 := by rw [List.length_drop]; omega
  have htl : (b.take n).length = n := by rw [List.length_take]; omega
  have hcn : ¬ c0 = n := by omega
  have hcc : (n : Int) + 4 ≤ c0 := by omega
  have hld : ∀ W, Stay (fun _ => False) w W → (loadVar 142 (ad.add n)).run Tryz.prog W = .ok (.agg (cellsB (b.drop n)).toArray) W := fun W hW =>
    run_loadVar_at W (ad.add n) 142 (cellsB (b.drop n)) _ Tryz.underlying142 rfl (info_tail4 hdl) (fun j v hv => by
      have h1 : (ad.add n).add j = ad.add (n + j) := by
        unfold Addr.add
        by_cases h1 : n = 0 <;> by_cases h2 : j = 0 <;> simp [h1, h2, Nat.add_assoc]
      rw [h1]
      refine (hW.cell (hcell (n + j) v (by rw [← hv]; simp [cellsB])) (fun x => x)))
  have HCUT := Lib.hid hcut
  have HF := Lib.hid hfst
  have HLD := Lib.hid hld
  have HDL := Lib.hid hdl
  have HTL := Lib.hid htl
  have HN := Lib.hid hn
  have hm := moreN_lt 1 (b.take n)
  rw [hn] at hx ⊢
  clear hx hcut hfst hr hcell hld hdl htl hc0
  have HNN := Lib.hid hn
  clear hn
  go_enter Tryz.func52, Tryz.ntmps52
  go_wp2_with fail
  obtain ⟨D, hDd⟩ : ∃ D : World → Prop, D = Stay (fun _ => False) w := ⟨_, rfl⟩
  have HD := Lib.hid (show ∀ W, D W → Stay (fun _ => False) w W by intro W h; rw [hDd] at h; exact h)
  have HDm := Lib.hid (show ∀ W, Stay (fun _ => False) w W → D W by intro W h; rw [hDd]; exact h)
  clear hDd
  have HN0 := Lib.hid (HDm.out _ (Stay.drew (w := w)))
  have karr := fun (w : World) (a : Option Addr) (c : Nat) => array_at w a c
  have k1 := fun i : InC D => HLD.out _ (HD.out _ i.h)
  have k2 := fun i : InC D => eq_tail i.w (b.drop n) (tailB (moreN 1 (b.take n))) HDL.out rfl
  have H1 := Lib.hid (show ∀ W, D W → Calls Tryz.prog 83 #[.slice (some ad) n c0] W fun e w' => e = .returned (.int .u32 ((moreN 1 (b.take n) : Nat) : Int)) ∧ D w' from fun W h => (sum_any (b.take n) _ W (HF.out.stay0 (HD.out W h))).mono fun e w' ⟨h1, h2⟩ => ⟨h1, h2 ▸ h⟩)
  have H2 := Lib.hid (show ∀ W, D W → Calls Tryz.prog 82 #[.int .u32 ((moreN 1 (b.take n) : Nat) : Int)] W fun e w' => e = .returned (.agg (cellsB (tailB (moreN 1 (b.take n)))).toArray) ∧ D w' from fun W h => (spell_any (moreN 1 (b.take n)) W (by omega)).mono fun e w' ⟨h1, h2⟩ => ⟨h1, HDm.out _ ((HD.out W h).trans h2)⟩)
  haveI : Nonempty (InC D) := ⟨⟨_, HN0.out⟩⟩
  refine wp_region_class D HN0.out (by kernel_rfl) (by kernel_rfl) ?_
  repeat (go_big_quiet_step ((first
    | with_reducible exact calls_class H1.out
    | with_reducible exact calls_class H2.out)))
  refine quiet_load rfl 142 (.tmp 14) rfl (ad.add n) rfl _ k1 ?_
  go_frame
  repeat (go_big_quiet_step ((first
    | with_reducible exact calls_class H1.out
    | with_reducible exact calls_class H2.out)))
  refine wpQuiet_nil ?_
  rintro W ⟨i, rfl⟩
  have hst := HD.out _ i.h
  clear k1 k2 karr
  generalize i.w = w9 at *
  have HS := Lib.hid hst
  have hn := HNN.out
  have hE0 := open_form hn
  clear hst
  by_cases hE : b.drop n = tailB (moreN 1 (b.take n))
  · have hb : (b.drop n == tailB (moreN 1 (b.take n))) = true := beq_iff_eq.2 hE
    have HO := Lib.hid (hE0.trans (if_pos hE))
    rw [hb]
    clear hE hE0 hn hb
    go_wp2_with fail
    have hcl := clone_slc w9 (.slice (some ad) n c0) (b.take n) (HF.out.stay0 HS.out) (by rw [HTL.out]; omega)
    refine hcl.mono ?_
    rintro e w10 ⟨v, rfl, how, hs10⟩
    have hfin := HS.out.trans hs10
    have how' := how.base (base' := w.heap.size) (fun k hk => Nat.le_trans HS.out.size (how.lt k hk).1)
    clear hcl how hs10
    go_wp2
    go_ret2
    exact ⟨by rw [HO.out]; exact ⟨v, rfl, how'⟩, hfin⟩
  · have hb : (b.drop n == tailB (moreN 1 (b.take n))) = false := beq_eq_false_iff_ne.2 hE
    have HO := Lib.hid (hE0.trans (if_neg hE))
    rw [hb]
    clear hE hE0 hn hb
    go_wp2
    go_ret2
    exact ⟨by rw [HO.out]; rfl, HS.out⟩

theorem open_any (x : Value) (b : List UInt8) (w : World) (hx : Slc w x b) (hlen : b.length ≤ 140737488355328) :
    Calls Tryz.prog 52 #[x] w fun e w' => OpenRet w.heap.size w' (openB b) e ∧ Stay (fun _ => False) w w' := by
  by_cases h : b.length < 4
  · exact open_short x b w hx h
  · exact open_long x b w (b.length - 4) (by omega) hx (by omega)

end Go.Proofs.YtljlfdhjolcnaaaGreat.Hn

