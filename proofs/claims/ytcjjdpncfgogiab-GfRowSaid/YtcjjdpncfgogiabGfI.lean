/-
  GfRow, walked: how often each number is a product.
-/
import Derived.Test.YtcjjdpncfgogiabGfE
import Derived.Test.YtcjjdpncfgogiabLaw
namespace Go.Proofs.Ytcjjdpncfgogiab.Gf
open Go.RowKit
set_option maxRecDepth 100000

/-- How many of the first k numbers have that product. -/
def cntN (a : Nat) : Nat → Nat → Nat
  | 0, _ => 0
  | k + 1, p => if p = mulN a k then cntN a k p + 1 else cntN a k p
theorem cnt_le (a : Nat) : ∀ k p, cntN a k p ≤ k
  | 0, _ => Nat.le_refl _
  | k + 1, p => by
    have := cnt_le a k p
    unfold cntN
    split <;> omega
theorem cnt_up (a k i : Nat) : putN (cntN a k) (mulN a k) (cntN a k (mulN a k) + 1) i = cntN a (k + 1) i := by
  show (if i = mulN a k then cntN a k (mulN a k) + 1 else cntN a k i) = if i = mulN a k then cntN a k i + 1 else cntN a k i
  by_cases e : i = mulN a k
  · rw [if_pos e, if_pos e, e]
  · rw [if_neg e, if_neg e]
theorem cnt_zero : ∀ k, cntN 0 k 0 = k
  | 0 => rfl
  | k + 1 => by
    unfold cntN
    rw [zero_mulN, if_pos rfl, cnt_zero k]
theorem cnt_one {a p : Nat} (h0 : a ≠ 0) (hp : p < 256) : ∀ k, k ≤ 256 → cntN a k p = if mulN (invN a) p < k then 1 else 0
  | 0, _ => by rw [if_neg (by omega)]; rfl
  | k + 1, hk => by
    unfold cntN
    rw [cnt_one h0 hp k (by omega)]
    by_cases e : p = mulN a k
    · have ek : mulN (invN a) p = k := by rw [e, mulN_assoc, mulN_comm (invN a) a, mul_inv h0, mulN_comm, mulN_one (by omega)]
      rw [if_pos e, ek, if_neg (by omega), if_pos (by omega)]
    · have ek : mulN (invN a) p ≠ k := by
        intro x
        apply e
        rw [← x, mulN_assoc, mul_inv h0, mulN_comm, mulN_one hp]
      rw [if_neg e]
      by_cases hl : mulN (invN a) p < k
      · rw [if_pos hl, if_pos (by omega)]
      · rw [if_neg hl, if_neg (by omega)]
theorem cnt_all {a p : Nat} (h0 : a ≠ 0) (hp : p < 256) : cntN a 256 p = 1 := by rw [cnt_one h0 hp 256 (by omega), if_pos (mulN_lt _ _)]

/-- The counts in memory. -/
def countsC (f : Nat → Nat) : List Value := (List.range 256).map (fun i => Value.int .i64 (f i : Int))
def NAt (w : World) (g : Nat) (f : Nat → Nat) : Prop := w.heap[g]? = some (.cells (countsC f).toArray 24 (0, 0))
section
variable {w : World} {g : Nat} {f : Nat → Nat}
theorem NAt.lt (h : NAt w g f) : g < w.heap.size := (Array.getElem?_eq_some_iff.1 h).1
theorem NAt.fr (h : NAt w g f) (i : Nat) : w.frozen? ⟨g, i, none⟩ = false := frozen_of_row w g i _ _ h
theorem NAt.c (h : NAt w g f) {i : Nat} (hi : i < 256) : w.cell? ⟨g, i, none⟩ = some (.int .i64 (f i : Int)) := by
  rw [cell_of_row w g i _ _ _ h]
  simp only [List.getElem?_toArray]
  exact map_get _ hi
theorem NAt.stay {X : Nat → Prop} {w' : World} (h : NAt w g f) (hs : Stay X w w') (hx : ¬ X g) : NAt w' g f := (hs.block g h.lt hx).trans h
theorem NAt.set (h : NAt w g f) {i : Nat} (hi : i < 256) (v : Nat) : NAt (w.setCell ⟨g, i, none⟩ (.int .i64 (v : Int))) g (putN f i v) := by
  unfold NAt
  rw [heap_setCell_same w g i _ _ _ h]
  simp only [List.setIfInBounds_toArray]
  congr 3
  unfold countsC
  apply List.ext_getElem?
  intro j
  rw [List.getElem?_set]
  by_cases e : i = j
  · subst e
    simp [putN, hi]
  · rw [if_neg e]
    by_cases hj : j < 256
    · rw [map_get _ hj, map_get _ hj]
      unfold putN
      rw [if_neg (fun x => e x.symm)]
    · rw [List.getElem?_eq_none (by simp; omega), List.getElem?_eq_none (by simp; omega)]
theorem NAt.congr {f' : Nat → Nat} (h : NAt w g f) (e : ∀ i, i < 256 → f i = f' i) : NAt w g f' := by
  unfold NAt at *
  rw [h]
  congr 3
  exact List.map_congr_left (fun i hi => by rw [e i (List.mem_range.1 hi)])
end
theorem zero_counts (w : World) : (zeroValue 24).run Try.prog w = .ok (.agg (countsC (fun _ => 0)).toArray) w := by kernel_rfl
theorem alloc_counts {ops : Array Oper} {rest : List Oper} {o : Oper} {a : Act} {w : World} {Q : Exit → Act → World → Prop} (hgd : o.guard = none) (ho : o.op = .alloc 24)
    (hn : ∀ w', NAt w' w.heap.size (fun _ => 0) → Stay (fun _ => False) w w' → wpList Try.prog ops Q rest (a.put o.dst (.pointer (some ⟨w.heap.size, 0, none⟩))) w') : wpList Try.prog ops Q (o :: rest) a w :=
  wpList_alloc_at hgd 24 ho _ (zero_counts _) (hn _ (heap_alloc_new w _) (Stay.alloc _ _))

theorem DF.keepAt {w0 w : World} (h : DF w0 w) {g : Nat} (h1 : w0.heap.size < g) {a : Addr} {v : Value} (ha : a.block = g) : DF w0 (w.setCell a v) :=
  ⟨h.f.stay (Stay.setCell (X := fun k => k = g) w a v ha) (fun (e : w0.heap.size = g) => absurd e (Nat.ne_of_lt h1)), h.s.andThen (Stay.setCell (X := fun k => k = g) w a v ha) (fun i hi (e : i = g) => by omega)⟩
set_option maxHeartbeats 4000000 in
theorem row_walk (w : World) (a : Nat) (ha : a < 256) :
    Calls Try.prog 3 #[.int .u8 (a : Int)] w fun e w' => e = .returned (.bool true) ∧ Stay (fun _ => False) w w' := by
  have HA := Lib.hid ha
  clear ha
  go_enter Try.func3, Try.ntmps3
  go_wp2_with fail
  refine (new_D w).mono ?_
  rintro e w1 ⟨rfl, h1⟩
  have H1 := Lib.hid h1
  clear h1
  go_wp2_with (with_reducible refine alloc_counts rfl rfl ?_; intro w2 h2 s2)
  have hg : w.heap.size < w1.heap.size := H1.out.f.lt
  obtain ⟨g, hgg⟩ : ∃ g, g = w1.heap.size := ⟨_, rfl⟩
  rw [← hgg] at h2 hg
  simp only [← hgg]
  have H2 := Lib.hid h2
  have D2 := Lib.hid (H1.out.keep s2)
  have HG := Lib.hid hg
  clear h2 s2 hg hgg
  go_loopw [5] (fun i wr => ∃ k : Nat, k ≤ 256 ∧ i = .int .i64 (k : Int) ∧ NAt wr g (cntN a k) ∧ DF w wr) (fun i _ => 256 - (intOf i).toNat)
  case atStart => exact ⟨0, by omega, rfl, H2.out, D2.out⟩
  case round =>
    obtain ⟨k, hk, rfl, hs, hd⟩ := hrel
    by_cases hlt : k < 256
    · have q0 : (k : Int) < 256 := by omega
      have HS := Lib.hid hs
      have HD := Lib.hid hd
      have HK := Lib.hid hlt
      clear hs hd hk hlt
      go_wp2_with fail
      refine (mul_any wr w.heap.size a k HA.out HK.out HD.out.f).mono ?_
      rintro e w3 ⟨rfl, f3, s3⟩
      have H3 := Lib.hid (HS.out.stay s3 (fun e => by have := HG.out; omega))
      have D3 := Lib.hid (HD.out.turn f3 s3)
      clear f3 s3
      obtain ⟨p, hp⟩ : ∃ p, p = mulN a k := ⟨_, rfl⟩
      have hp1 : p < 256 := hp ▸ mulN_lt a k
      rw [← hp]
      have q1 : (p : Int) < 256 := by omega
      have hc := H3.out.c hp1
      have hf := H3.out.fr p
      obtain ⟨c, hcc⟩ : ∃ c, c = cntN a k p := ⟨_, rfl⟩
      have hc1 : c ≤ k := hcc ▸ cnt_le a k p
      rw [← hcc] at hc
      have q2 : (c : Int) < 256 := by have := HK.out; omega
      have HP := Lib.hid hp
      have HP1 := Lib.hid hp1
      have HCC := Lib.hid hcc
      clear hp hp1 hcc hc1
      go_wp2_with fail
      refine (rmul_any w3 a k HA.out HK.out).mono ?_
      rintro e w4 ⟨rfl, e4⟩
      subst e4
      rw [← HP.out]
      go_wp2
      have hk := HK.out
      refine ⟨⟨k + 1, by omega, by go_num, ?_, D3.out.keepAt HG.out rfl⟩, by simp [intOf]; omega⟩
      refine (H3.out.set HP1.out (c + 1)).congr (fun i _ => ?_)
      rw [HCC.out, HP.out]
      exact cnt_up a k i
    · obtain rfl : k = 256 := by omega
      have HS := Lib.hid hs
      have HD := Lib.hid hd
      clear hs hd hk hlt
      by_cases h0 : a = 0
      · have e0 : ((a : Int) == 0) = true := by simp [h0]
        have e1 : ((a : Int) != 0) = false := by simp [h0]
        have hc := HS.out.c (i := 0) (by omega)
        rw [h0, cnt_zero] at hc
        clear h0
        go_wp2
        go_loopw [7] (fun i wx => ∃ k : Nat, k ≤ 256 ∧ i = .int .i64 (k : Int) ∧ wx = wr) (fun i _ => 256 - (intOf i).toNat)
        case atStart => exact ⟨0, by omega, rfl, rfl⟩
        case round =>
          obtain ⟨k, hk, rfl, rfl⟩ := hrel
          by_cases hlt : k < 256
          · have q0 : (k : Int) < 256 := by omega
            have HK := Lib.hid hlt
            clear hk hlt
            go_wp2
            have hk := HK.out
            exact ⟨⟨k + 1, by omega, by go_num, trivial⟩, by simp [intOf]; omega⟩
          · obtain rfl : k = 256 := by omega
            clear hk hlt
            go_wp2_with fail
            refine (sure_D HD.out).mono ?_
            rintro e w9 ⟨rfl, h9⟩
            go_wp2
            go_ret
            exact ⟨rfl, h9.s⟩
      · have e0 : ((a : Int) == 0) = false := by simp; omega
        have e1 : ((a : Int) != 0) = true := by simp; omega
        have hc : ∀ i, i < 256 → wr.cell? ⟨g, i, none⟩ = some (.int .i64 1) := by
          intro i hi
          have h := HS.out.c hi
          rw [cnt_all h0 hi] at h
          exact h
        have HC := Lib.hid hc
        clear h0 hc
        go_wp2
        go_loopw [7] (fun i wx => ∃ k : Nat, k ≤ 256 ∧ i = .int .i64 (k : Int) ∧ wx = wr) (fun i _ => 256 - (intOf i).toNat)
        case atStart => exact ⟨0, by omega, rfl, rfl⟩
        case round =>
          obtain ⟨k, hk, rfl, rfl⟩ := hrel
          by_cases hlt : k < 256
          · have q0 : (k : Int) < 256 := by omega
            have HK := Lib.hid hlt
            have c1 := HC.out k hlt
            clear hk hlt
            go_wp2
            have hk := HK.out
            exact ⟨⟨k + 1, by omega, by go_num, trivial⟩, by simp [intOf]; omega⟩
          · obtain rfl : k = 256 := by omega
            clear hk hlt
            go_wp2_with fail
            refine (sure_D HD.out).mono ?_
            rintro e w9 ⟨rfl, h9⟩
            go_wp2
            go_ret
            exact ⟨rfl, h9.s⟩
end Go.Proofs.Ytcjjdpncfgogiab.Gf
