/-
  DevKept: the walk.
-/
import Derived.Test.YtmbckgebakfceaaKeptFacts
import Derived.BigQuiet
import Derived.Deep.QuietTactic
namespace Go.Proofs.Ytmbckgebakfceaa
open Go.RowKit Go.Maps

/-- A device of four sectors that nothing has befallen. -/
structure Ok4 (d : DS) (k : Int) : Prop where
  n : d.n = 4
  cr : d.cr = false
  lo : d.lo = false
  ar : d.ar = false
  w0 : 0 ≤ d.wr
  w1 : d.wr ≤ k

theorem Ok4.wrote {d : DS} {k : Int} (h : Ok4 d k) (i : Nat) (l : List UInt8) : Ok4 (d.wrote i l) (k + 1) :=
  ⟨h.n, h.cr, h.lo, h.ar, by have := h.w0; simp [DS.wrote]; omega, by have := h.w1; simp [DS.wrote]; omega⟩
theorem Ok4.flushed {d : DS} {k : Int} (h : Ok4 d k) : Ok4 d.flushed k := ⟨h.n, h.cr, h.lo, h.ar, h.w0, h.w1⟩

def d1 (f : Nat → UInt8) : Nat → DS
  | 0 => fresh 4
  | i + 1 => (d1 f i).wrote i [f i]
theorem d1_ok (f : Nat → UInt8) : ∀ i, Ok4 (d1 f i) i
  | 0 => ⟨rfl, rfl, rfl, rfl, Int.le_refl _, Int.le_refl _⟩
  | i + 1 => by have := (d1_ok f i).wrote i [f i]; simpa [d1] using this

/-- Four bytes in a block. -/
def four (f : Nat → UInt8) : Array Value := #[byteV (f 0), byteV (f 1), byteV (f 2), byteV (f 3)]
theorem four_at (f : Nat → UInt8) (i : Nat) (h : i < 4) : (four f)[i]? = some (byteV (f i)) := by
  match i, h with
  | 0, _ => rfl
  | 1, _ => rfl
  | 2, _ => rfl
  | 3, _ => rfl

theorem reads_four {w : World} {b : Nat} {f : Nat → UInt8} {t : TypeId} (hb : w.heap[b]? = some (.cells (four f) t (0, 0))) (i : Nat) (h : i < 4) : ReadsAs w (some ⟨b, i, none⟩) [f i] := by
  intro _
  refine ⟨_, rfl, fun j v hv => ?_⟩
  rw [add_at, cell_of_row _ _ _ _ _ _ hb]
  have : j = 0 := by
    rcases j with _ | j
    · rfl
    · simp [cellsB] at hv
  subst this
  rw [Nat.add_zero, four_at f i h]
  simpa [cellsB] using hv

theorem len4 : Try.prog.arrayLen 42 = 4 := by kernel_rfl
theorem under4 : Try.prog.underlying 42 = some (.array (Try.prog.arrayLen 42) (Try.prog.elem 42)) := by kernel_rfl
theorem size4 (w : World) : (sizeOf (Try.prog.elem 42)).run Try.prog w = .ok 1 w := by kernel_rfl

theorem slice_four (b i : Nat) (hi : i < 4) (w : World) :
    (Instr.sliceAt 42 (.pointer (some ⟨b, 0, none⟩)) (some (.int .i64 (i : Int))) (some (.int .i64 ((i : Int) + 1))) none).run Try.prog w = .ok (.slice (some ⟨b, i, none⟩) 1 (4 - i)) w := by
  rw [run_sliceAt_array_lh w 42 ⟨b, 0, none⟩ under4 .i64 .i64 (i : Int) ((i : Int) + 1) (by omega) (by omega) (by rw [len4]; omega), size4, len4]
  have e1 : ((i : Int) + 1).toNat = i + 1 := by omega
  have e2 : ¬ 4 = i := by omega
  simp [Result.andThen, slicedAt, e1, e2, add_at]

/-- Where the walk stands: the device, and that nothing else has turned since it was made. -/
def KInv (w1 : World) (pd ps pm : Nat) (D : DS) (wr : World) : Prop := DevAt wr pd ps pm D ∧ Stay (own pd ps pm) w1 wr

/-- A slice of marks that reads as ks. -/
def ReadsK (w : World) (kp : Option Addr) (ks : List Bool) : Prop :=
  ks.length ≤ 9223372036854775807 ∧ (0 < ks.length → ∃ kb ko, kp = some ⟨kb, ko, none⟩ ∧ kb < w.heap.size ∧ ∀ j, j < ks.length → w.cell? ⟨kb, ko + j, none⟩ = some (.bool (ks.getD j false)))

/-- Start, with whatever marks. -/
theorem start_gen (w : World) (pd ps pm : Nat) (d : DS) (kp : Option Addr) (cap : Nat) (ks : List Bool) (h : DevAt w pd ps pm d) (hlo : d.lo = false) {w0 : World} (hk : ReadsK w0 kp ks) (hst : Stay (own pd ps pm) w0 w) (hno : ∀ k, k < w0.heap.size → ¬ own pd ps pm k) :
    Calls Try.prog 10 #[.pointer (some ⟨pd, 0, none⟩), .slice kp ks.length cap] w fun e w' => e = .returned (.tuple #[]) ∧ DevAt w' pd ps pm (d.started ks) ∧ Stay (own pd ps pm) w w' := by
  by_cases h0 : 0 < ks.length
  · obtain ⟨kb, ko, rfl, hlt, hc⟩ := hk.2 h0
    exact start_any w pd ps pm d kb ko cap ks h hlo (fun j hj => hst.cell (hc j hj) (hno kb hlt)) (hno kb hlt) hk.1
  · obtain rfl : ks = [] := List.eq_nil_of_length_eq_zero (by omega)
    by_cases hkl : keysL d.L d.n = []
    · exact start_idle w pd ps pm d kp cap [] h hlo hkl
    · exact start_nil w pd ps pm d kp cap h hlo hkl

theorem kept_index (kb ko n cap i : Nat) (hi : i < n) (w : World) :
    (Instr.indexAt 35 (.slice (some ⟨kb, ko, none⟩) n cap) (.int .i64 (i : Int))).run Try.prog w = .ok (.pointer (some ⟨kb, ko + i, none⟩)) w := by
  have h1 : (0 : Int) ≤ (i : Int) ∧ (i : Int) < (n : Int) := by omega
  have hs : ∀ w : World, (sizeOf (Try.prog.elem 35)).run Try.prog w = .ok 1 w := fun _ => by kernel_rfl
  rw [run_indexAt_slice w 35 ⟨kb, ko, none⟩ n cap .i64 (i : Int) (by kernel_rfl)]
  simp [h1, hs, Result.andThen, add_at]

def cnt (g : Nat → UInt8) : Nat → Nat
  | 0 => 0
  | i + 1 => if g i = 0 then cnt g i else cnt g i + 1
theorem cnt_le (g : Nat → UInt8) : ∀ i, cnt g i ≤ i
  | 0 => Nat.le_refl _
  | i + 1 => by have := cnt_le g i; unfold cnt; split <;> omega

def d2 (f g : Nat → UInt8) : Nat → DS
  | 0 => (d1 f 4).flushed
  | i + 1 => if g i = 0 then d2 f g i else (d2 f g i).wrote i [g i]
theorem d2_ok (f g : Nat → UInt8) : ∀ i, Ok4 (d2 f g i) (4 + i)
  | 0 => (d1_ok f 4).flushed
  | i + 1 => by
    have h := d2_ok f g i
    unfold d2
    split
    · exact ⟨h.n, h.cr, h.lo, h.ar, h.w0, by have := h.w1; omega⟩
    · have := h.wrote i [g i]
      exact ⟨this.n, this.cr, this.lo, this.ar, this.w0, by have := this.w1; omega⟩

def want (f g : Nat → UInt8) (ks : List Bool) : Nat → (Nat → UInt8)
  | 0 => fun _ => 0
  | i + 1 => fun j => if j = i then (if g i ≠ 0 ∧ ks.getD (cnt g i) false = true then g i else f i) else want f g ks i j

theorem set_four (h : Nat → UInt8) (i : Nat) (hi : i < 4) (x : UInt8) : (four h).setIfInBounds i (.int .u8 (x.toNat : Int)) = four (fun j => if j = i then x else h j) := by
  match i, hi with
  | 0, _ => rfl
  | 1, _ => rfl
  | 2, _ => rfl
  | 3, _ => rfl

theorem zero_four (w : World) : (zeroValue 42).run Try.prog w = .ok (.agg (four fun _ => 0)) w := by kernel_rfl

/-- The second loop's standing. -/
def KRel (w1 : World) (pd ps pm bw : Nat) (f g : Nat → UInt8) (ks : List Bool) (i : Nat) (wr : World) : Prop :=
  DevAt wr pd ps pm (d2 f g i) ∧ Stay (fun k => own pd ps pm k ∨ k = bw) w1 wr ∧ wr.heap[bw]? = some (.cells (four (want f g ks i)) 42 (0, 0))

theorem d1_cur (f : Nat → UInt8) (j : Nat) : ∀ i, (d1 f i).cur j = if j < i then pad [f j] else zsec
  | 0 => by simp [d1, fresh, DS.cur, none64]
  | i + 1 => by
    have ih := d1_cur f j i
    simp only [d1]
    by_cases h : j = i
    · subst h; rw [cur_wrote_same, if_pos (by omega)]
    · rw [cur_wrote_other _ _ _ _ h, ih]
      by_cases h2 : j < i
      · rw [if_pos h2, if_pos (by omega)]
      · rw [if_neg h2, if_neg (by omega)]

theorem d2_s (f g : Nat → UInt8) : ∀ i, (d2 f g i).s = (d1 f 4).cur
  | 0 => rfl
  | i + 1 => by
    have ih := d2_s f g i
    unfold d2
    split
    · exact ih
    · exact ih

theorem d2_L (f g : Nat → UInt8) (j : Nat) : ∀ i, (d2 f g i).L j = if j < i ∧ g j ≠ 0 then some (pad [g j]) else none
  | 0 => by simp [d2, DS.flushed, none64]
  | i + 1 => by
    have ih := d2_L f g j i
    unfold d2
    by_cases hg : g i = 0
    · rw [if_pos hg, ih]
      by_cases h : j = i
      · subst h; simp [hg]
      · by_cases hlt : j < i
        · have hlt' : j < i + 1 := by omega
          simp [hlt, hlt']
        · rw [if_neg (fun e => hlt e.1), if_neg (fun e => hlt (by have := e.1; omega))]
    · rw [if_neg hg]
      by_cases h : j = i
      · subst h; simp [DS.wrote, updL, hg]
      · have e1 : ((d2 f g i).wrote i [g i]).L j = (d2 f g i).L j := by simp [DS.wrote, updL, h]
        rw [e1, ih]
        by_cases hlt : j < i
        · have hlt' : j < i + 1 := by omega
          simp [hlt, hlt']
        · rw [if_neg (fun e => hlt e.1), if_neg (fun e => hlt (by have := e.1; omega))]

theorem keys_d2 (f g : Nat → UInt8) : keysL (d2 f g 4).L (d2 f g 4).n = (List.range 4).filter (fun j => decide (g j ≠ 0)) := by
  rw [(d2_ok f g 4).n]
  unfold keysL
  refine List.filter_congr (fun j hj => ?_)
  have : j < 4 := List.mem_range.1 hj
  rw [d2_L]
  by_cases h : g j = 0 <;> simp [h, this]

theorem cnt_len (g : Nat → UInt8) : ∀ i, ((List.range i).filter (fun j => decide (g j ≠ 0))).length = cnt g i
  | 0 => rfl
  | i + 1 => by
    rw [List.range_succ, List.filter_append, List.length_append, cnt_len g i]
    simp only [cnt]
    by_cases h : g i = 0 <;> simp [h]

theorem cnt_lt (g : Nat → UInt8) (j : Nat) (hg : g j ≠ 0) : ∀ i, j < i → cnt g j < cnt g i
  | 0, h => by omega
  | i + 1, h => by
    by_cases hji : j = i
    · subst hji; rw [cnt, if_neg hg]; omega
    · have ih := cnt_lt g j hg i (by omega)
      conv => rhs; unfold cnt
      split <;> omega

theorem cnt_getD (g : Nat → UInt8) (j : Nat) (hg : g j ≠ 0) : ∀ i, j < i → ((List.range i).filter (fun j => decide (g j ≠ 0))).getD (cnt g j) 0 = j
  | 0, h => by omega
  | i + 1, h => by
    rw [List.range_succ, List.filter_append]
    by_cases hji : j = i
    · subst hji
      rw [List.getD_eq_getElem?_getD, List.getElem?_append_right (by rw [cnt_len]; exact Nat.le_refl _), cnt_len]
      simp [hg]
    · have ih := cnt_getD g j hg i (by omega)
      have hlt : cnt g j < ((List.range i).filter (fun j => decide (g j ≠ 0))).length := by
        rw [cnt_len]; exact cnt_lt g j hg i (by omega)
      rw [List.getD_eq_getElem?_getD] at ih ⊢
      rw [List.getElem?_append_left hlt]; exact ih

theorem kept_len (f g : Nat → UInt8) : (keysL (d2 f g 4).L (d2 f g 4).n).length = cnt g 4 := by rw [keys_d2, cnt_len]

theorem want_at (f g : Nat → UInt8) (ks : List Bool) (j : Nat) : ∀ i, j < i → want f g ks i j = if g j ≠ 0 ∧ ks.getD (cnt g j) false = true then g j else f j
  | 0, h => by omega
  | i + 1, h => by
    simp only [want]
    by_cases hji : j = i
    · subst hji; rw [if_pos rfl]
    · rw [if_neg hji]; exact want_at f g ks j i (by omega)

theorem kept_cur (f g : Nat → UInt8) (ks : List Bool) (j : Nat) (hj : j < 4) : ((d2 f g 4).started ks).cur j = pad [want f g ks 4 j] := by
  rw [want_at f g ks j 4 hj]
  have hs : (d2 f g 4).s j = pad [f j] := by rw [d2_s, d1_cur, if_pos hj]
  by_cases hg : g j = 0
  · rw [started_miss _ _ _ (by rw [d2_L, if_neg (fun h => h.2 hg)]), hs, if_neg (fun h => h.1 hg)]
  · have hk := keys_d2 f g
    have hlt : cnt g j < (keysL (d2 f g 4).L (d2 f g 4).n).length := by
      rw [kept_len]; exact cnt_lt g j hg 4 hj
    rw [started_hit _ ks j (cnt g j) hlt (by rw [hk]; exact cnt_getD g j hg 4 hj) (pad [g j]) (by rw [d2_L, if_pos ⟨hj, hg⟩]), hs]
    by_cases hb : ks.getD (cnt g j) false = true
    · rw [if_pos hb, if_pos ⟨hg, hb⟩]
    · rw [if_neg hb, if_neg (fun h => hb h.2)]

theorem krel_cell {w1 : World} {pd ps pm bw : Nat} {f g : Nat → UInt8} {ks : List Bool} {i : Nat} {wr : World} (h : KRel w1 pd ps pm bw f g ks i wr) (j : Nat) (hj : j < 4) :
    wr.cell? ⟨bw, j, none⟩ = some (.int .u8 ((want f g ks i j).toNat : Int)) ∧ wr.frozen? ⟨bw, j, none⟩ = false :=
  ⟨by rw [cell_of_row wr bw j _ _ _ h.2.2, four_at _ j hj]; rfl, frozen_of_row wr bw j _ _ h.2.2⟩

/-- A block of four that nobody has turned. -/
theorem row_stays {w1 wr : World} {X : Nat → Prop} {b : Nat} {f : Nat → UInt8} (hb : w1.heap[b]? = some (.cells (four f) 42 (0, 0))) (hs : Stay X w1 wr) (hx : ¬ X b) :
    wr.heap[b]? = some (.cells (four f) 42 (0, 0)) ∧ ∀ j, j < 4 → wr.cell? ⟨b, j, none⟩ = some (.int .u8 ((f j).toNat : Int)) := by
  have h := (hs.block b (Array.getElem?_eq_some_iff.1 hb).1 hx).trans hb
  exact ⟨h, fun j hj => by rw [cell_of_row wr b j _ _ _ h, four_at f j hj]; rfl⟩

/-- want[j] = first[j]. -/
theorem krel_set {w1 : World} {pd ps pm bw : Nat} {f g : Nat → UInt8} {ks : List Bool} {i : Nat} {wr : World} (h : KRel w1 pd ps pm bw f g ks i wr) (hi : i < 4) (x : UInt8) (nw : ¬ own pd ps pm bw) :
    DevAt (wr.setCell ⟨bw, i, none⟩ (.int .u8 (x.toNat : Int))) pd ps pm (d2 f g i) ∧ Stay (fun k => own pd ps pm k ∨ k = bw) w1 (wr.setCell ⟨bw, i, none⟩ (.int .u8 (x.toNat : Int))) ∧
      (wr.setCell ⟨bw, i, none⟩ (.int .u8 (x.toNat : Int))).heap[bw]? = some (.cells (four (fun j => if j = i then x else want f g ks i j)) 42 (0, 0)) := by
  have hs : Stay (· = bw) wr (wr.setCell ⟨bw, i, none⟩ (.int .u8 (x.toNat : Int))) := Stay.setCell wr _ _ rfl
  refine ⟨h.1.stay hs (fun e => nw (Or.inl e.symm)) (fun e => nw (Or.inr (Or.inl e.symm))) (fun e => nw (Or.inr (Or.inr e.symm))), h.2.1.trans (hs.mono (fun k e => Or.inr e)), ?_⟩
  rw [heap_setCell_same wr bw i _ _ _ h.2.2, set_four _ i hi]

theorem want_no {f g : Nat → UInt8} {ks : List Bool} {i : Nat} (h : ¬ (g i ≠ 0 ∧ ks.getD (cnt g i) false = true)) : want f g ks (i + 1) = fun j => if j = i then f i else want f g ks i j := by
  funext j; simp only [want, if_neg h]
theorem want_yes {f g : Nat → UInt8} {ks : List Bool} {i : Nat} (h : g i ≠ 0 ∧ ks.getD (cnt g i) false = true) : want f g ks (i + 1) = fun j => if j = i then g i else want f g ks i j := by
  funext j; simp only [want, if_pos h]

theorem loose_len (w : World) (pd ps pm : Nat) (d : DS) (h : DevAt w pd ps pm d) :
    Calls Try.prog 11 #[.pointer (some ⟨pd, 0, none⟩)] w fun e w' => ∃ a c, e = .returned (.slice a (keysL d.L d.n).length c) ∧ DevAt w' pd ps pm d ∧ Stay (fun _ => False) w w' := by
  by_cases hk : keysL d.L d.n = []
  · refine (loose_nil w pd ps pm d h hk).mono ?_
    rintro e w' ⟨rfl, h1, h2⟩
    exact ⟨none, 0, by rw [hk]; rfl, h1, h2⟩
  · refine (loose_cons w pd ps pm d h hk).mono ?_
    rintro e w' ⟨g, c, rfl, _, _, _, h1, h2⟩
    exact ⟨_, c, rfl, h1, h2⟩

set_option maxHeartbeats 1000000 in
theorem kept_walk (f g : Nat → UInt8) (kp : Option Addr) (cap : Nat) (ks : List Bool) (w : World) (hk : ReadsK w kp ks) :
    Calls Try.prog 4 #[.agg (four f), .agg (four g), .slice kp ks.length cap] w fun e w' => e = .returned (.bool true) ∧ Stay (fun _ => False) w w' := by
  go_enter Try.func4, Try.ntmps4
  go_wp2_with fail
  have hA : Stay (fun _ => False) w ((w.alloc (.cells (four f) 42)).alloc (.cells (four g) 42)) := (Stay.alloc (X := fun _ => False) w _).trans (Stay.alloc _ _)
  have hbf := heap_alloc2_old w (.cells (four f) 42) (.cells (four g) 42)
  have hbg := heap_alloc2_new w (.cells (four f) 42) (.cells (four g) 42)
  refine (new_at 4 _ (by omega) (by omega)).mono ?_
  rintro e w1 ⟨pd, ps, pm, rfl, h1, hF, hs1⟩
  have hbf1 : w1.heap[w.heap.size]? = some (.cells (four f) 42 (0, 0)) := (hs1.block _ (by simp; omega) (fun x => x)).trans hbf
  have hbg1 : w1.heap[w.heap.size + 1]? = some (.cells (four g) 42 (0, 0)) := (hs1.block _ (by simp) (fun x => x)).trans hbg
  have HF1 := Lib.hid hbf1
  have HG1 := Lib.hid hbg1
  have nf : ¬ own pd ps pm w.heap.size := hF.not_own (by simp; omega)
  have ng : ¬ own pd ps pm (w.heap.size + 1) := hF.not_own (by simp)
  clear hbf hbg hbf1 hbg1
  go_wp2_with fail
  go_loopw [9] (fun c wr => ∃ i : Nat, i ≤ 4 ∧ c = .int .i64 (i : Int) ∧ KInv w1 pd ps pm (d1 f i) wr) (fun c _ => 4 - (intOf c).toNat)
  case atStart => exact ⟨0, Nat.zero_le _, rfl, h1, Stay.refl _ _⟩
  case round =>
    obtain ⟨i, hi0, rfl, hd, hst⟩ := hrel
    have hok := d1_ok f i
    by_cases hi : i < 4
    · have hsl := slice_four w.heap.size i hi
      go_wp2_with fail
      clear hsl
      have hbf : wr.heap[w.heap.size]? = some (.cells (four f) 42 (0, 0)) := (hst.block _ (Array.getElem?_eq_some_iff.1 HF1.out).1 nf).trans HF1.out
      refine (write_free wr pd ps pm (d1 f i) i (some ⟨w.heap.size, i, none⟩) _ [f i] hd hok.cr hok.lo hok.ar (by rw [hok.n]; exact hi) (by simp) (reads_four hbf i hi) (fun _ ad e => by cases e; exact nf) hok.w0 (by have := hok.w1; omega)).mono ?_
      rintro e w2 ⟨rfl, hd2, hs2⟩
      go_wp2
      refine ⟨⟨i + 1, by omega, by go_num, hd2, hst.trans hs2⟩, by simp [intOf]; omega⟩
    · obtain rfl : i = 4 := by omega
      go_wp2_with fail
      refine (flush_up wr pd ps pm (d1 f 4) hd hok.cr hok.lo).mono ?_
      rintro e wf ⟨rfl, hdf, hsf⟩
      go_wp2_with ((with_reducible refine wpList_alloc_at rfl 42 rfl _ (zero_four _) ?_); show wpList _ _ _ _ _ (wf.alloc (.cells (four fun _ => 0) 42)))
      have hsx : Stay (own pd ps pm) w1 wf := hst.trans hsf
      have nw : ¬ own pd ps pm wf.heap.size := not_own_new hdf
      have hbwf : w.heap.size ≠ wf.heap.size := by have := (Array.getElem?_eq_some_iff.1 HF1.out).1; have := hsx.size; omega
      have hbwg : w.heap.size + 1 ≠ wf.heap.size := by have := (Array.getElem?_eq_some_iff.1 HG1.out).1; have := hsx.size; omega
      go_loopw [10, 12] (fun a c wx => ∃ j : Nat, j ≤ 4 ∧ c = .int .i64 (j : Int) ∧ a = .int .i64 (cnt g j : Int) ∧ KRel w1 pd ps pm wf.heap.size f g ks j wx) (fun _ c _ => 4 - (intOf c).toNat)
      case atStart => exact ⟨0, Nat.zero_le _, rfl, rfl, hdf.alloc _, (hsx.mono (fun k h => Or.inl h)).trans (Stay.alloc _ _), heap_alloc_new _ _⟩
      case round =>
        obtain ⟨j, hj0, rfl, rfl, hrel⟩ := hrel
        have hst2 := hrel.2.1
        have nf2 : ¬ (own pd ps pm w.heap.size ∨ w.heap.size = wf.heap.size) := fun e => e.elim nf hbwf
        have ng2 : ¬ (own pd ps pm (w.heap.size + 1) ∨ w.heap.size + 1 = wf.heap.size) := fun e => e.elim ng hbwg
        by_cases hj : j < 4
        · have cf := (row_stays HF1.out hst2 nf2).2 j hj
          have cw := (krel_cell hrel j hj).1
          have fw := (krel_cell hrel j hj).2
          obtain ⟨hdS, hstS, hbS⟩ := krel_set hrel hj (f j) nw
          have hrg := row_stays HG1.out hstS ng2
          have cg := hrg.2 j hj
          have HRG := Lib.hid hrg.1
          have HBS := Lib.hid hbS
          have NW := Lib.hid hbwf
          have NG := Lib.hid hbwg
          clear hrg hbS hbwf hbwg
          by_cases hg : g j = 0
          · have hb : (((g j).toNat : Int) == 0) = true := by rw [hg]; rfl
            rw [hg] at cg
            have HG0 := Lib.hid hg
            clear hg hb
            go_wp2_with fail
            refine ⟨⟨j + 1, by omega, by go_num, by simp only [cnt]; rw [if_pos HG0.out], ?_, hstS, ?_⟩, by simp [intOf]; omega⟩
            · simp only [d2]; rw [if_pos HG0.out]; exact hdS
            · rw [want_no (fun h => h.1 HG0.out)]; exact HBS.out
          · have hb : (((g j).toNat : Int) == 0) = false := beq_eq_false_iff_ne.2 (fun e => hg (UInt8.toNat_inj.1 (by simpa using e)))
            have hsl := slice_four (w.heap.size + 1) j hj
            have HG0 := Lib.hid hg
            clear hg
            go_wp2_with fail
            clear hsl hb
            have hok2 := d2_ok f g j
            refine (write_free _ pd ps pm (d2 f g j) j (some ⟨w.heap.size + 1, j, none⟩) _ [g j] hdS hok2.cr hok2.lo hok2.ar (by rw [hok2.n]; exact hj) (by simp) (reads_four HRG.out j hj) (fun _ ad e => by cases e; exact ng) hok2.w0 (by have := hok2.w1; omega)).mono ?_
            rintro e w2 ⟨rfl, hd2, hs2⟩
            have hd3 : DevAt w2 pd ps pm (d2 f g (j + 1)) := by simp only [d2]; rw [if_neg HG0.out]; exact hd2
            have hst3 : Stay (fun k => own pd ps pm k ∨ k = wf.heap.size) w1 w2 := hstS.trans (hs2.mono (fun k e => Or.inl e))
            have hbw3 : w2.heap[wf.heap.size]? = some (.cells (four (fun i => if i = j then f j else want f g ks j i)) 42 (0, 0)) := (hs2.block _ (Array.getElem?_eq_some_iff.1 HBS.out).1 nw).trans HBS.out
            have hcn : cnt g (j + 1) = cnt g j + 1 := by simp only [cnt]; rw [if_neg HG0.out]
            have hcl := cnt_le g j
            have HCN := Lib.hid hcn
            clear cf cw fw cg hcn hok2
            have keep : ks.getD (cnt g j) false = true ∨ ks.getD (cnt g j) false = false := by cases ks.getD (cnt g j) false <;> simp
            by_cases hik : cnt g j < ks.length
            · obtain ⟨kb, ko, hkc, hix⟩ : ∃ kb ko, w2.cell? ⟨kb, ko + cnt g j, none⟩ = some (.bool (ks.getD (cnt g j) false)) ∧ ∀ w', (Instr.indexAt 35 (.slice kp ks.length cap) (.int .i64 (cnt g j : Int))).run Try.prog w' = .ok (.pointer (some ⟨kb, ko + cnt g j, none⟩)) w' := by
                obtain ⟨kb, ko, rfl, hlt, hc⟩ := hk.2 (by omega)
                have h1 : w1.cell? ⟨kb, ko + cnt g j, none⟩ = some (.bool (ks.getD (cnt g j) false)) := (hA.trans hs1).cell (hc _ hik) (fun x => x)
                exact ⟨kb, ko, hst3.cell h1 (fun e => e.elim (hF.not_own (by simp; omega)) (fun e => by
                    have e' : kb = wf.heap.size := e
                    have := hst.size; have := hsf.size; have := hs1.size; simp at this; omega)), fun w' => kept_index kb ko ks.length cap (cnt g j) hik w'⟩
              rcases keep with hkb | hkb
              · -- kept
                rw [hkb] at hkc
                have HKB := Lib.hid hkb
                have cg2 := (row_stays HG1.out hst3 ng2).2 j hj
                have cw2 : w2.cell? ⟨wf.heap.size, j, none⟩ = some (.int .u8 ((f j).toNat : Int)) := by
                  rw [cell_of_row w2 _ j _ _ _ hbw3, four_at _ j hj, if_pos rfl]; rfl
                have fw2 : w2.frozen? ⟨wf.heap.size, j, none⟩ = false := frozen_of_row w2 _ j _ _ hbw3
                have HBW := Lib.hid hbw3
                clear hkb hbw3
                have hsW : Stay (· = wf.heap.size) w2 (w2.setCell ⟨wf.heap.size, j, none⟩ (.int .u8 ((g j).toNat : Int))) := Stay.setCell w2 _ _ rfl
                have hdW : DevAt (w2.setCell ⟨wf.heap.size, j, none⟩ (.int .u8 ((g j).toNat : Int))) pd ps pm (d2 f g (j + 1)) := hd3.stay hsW (fun e => nw (Or.inl e.symm)) (fun e => nw (Or.inr (Or.inl e.symm))) (fun e => nw (Or.inr (Or.inr e.symm)))
                go_wp2
                refine ⟨⟨j + 1, by omega, by go_num, by rw [HCN.out]; go_num, hdW, hst3.trans (hsW.mono (fun k e => Or.inr e)), ?_⟩, by simp [intOf]; omega⟩
                rw [heap_setCell_same w2 _ j _ _ _ HBW.out, set_four _ j hj, want_yes ⟨HG0.out, HKB.out⟩]
                congr 3
                funext i
                by_cases hij : i = j <;> simp [hij]
              · -- not kept
                rw [hkb] at hkc
                have HKB := Lib.hid hkb
                have HBW := Lib.hid hbw3
                clear hkb hbw3
                go_wp2
                refine ⟨⟨j + 1, by omega, by go_num, by rw [HCN.out]; go_num, hd3, hst3, ?_⟩, by simp [intOf]; omega⟩
                rw [want_no (fun h => by have := h.2; rw [HKB.out] at this; cases this)]; exact HBW.out
            · have HKB : Hid (ks.getD (cnt g j) false = false) := Lib.hid (by simp [List.getD_eq_getElem?_getD, List.getElem?_eq_none (by omega : ks.length ≤ cnt g j)])
              have HBW := Lib.hid hbw3
              clear hbw3 keep
              go_wp2
              refine ⟨⟨j + 1, by omega, by go_num, by rw [HCN.out]; go_num, hd3, hst3, ?_⟩, by simp [intOf]; omega⟩
              rw [want_no (fun h => by have := h.2; rw [HKB.out] at this; cases this)]; exact HBW.out
        · obtain rfl : j = 4 := by omega
          obtain ⟨hdx, hsx2, hbx⟩ := hrel
          have HBX := Lib.hid hbx
          have NF := Lib.hid hbwf
          have NG := Lib.hid hbwg
          clear hbx hbwf hbwg
          go_wp2_with fail
          refine (loose_len wr pd ps pm _ hdx).mono ?_
          rintro e w2 ⟨a, c, rfl, hd2, hs2⟩
          rw [kept_len f g]
          go_wp2_with fail
          have hsA : Stay (own pd ps pm) w w2 := (hA.trans hs1 |>.mono (fun _ x => x.elim)).andThen (hsx2.trans (hs2.mono (fun _ x => x.elim))) (fun k hk e => e.elim (fun x => x) (fun x => by
            have x' : k = wf.heap.size := x
            have := hsx.size; have := hs1.size; simp at this; omega))
          refine (start_gen w2 pd ps pm (d2 f g 4) kp cap ks hd2 (d2_ok f g 4).lo hk hsA (fun k hk => hF.not_own (by simp; omega))).mono ?_
          rintro e w3 ⟨rfl, hd3, hs3⟩
          have hbw3 : w3.heap[wf.heap.size]? = some (.cells (four (want f g ks 4)) 42 (0, 0)) := by
            have e1 := (hs2.block _ (Array.getElem?_eq_some_iff.1 HBX.out).1 (fun x => x)).trans HBX.out
            exact (hs3.block _ (Array.getElem?_eq_some_iff.1 e1).1 nw).trans e1
          have HBW := Lib.hid hbw3
          have hs13 : Stay (fun k => own pd ps pm k ∨ k = wf.heap.size) w1 w3 := (hsx2.trans (hs2.mono (fun _ x => x.elim))).trans (hs3.mono (fun k e => Or.inl e))
          clear hbw3
          go_wp2_with fail
          go_loopw [13, 14, 15] (fun c _ _ wy => ∃ j : Nat, j ≤ 4 ∧ c = .int .i64 (j : Int) ∧ DevAt wy pd ps pm ((d2 f g 4).started ks) ∧ Stay (fun _ => False) w3 wy) (fun c _ _ _ => 4 - (intOf c).toNat)
          case atStart => exact ⟨0, Nat.zero_le _, rfl, hd3, Stay.refl _ _⟩
          case round =>
            obtain ⟨j, hj0, rfl, hdy, hsy⟩ := hrel
            by_cases hj : j < 4
            · go_wp2_with fail
              refine (read_up wr pd ps pm _ j hdy rfl (d2_ok f g 4).lo (by show j < (d2 f g 4).n; rw [(d2_ok f g 4).n]; exact hj)).mono ?_
              rintro e w4 ⟨gg, cp, rfl, hgg, hcc, hd4, hs4⟩
              rw [kept_cur f g ks j hj] at hcc
              have hc0 : w4.cell? ⟨gg, 0, none⟩ = some (.int .u8 ((want f g ks 4 j).toNat : Int)) := hcc 0 (by decide)
              have hcw := (row_stays HBW.out (hsy.trans hs4) (fun x => x)).2 j hj
              clear hcc
              go_wp2_with fail
              go_quiet (fail)
              go_wp2
              refine ⟨⟨j + 1, by omega, by go_num, hd4.stay (X := fun _ => False) (Stay.drewN _ _) (fun x => x) (fun x => x) (fun x => x), (hsy.trans hs4).trans (Stay.drewN _ _)⟩, by simp [intOf]; omega⟩
            · obtain rfl : j = 4 := by omega
              go_wp2_with fail
              refine (sure_yes wr).mono ?_
              rintro e w5 ⟨rfl, hs5⟩
              go_wp2
              go_ret
              refine ⟨rfl, (hA.trans hs1).andThen (hs13.trans ((hsy.trans hs5).mono (fun _ x => x.elim))) (fun k hk e => e.elim (hF.not_own (by simp; omega)) (fun x => by
                have x' : k = wf.heap.size := x
                have := hsx.size; have := hs1.size; simp at this; omega))⟩

end Go.Proofs.Ytmbckgebakfceaa
