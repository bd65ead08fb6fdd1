/-
  DevWrites: the walk.
-/
import Derived.Test.YtmbckgebakfceaaDoorKeptFacts
import Derived.Test.YtmbckgebakfceaaDoorNum
namespace Go.Proofs.YtmbckgebakfceaaDoor
open Go.RowKit Go.Maps
set_option maxRecDepth 100000

/-- Write outside: ErrRange, nothing is done. -/
theorem write_out (w : World) (pd ps pm : Nat) (d : DS) (i : Int) (v : Value) (h : DevAt w pd ps pm d) (hcr : d.cr = false) (hlo : d.lo = false) (hi : i < 0 ∨ d.n ≤ i) :
    Calls Tryd.prog 8 #[.pointer (some ⟨pd, 0, none⟩), .int .i64 i, v] w fun e w' => e = .returned (.iface 38 (.int .i64 4)) ∧ w = w' := by
  have c0 := h.c0
  have c2 := h.c2
  have c3 := h.c3
  rw [hcr] at c2
  rw [hlo] at c3
  clear hcr hlo
  go_enter Tryd.func8, Tryd.ntmps8
  go_wp2_with fail
  refine (reach_out _ _ _ _ _ c0 c2 c3 hi).mono ?_
  rintro e w' ⟨rfl, rfl⟩
  go_wp2
  go_ret
  exact ⟨rfl, rfl⟩

/-- Write of too much: ErrLong, nothing is done. -/
theorem write_long (w : World) (pd ps pm : Nat) (d : DS) (i : Nat) (sp : Option Addr) (n cap : Nat) (h : DevAt w pd ps pm d) (hcr : d.cr = false) (hlo : d.lo = false) (hi : i < d.n) (hn : 64 < n) :
    Calls Tryd.prog 8 #[.pointer (some ⟨pd, 0, none⟩), .int .i64 i, .slice sp n cap] w fun e w' => e = .returned (.iface 38 (.int .i64 2)) ∧ w = w' := by
  have c0 := h.c0
  have c2 := h.c2
  have c3 := h.c3
  rw [hcr] at c2
  rw [hlo] at c3
  clear hcr hlo
  go_enter Tryd.func8, Tryd.ntmps8
  go_wp2_with fail
  refine (reach_in _ _ _ _ _ c0 c2 c3 (by omega) (by omega)).mono ?_
  rintro e w' ⟨rfl, rfl⟩
  go_wp2
  go_ret
  exact ⟨rfl, rfl⟩

/-- 64 cells that hold a sector's bytes. -/
def Holds64 (w : World) (g : Nat) (l : List UInt8) : Prop := ∀ j, j < 64 → w.cell? ⟨g, j, none⟩ = (cellsB l)[j]?
theorem Holds64.stay {w w' : World} {g : Nat} {l : List UInt8} {X : Nat → Prop} (h : Holds64 w g l) (hl : l.length = 64) (hs : Stay X w w') (hx : ¬ X g) : Holds64 w' g l := by
  intro j hj
  have e : (cellsB l)[j]? = some ((cellsB l)[j]'(by rw [length_cellsB, hl]; exact hj)) := List.getElem?_eq_getElem _
  rw [e]; exact hs.cell ((h j hj).trans e) hx
theorem holds64_row {w : World} {g : Nat} {l : List UInt8} {t : TypeId} (h : w.heap[g]? = some (.cells (cellsB l).toArray t (0, 0))) : Holds64 w g l := by
  intro j _
  rw [cell_of_row w g j _ _ _ h]
  simp

def strOf (l : List UInt8) : ByteArray := ⟨l.toArray⟩
theorem conv_sec {w : World} {g cap : Nat} {l : List UInt8} (h : Holds64 w g l) (hl : l.length = 64) : (convert 22 9 (.slice (some ⟨g, 0, none⟩) 64 cap)).run Tryd.prog w = .ok (.string (strOf l)) w := by
  have := run_convert_bytes_back (P := Tryd.prog) w 22 9 5 ⟨g, 0, none⟩ cap l Tryd.underlying22 Tryd.underlying5 Tryd.underlying9 (fun j hj => by
    rw [add_at, Nat.zero_add, h j (by omega)]
    simp [cellsB, hj, byteV])
  rw [hl] at this
  exact this

theorem make64 (w : World) : (Instr.makeSlice 22 (.int .i64 64) (.int .i64 64)).run Tryd.prog w = .ok (.slice (some ⟨w.heap.size, 0, none⟩) 64 64) (w.alloc (.cells (cellsB zsec).toArray 5)) := by
  obtain ⟨i0, hi, hz0, hz1, hz2⟩ := info_parts u8Info
  have hm := run_make (P := Tryd.prog) w 22 5 i0 (.int .u8 0) Tryd.underlying22 hi hz0 .i64 .i64 64 64 (by omega) (Int.le_refl _) (by rw [hz2]; omega) (by omega)
  rw [hz1] at hm
  rw [hm]
  have hz : madeCells (Value.int IntKind.u8 0).cells ((64 : Int).toNat * 1) = (cellsB zsec).toArray := by
    rw [made_zeros _ (by decide) (by rfl)]
    simp only [zeros, cellsB, zsec, List.map_replicate, List.toArray_replicate]
    rfl
  rw [hz]
  rfl

def WSt (w1 : World) (pd ps pm : Nat) (d : DS) (wr : World) : Prop := DevAt wr pd ps pm d ∧ Stay (fun _ => False) w1 wr

set_option maxHeartbeats 1000000 in
/-- The loop and what is behind it, from a state of the device on. (Text for three starts.) -/
theorem writes_bad (sector : Int) (bp : Option Addr) (bc n : Nat) (w : World) (hg : ErrCell w) (hs : sector < 0 ∨ 2 < sector) :
    Calls Tryd.prog 4 #[.int .i64 sector, .slice bp n bc] w fun e w' => e = .returned (.bool true) ∧ Stay (fun _ => False) w w' := by
  have hmk := make64
  have HG := Lib.hid hg
  clear hg
  have hsx : sector < 0 ∨ (0 ≤ sector ∧ 2 < sector) := by omega
  have H3 : Hid (sector < 0 ∨ ((fresh 3).n : Int) ≤ sector) := Lib.hid (by rcases hs with h | h; exact .inl h; exact .inr (by show (3 : Int) ≤ sector; omega))
  clear hs
  rcases hsx with hs | ⟨hs0, hs⟩
  all_goals
    go_enter Tryd.func4, Tryd.ntmps4
    go_wp2_with fail
    refine (new_at 3 _ (by omega) (by omega)).mono ?_
    rintro e w1 ⟨pd, ps, pm, rfl, hd1, hF, hs1⟩
    go_wp2_with fail
    refine (write_out w1 pd ps pm (fresh 3) sector _ hd1 rfl rfl H3.out).mono ?_
    rintro e w2 ⟨rfl, rfl⟩
    go_wp2_with fail
    go_loopw [9, 10, 11, 12] (fun c _ _ _ wr => ∃ i : Nat, i ≤ 3 ∧ c = .int .i64 (i : Int) ∧ WSt w1 pd ps pm (fresh 3) wr) (fun c _ _ _ _ => 3 - (intOf c).toNat)
    case atStart => exact ⟨0, by omega, rfl, hd1, Stay.refl _ _⟩
    case round =>
      obtain ⟨i, hi0, rfl, hdr, hst⟩ := hrel
      by_cases hi : i < 3
      · go_wp2_with fail
        refine (read_up wr pd ps pm (fresh 3) i hdr rfl rfl hi).mono ?_
        rintro e w3 ⟨g3, k3, rfl, hg3, hc3, hd3, hs3⟩
        have hc3' : Holds64 w3 g3 zsec := hc3
        have hlt3 : g3 ≠ w3.heap.size := by
          have h0 := hc3' 0 (by decide)
          have := World.block_lt_of_cell? w3 ⟨g3, 0, none⟩ (h0.trans (List.getElem?_eq_getElem (by decide)))
          exact Nat.ne_of_lt this
        have k1 := conv_sec (cap := k3) (Holds64.stay hc3' length_zsec (Stay.alloc (X := fun _ => False) w3 (.cells (cellsB zsec).toArray 5)) (fun x => x)) length_zsec
        have k2 := conv_sec (cap := 64) (holds64_row (heap_alloc_new w3 (.cells (cellsB zsec).toArray 5))) length_zsec
        have hdn := hd3.alloc (.cells (cellsB zsec).toArray 5)
        have hsn : Stay (fun _ => False) w1 (w3.alloc (.cells (cellsB zsec).toArray 5)) := (hst.trans hs3).trans (Stay.alloc _ _)
        have hne : ((i : Int) == sector) = false := beq_eq_false_iff_ne.2 (by omega)
        clear hc3 hc3' hlt3
        go_wp2
        all_goals exact ⟨⟨i + 1, by omega, by go_num, hdn, hsn⟩, by simp [intOf]; omega⟩
      · obtain rfl : i = 3 := by omega
        go_wp2_with fail
        have hge : ErrCell wr := (hs1.trans hst).cell HG.out (fun x => x)
        refine (num_errno 4 wr hge).mono ?_
        rintro e w4 ⟨rfl, hs4⟩
        go_wp2_with fail
        refine (sure_yes w4).mono ?_
        rintro e w5 ⟨rfl, hs5⟩
        go_wp2
        go_ret
        exact ⟨rfl, ((hs1.trans hst).trans hs4).trans hs5⟩

set_option maxHeartbeats 1000000 in
/-- A text that is too long. -/
theorem writes_long (s : Nat) (bp : Option Addr) (bc n : Nat) (w : World) (hg : ErrCell w) (hs : s ≤ 2) (hn : 64 < n) (hn2 : n ≤ 9223372036854775807) :
    Calls Tryd.prog 4 #[.int .i64 (s : Int), .slice bp n bc] w fun e w' => e = .returned (.bool true) ∧ Stay (fun _ => False) w w' := by
  have hmk := make64
  have HG := Lib.hid hg
  clear hg
  have hb1 : decide ((64 : Int) < (n : Int)) = true := decide_eq_true (by omega)
  have hb2 : decide ((s : Int) < 0) = false := decide_eq_false (by omega)
  have hb3 : decide ((2 : Int) < (s : Int)) = false := decide_eq_false (by omega)
  go_enter Tryd.func4, Tryd.ntmps4
  go_wp2_with fail
  refine (new_at 3 _ (by omega) (by omega)).mono ?_
  rintro e w1 ⟨pd, ps, pm, rfl, hd1, hF, hs1⟩
  go_wp2_with fail
  refine (write_long w1 pd ps pm (fresh 3) s bp n bc hd1 rfl rfl (by show s < 3; omega) hn).mono ?_
  rintro e w2 ⟨rfl, rfl⟩
  go_wp2_with fail
  go_loopw [9, 10, 11, 12] (fun c _ _ _ wr => ∃ i : Nat, i ≤ 3 ∧ c = .int .i64 (i : Int) ∧ WSt w1 pd ps pm (fresh 3) wr) (fun c _ _ _ _ => 3 - (intOf c).toNat)
  case atStart => exact ⟨0, by omega, rfl, hd1, Stay.refl _ _⟩
  case round =>
    obtain ⟨i, hi0, rfl, hdr, hst⟩ := hrel
    by_cases hi : i < 3
    · go_wp2_with fail
      refine (read_up wr pd ps pm (fresh 3) i hdr rfl rfl hi).mono ?_
      rintro e w3 ⟨g3, k3, rfl, hg3, hc3, hd3, hs3⟩
      have hc3' : Holds64 w3 g3 zsec := hc3
      have hlt3 : g3 ≠ w3.heap.size := by
        have h0 := hc3' 0 (by decide)
        have := World.block_lt_of_cell? w3 ⟨g3, 0, none⟩ (h0.trans (List.getElem?_eq_getElem (by decide)))
        exact Nat.ne_of_lt this
      have k1 := conv_sec (cap := k3) (Holds64.stay hc3' length_zsec (Stay.alloc (X := fun _ => False) w3 (.cells (cellsB zsec).toArray 5)) (fun x => x)) length_zsec
      have k2 := conv_sec (cap := 64) (holds64_row (heap_alloc_new w3 (.cells (cellsB zsec).toArray 5))) length_zsec
      have hdn := hd3.alloc (.cells (cellsB zsec).toArray 5)
      have hsn : Stay (fun _ => False) w1 (w3.alloc (.cells (cellsB zsec).toArray 5)) := (hst.trans hs3).trans (Stay.alloc _ _)
      have hne : (((i : Int) == (s : Int)) = true) ∨ (((i : Int) == (s : Int)) = false) := by cases ((i : Int) == (s : Int)) <;> simp
      clear hc3 hc3' hlt3
      rcases hne with hne | hne
      all_goals
        go_wp2
        all_goals first
          | exact ⟨⟨i + 1, by omega, by go_num, hdn, hsn⟩, by simp [intOf]; omega⟩
          | (go_roundw
             case rel =>
               repeat apply Exists.intro
               exact ⟨⟨i + 1, by omega, by go_num, hdn, hsn⟩, rfl⟩
             case measure => simp [intOf]; omega)
    · obtain rfl : i = 3 := by omega
      go_wp2_with fail
      have hge : ErrCell wr := (hs1.trans hst).cell HG.out (fun x => x)
      refine (num_errno 2 wr hge).mono ?_
      rintro e w4 ⟨rfl, hs4⟩
      go_wp2_with fail
      refine (sure_yes w4).mono ?_
      rintro e w5 ⟨rfl, hs5⟩
      go_wp2
      go_ret
      exact ⟨rfl, ((hs1.trans hst).trans hs4).trans hs5⟩

set_option maxHeartbeats 1000000 in
/-- All is well. -/
theorem writes_ok (s : Nat) (bp : Option Addr) (bc : Nat) (lb : List UInt8) (w : World) (hs : s ≤ 2) (hn : lb.length ≤ 64) (rb : ReadsAs w bp lb) (ob : 0 < lb.length → ∀ ad, bp = some ad → ad.block < w.heap.size) :
    Calls Tryd.prog 4 #[.int .i64 (s : Int), .slice bp lb.length bc] w fun e w' => e = .returned (.bool true) ∧ Stay (fun _ => False) w w' := by
  have hmk := make64
  have RB := Lib.hid rb
  have OB := Lib.hid ob
  clear rb ob
  go_enter Tryd.func4, Tryd.ntmps4
  go_wp2_with fail
  refine (new_at 3 _ (by omega) (by omega)).mono ?_
  rintro e w1 ⟨pd, ps, pm, rfl, hd1, hF, hs1⟩
  go_wp2_with fail
  have nob : 0 < lb.length → ∀ ad, bp = some ad → ¬ own pd ps pm ad.block := fun h0 ad e => hF.not_own (OB.out h0 ad e)
  have NB := Lib.hid nob
  clear nob
  refine (write_free w1 pd ps pm (fresh 3) s bp bc lb hd1 rfl rfl rfl (by show s < 3; omega) hn (RB.out.stay hs1 (fun _ _ _ x => x)) NB.out (by decide) (by decide)).mono ?_
  rintro e w2 ⟨rfl, hd2, hs2⟩
  go_wp2_with fail
  go_loopw [9, 10, 11, 12] (fun c _ _ _ wr => ∃ i : Nat, i ≤ 3 ∧ c = .int .i64 (i : Int) ∧ WSt w2 pd ps pm ((fresh 3).wrote s lb) wr) (fun c _ _ _ _ => 3 - (intOf c).toNat)
  case atStart => exact ⟨0, by omega, rfl, hd2, Stay.refl _ _⟩
  case round =>
    obtain ⟨i, hi0, rfl, hdr, hst⟩ := hrel
    by_cases hi : i < 3
    · go_wp2_with fail
      refine (read_up wr pd ps pm _ i hdr rfl rfl hi).mono ?_
      rintro e w3 ⟨g3, k3, rfl, hg3, hc3, hd3, hs3⟩
      have hdn := hd3.alloc (.cells (cellsB zsec).toArray 5)
      have hsn : Stay (fun _ => False) w2 (w3.alloc (.cells (cellsB zsec).toArray 5)) := (hst.trans hs3).trans (Stay.alloc _ _)
      by_cases his : i = s
      · have hcur : ((fresh 3).wrote s lb).cur i = pad lb := by rw [his]; exact cur_wrote_same _ _ _
        rw [hcur] at hc3
        have hc3' : Holds64 w3 g3 (pad lb) := hc3
        have hlt3 : g3 < w3.heap.size := World.block_lt_of_cell? w3 ⟨g3, 0, none⟩ ((hc3' 0 (by decide)).trans (List.getElem?_eq_getElem (by rw [length_cellsB, length_pad hn]; decide)))
        have HC3 := Lib.hid hc3'
        have heq : ((i : Int) == (s : Int)) = true := beq_iff_eq.2 (by omega)
        have HR := Lib.hid ((((RB.out.stay hs1 (fun _ _ _ x => x)).stay hs2 NB.out).stay hsn (fun _ _ _ x => x)))
        clear hc3 hc3' hcur his
        go_wp2_with ((with_reducible refine wpList_copy_splice rfl (.tmp 56) (.tmp 57) 22 22 rfl 5 Tryd.underlying22 ?e1 (some ⟨w3.heap.size, 0, none⟩) bp 64 64 lb.length bc ?e2 ?e3 w3.heap.size 0 (cellsB zsec) 5 (heap_alloc_new _ _) (cellsB lb) ?e4 ?e5 ?e6 (oneCell_cellsB _) w3.heap.size _ (Below.refl _ _) (Nat.le_refl _) ?_)
                     case e1 => kernel_rfl
                     case e2 => rfl
                     case e3 => rfl
                     case e4 => rw [length_cellsB]; exact (Nat.min_eq_left hn).symm
                     case e5 =>
                       intro h0
                       rw [length_cellsB] at h0
                       exact ⟨rfl, HR.out h0⟩
                     case e6 => simp [length_cellsB, zsec]; omega
                     intro w4 hg4 hb4
                     have hg4' : w4.heap[w3.heap.size]? = some (.cells (cellsB (pad lb)).toArray 5 (0, 0)) := by rw [← splice_pad]; exact hg4.out
                     have hst4 : Stay (fun k => w3.heap.size ≤ k) (w3.alloc (.cells (cellsB zsec).toArray 5)) w4 := ⟨hb4.os, hb4.tape, hb4.output, hb4.size, fun k _ hx => hb4.block k (by omega)⟩
                     have k1 := conv_sec (cap := k3) ((Holds64.stay HC3.out (length_pad hn) (Stay.alloc (X := fun _ => False) w3 (.cells (cellsB zsec).toArray 5)) (fun x => x)).stay (length_pad hn) hst4 (by omega)) (length_pad hn)
                     have k2 := conv_sec (cap := 64) (holds64_row hg4') (length_pad hn)
                     have hd4 := hdn.stay hst4 (Nat.not_le_of_lt hd3.lt1) (Nat.not_le_of_lt hd3.lt2) (Nat.not_le_of_lt hd3.lt3)
                     have hs4 : Stay (fun _ => False) w2 w4 := ((hst.trans hs3).trans (Stay.alloc _ _)).andThen hst4 (fun k hk e => by
                       have e' : w3.heap.size ≤ k := e
                       have := hst.size
                       have := hs3.size
                       omega)
                     clear hg4 hg4')
        exact ⟨⟨i + 1, by omega, by go_num, hd4, hs4⟩, by simp [intOf]; omega⟩
      · have hcur : ((fresh 3).wrote s lb).cur i = zsec := by rw [cur_wrote_other _ _ _ _ his]; simp [fresh, DS.cur, none64]
        rw [hcur] at hc3
        have hc3' : Holds64 w3 g3 zsec := hc3
        have k1 := conv_sec (cap := k3) (Holds64.stay hc3' length_zsec (Stay.alloc (X := fun _ => False) w3 (.cells (cellsB zsec).toArray 5)) (fun x => x)) length_zsec
        have k2 := conv_sec (cap := 64) (holds64_row (heap_alloc_new w3 (.cells (cellsB zsec).toArray 5))) length_zsec
        have hne : ((i : Int) == (s : Int)) = false := beq_eq_false_iff_ne.2 (by omega)
        clear hc3 hc3' hcur
        go_wp2
        exact ⟨⟨i + 1, by omega, by go_num, hdn, hsn⟩, by simp [intOf]; omega⟩
    · obtain rfl : i = 3 := by omega
      go_wp2_with fail
      refine (num_nil wr).mono ?_
      rintro e w4 ⟨rfl, hs4⟩
      go_wp2_with fail
      refine (sure_yes w4).mono ?_
      rintro e w5 ⟨rfl, hs5⟩
      go_wp2
      go_ret
      exact ⟨rfl, hs1.andThen (hs2.trans (((hst.trans hs4).trans hs5).mono (fun _ x => x.elim))) (fun k hk e => hF.not_own hk e)⟩

end Go.Proofs.YtmbckgebakfceaaDoor
