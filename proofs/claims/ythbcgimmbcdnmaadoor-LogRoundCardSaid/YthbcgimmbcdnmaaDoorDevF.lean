/-
  dev: the contract of Flush.
-/
import Derived.Test.YthbcgimmbcdnmaaDoorDevE
namespace Go.Proofs.YthbcgimmbcdnmaaDoor
open Go.RowKit Go.Maps
set_option maxRecDepth 100000

/-- The sectors behind those numbers that have come were laid in. -/
def merge (s : Nat → List UInt8) (L : Nat → Option (List UInt8)) (got : Nat → Bool) : Nat → List UInt8 := fun j => if got j then (L j).getD (s j) else s j

theorem merge_wide {s : Nat → List UInt8} {L : Nat → Option (List UInt8)} {n : Nat} (h : Wide s) (hL : WideL L n) (got : Nat → Bool) : Wide (merge s L got) := fun j => by
  unfold merge
  split
  · cases hj : L j with
    | none => exact h j
    | some l => exact (hL j l hj).1
  · exact h j

theorem merge_step (s : Nat → List UInt8) (L : Nat → Option (List UInt8)) (got : Nat → Bool) (j : Nat) (l : List UInt8) (hj : L j = some l) : upd (merge s L got) j l = merge s L (fun i => decide (i = j) || got i) := by
  funext i
  unfold upd merge
  by_cases h : i = j
  · subst h; simp [hj]
  · simp [h]

theorem merge_none (s : Nat → List UInt8) (L : Nat → Option (List UInt8)) : merge s L (fun _ => false) = s := by funext i; simp [merge]

def DS.flushed (d : DS) : DS := { d with s := d.cur, L := none64 }

theorem merge_all (d : DS) (got : Nat → Bool) (h : ∀ j l, d.L j = some l → got j = true) : merge d.s d.L got = d.cur := by
  funext i
  unfold merge DS.cur
  cases hi : d.L i with
  | none => simp
  | some l => simp [h i l hi]

/-- The relation of Flush's loop. -/
def FlushRel (w : World) (pd ps pm : Nat) (d : DS) (r : Nat) (wr : World) : Prop :=
  ∃ got, Rng Tryd.prog 3 wr pm r d.n d.L got ∧ wr.heap[pd]? = some (.cells (hdr ps d.n pm d.cr d.lo d.ar d.left d.wr) 54 (0, 0)) ∧
    wr.heap[ps]? = some (.cells (cellsB (flat (merge d.s d.L got) d.n)).toArray 84 (0, 0)) ∧ Stay (own pd ps pm) w wr

theorem flush_up (w : World) (pd ps pm : Nat) (d : DS) (h : DevAt w pd ps pm d) (hcr : d.cr = false) (hlo : d.lo = false) :
    Calls Tryd.prog 30 #[.pointer (some ⟨pd, 0, none⟩)] w fun e w' => e = .returned .nilIface ∧ DevAt w' pd ps pm d.flushed ∧ Stay (own pd ps pm) w w' := by
  have hn2 := h.n2
  have c1 := h.c1
  have c2 := h.c2
  have c3 := h.c3
  rw [hcr] at c2
  rw [hlo] at c3
  clear hcr hlo
  go_enter Tryd.func30, Tryd.ntmps30
  go_wp2_with (first
    | (go_at_call 51; refine (awake_up _ _ c2 c3).mono ?_; rintro e w' ⟨rfl, rfl⟩)
    | (at_range; refine wpList_range rfl _ _ _ rfl h.map Tryd.underlying3 Tryd.underlying52 rfl ?_; intro w0 hr0 hs0 hz0))
  clear c1 c2 c3 hz0
  go_frame
  go_loopw [4, 5] (fun _ _ wr => FlushRel w pd ps pm d w.heap.size wr) (fun _ _ wr => wr.rangeLeft pm w.heap.size)
  case atStart =>
    exact ⟨_, hr0, (hs0.block pd h.lt1 (fun x => x)).trans h.hd, by rw [merge_none]; exact (hs0.block ps h.lt2 (fun x => x)).trans h.sec, hs0.mono (fun _ x => x.elim)⟩
  case round =>
    obtain ⟨got, hrg, hhd, hsec, hst⟩ := hrel
    go_wp2_with (at_next; refine wpList_next rfl _ rfl hrg Tryd.underlying3 rfl ?_ ?_)
    · intro hall
      have d1 : wr.cell? ⟨pd, 1, none⟩ = some (.map (some pm)) := cell_of_row wr pd 1 _ _ _ hhd
      have hall' := Lib.hid hall
      have hhd' := Lib.hid hhd
      have hsec' := Lib.hid hsec
      clear hall hhd hsec
      go_wp2_with ((with_reducible refine wpList_clear rfl (.tmp 31) 52 84 rfl hrg.mapAt Tryd.underlying52 rfl ?_); intro w5 hm5 hs5)
      go_ret
      have hlt1 : pd < wr.heap.size := (Array.getElem?_eq_some_iff.1 hhd'.out).1
      have hlt2 : ps < wr.heap.size := (Array.getElem?_eq_some_iff.1 hsec'.out).1
      refine ⟨rfl, ?_, hst.trans (hs5.mono (fun k e => Or.inr (Or.inr e)))⟩
      exact {
        hd := (hs5.block pd hlt1 h.ne2).trans hhd'.out
        sec := by
          rw [hs5.block ps hlt2 h.ne3, hsec'.out, merge_all d got hall'.out]; rfl
        map := hm5
        wide := fun j => cur_len h.wide h.map.1 j
        n1 := h.n1, n2 := h.n2, ne1 := h.ne1, ne2 := h.ne2, ne3 := h.ne3 }
    · intro j l w1 hj hgot hrg1 hs1 hz1 hlt hen
      have hr1 : w.heap.size ≠ pd := Nat.ne_of_gt h.lt1
      have hr2 : w.heap.size ≠ ps := Nat.ne_of_gt h.lt2
      have hr3 : w.heap.size ≠ pm := Nat.ne_of_gt h.lt3
      have hl64 := (h.map.1 j l hj).1
      have hjn := (h.map.1 j l hj).2
      have H64 := Lib.hid hl64
      have HJ := Lib.hid hj
      have HHD := Lib.hid hhd
      have HSEC := Lib.hid hsec
      clear hl64 hz1 hj hgot hhd hsec
      go_wp2_with (first
        | ((with_reducible refine wpList_alloc_at rfl 84 rfl _ (zero_blk _) ?_); show wpList _ _ _ _ _ (w1.alloc (.cells (cellsB zsec).toArray 84)))
        | ((with_reducible refine wpList_store_mid rfl 84 (.tmp 5) (.tmp 20) rfl w1.heap.size 0 ?e1 84 (cellsB zsec) (cellsB l) ?e2 (heap_alloc_new _ _) ?e3 ?e4 (oneCell_cellsB _) ?e5); case e1 => rfl
           case e2 => rfl
           case e3 => rw [length_cellsB, H64.out]; kernel_rfl
           case e4 => simp [length_cellsB, H64.out, zsec]
           rw [splice_pad]
           intro w2 hg2 hs2))
      have hp64 : pad l = l := by simp [pad, H64.out]
      rw [hp64] at hg2
      have hS2 : Stay (fun k => k = w.heap.size) wr w2 := hs1.trans ((Stay.alloc (X := fun k => k = w.heap.size) w1 _).andThen hs2 (fun k hk e => by omega))
      have hlt1 : pd < wr.heap.size := (Array.getElem?_eq_some_iff.1 HHD.out).1
      have hlt2 : ps < wr.heap.size := (Array.getElem?_eq_some_iff.1 HSEC.out).1
      have hhd2 : w2.heap[pd]? = some (.cells (hdr ps d.n pm d.cr d.lo d.ar d.left d.wr) 54 (0, 0)) := (hS2.block pd hlt1 (Ne.symm hr1)).trans HHD.out
      have hsec2 : w2.heap[ps]? = some (.cells (cellsB (flat (merge d.s d.L got) d.n)).toArray 84 (0, 0)) := (hS2.block ps hlt2 (Ne.symm hr2)).trans HSEC.out
      have d0 : w2.cell? ⟨pd, 0, none⟩ = some (.slice (some ⟨ps, 0, none⟩) d.n d.n) := cell_of_row w2 pd 0 _ _ _ hhd2
      refine wp_region_still_tail 7 (by kernel_rfl) (by kernel_rfl) ?_
      simp only [List.take_succ_cons, List.take_zero, List.drop_succ_cons, List.drop_zero]
      change wpStill _ _ w2.drew _ _ _
      iterate 5 still_step
      refine still_load_mid rfl 84 (.tmp 5) rfl w1.heap.size 0 rfl 84 (cellsB l).toArray (cellsB l).toArray (0, 0) _ hg2 Tryd.underlying84 rfl ?r1 (fun j _ => by rw [Nat.zero_add]) ?_
      case r1 => rw [List.size_toArray, length_cellsB, H64.out]; kernel_rfl
      still_step
      refine wpStill_nil ?_
      change wpList _ _ _ _ _ w2.drew
      have hmw : Wide (merge d.s d.L got) := merge_wide h.wide h.map.1 got
      refine wpList_store_mid rfl 84 (.tmp 27) (.tmp 26) rfl ps (j * 64) rfl 84 (cellsB (flat (merge d.s d.L got) d.n)) (cellsB l) rfl (w := w2.drew) hsec2 ?s1 ?s2 (oneCell_cellsB _) ?_
      case s1 => rw [length_cellsB, H64.out]; kernel_rfl
      case s2 => rw [length_cellsB, length_cellsB, H64.out, length_flat hmw]; omega
      intro w4 hg4 hs4
      rw [splice_cells hmw H64.out hjn, merge_step _ _ _ _ _ HJ.out] at hg4
      have hs4' : Stay (· = ps) w2 w4 := (Stay.drew (X := fun k => k = ps)).trans hs4
      have hrg2 := (hrg1.stay ((Stay.alloc (X := fun k => k = w1.heap.size) w1 _).trans hs2) (Nat.ne_of_lt hrg1.mapAt.lt) (Nat.ne_of_lt hrg1.lt)).stay hs4' (Ne.symm h.ne3) hr2
      have hml : w4.rangeLeft pm w.heap.size < wr.rangeLeft pm w.heap.size := by
        have e1 := rangeLeft_stay ((Stay.alloc (X := fun k => k = w1.heap.size) w1 _).trans hs2) (Nat.ne_of_lt hrg1.mapAt.lt) (Nat.ne_of_lt hrg1.lt) hrg1.mapAt.lt hrg1.lt
        have l1 : w.heap.size < w2.heap.size := by have := hrg1.lt; have := hs2.size; simp at this; omega
        have l2 : pm < w2.heap.size := by have := hrg1.mapAt.lt; have := hs2.size; simp at this; omega
        have e2 := rangeLeft_stay hs4' (Ne.symm h.ne3) hr2 l2 l1
        omega
      have hfin : FlushRel w pd ps pm d w.heap.size w4 := by
        refine ⟨_, hrg2, (hs4'.block pd (Nat.lt_of_lt_of_le hlt1 hS2.size) h.ne1).trans hhd2, hg4, ?_⟩
        exact (hst.andThen hS2 (fun k hk e => by omega)).andThen hs4' (fun k _ e => Or.inr (Or.inl e))
      go_frame
      go_roundw
      case rel => exact ⟨_, _, _, _, _, _, _, _, _, _, _, _, _, _, hfin, rfl⟩
      case measure => exact hml

end Go.Proofs.YthbcgimmbcdnmaaDoor
