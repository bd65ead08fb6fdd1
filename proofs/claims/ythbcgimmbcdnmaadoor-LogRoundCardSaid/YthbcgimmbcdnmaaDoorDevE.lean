/-
  dev: the contract of Write.
-/
import Derived.Test.YthbcgimmbcdnmaaDoorDevD
namespace Go.Proofs.YthbcgimmbcdnmaaDoor
open Go.RowKit Go.Maps
set_option maxRecDepth 100000

/-- A text with noughts behind. -/
def pad (l : List UInt8) : List UInt8 := l ++ List.replicate (64 - l.length) 0
theorem length_pad {l : List UInt8} (h : l.length ≤ 64) : (pad l).length = 64 := by simp [pad]; omega
theorem splice_pad {l : List UInt8} : splice (cellsB zsec) 0 (cellsB l) = cellsB (pad l) := by
  have e : splice zsec 0 l = pad l := by simp only [splice, pad, zsec, List.take_zero, List.nil_append, List.drop_replicate, Nat.zero_add]
  rw [← e]; exact splice_map byteV _ _ _

/-- A slice of bytes that reads as l. -/
def ReadsAs (w : World) (sp : Option Addr) (l : List UInt8) : Prop := 0 < l.length → ∃ ad : Addr, sp = some ad ∧ ∀ j v, (cellsB l)[j]? = some v → w.cell? (ad.add j) = some v

theorem ReadsAs.stay {X : Nat → Prop} {w w' : World} {sp : Option Addr} {l : List UInt8} (h : ReadsAs w sp l) (hs : Stay X w w') (hx : 0 < l.length → ∀ ad, sp = some ad → ¬ X ad.block) : ReadsAs w' sp l := by
  intro h0
  obtain ⟨ad, rfl, hc⟩ := h h0
  refine ⟨ad, rfl, fun j v hv => ?_⟩
  have hb : (ad.add j).block = ad.block := by unfold Addr.add; split <;> rfl
  exact hs.cell (hc j v hv) (by rw [hb]; exact hx h0 ad rfl)

def DS.wrote (d : DS) (i : Nat) (l : List UInt8) : DS := { d with L := updL d.L i (pad l), wr := d.wr + 1 }

theorem set_wr (ps n pm : Nat) (cr lo ar : Bool) (left wr x : Int) : (hdr ps n pm cr lo ar left wr).setIfInBounds 6 (.int .i64 x) = hdr ps n pm cr lo ar left x := rfl

theorem write_with (w : World) (pd ps pm : Nat) (d d1 : DS) (i : Nat) (sp : Option Addr) (cap : Nat) (l : List UInt8) (h : DevAt w pd ps pm d) (hcr : d.cr = false) (hlo : d.lo = false) (hi : i < d.n) (hl : l.length ≤ 64)
    (hr : ReadsAs w sp l) (hro : 0 < l.length → ∀ ad, sp = some ad → ¬ own pd ps pm ad.block)
    (hsp : Calls Tryd.prog 58 #[.pointer (some ⟨pd, 0, none⟩)] w fun e w' => e = .returned .nilIface ∧ DevAt w' pd ps pm d1 ∧ Stay (own pd ps pm) w w')
    (hd1 : d1.n = d.n) (hw0 : 0 ≤ d1.wr) (hw1 : d1.wr < 4611686018427387904) :
    Calls Tryd.prog 37 #[.pointer (some ⟨pd, 0, none⟩), .int .i64 i, .slice sp l.length cap] w fun e w' => e = .returned .nilIface ∧ DevAt w' pd ps pm (d1.wrote i l) ∧ Stay (own pd ps pm) w w' := by
  have hn2 := h.n2
  have hwf := wfI i (by omega)
  have c0 := h.c0
  have c1 := h.c1
  have c2 := h.c2
  have c3 := h.c3
  rw [hcr] at c2
  rw [hlo] at c3
  have HSP := Lib.hid hsp
  have HD1 := Lib.hid hd1
  have HR := Lib.hid hr
  have HRO := Lib.hid hro
  clear hcr hlo hsp hd1 hr hro
  go_enter Tryd.func37, Tryd.ntmps37
  go_wp2_with (first
    | (go_at_call 57; refine (reach_in _ _ _ _ _ c0 c2 c3 (by omega) (by omega)).mono ?_; rintro e w' ⟨rfl, rfl⟩)
    | (go_at_call 58; refine HSP.out.mono ?_; rintro e w1 ⟨rfl, h1, hs1⟩)
    | ((with_reducible refine wpList_alloc_at rfl 84 rfl _ (zero_blk _) ?_); show wpList _ _ _ _ _ (w1.alloc (.cells (cellsB zsec).toArray 84)))
    | ((with_reducible refine wpList_copy_splice rfl (.tmp 25) (.tmp 26) 36 36 rfl 5 Tryd.underlying36 ?e1 (some ⟨w1.heap.size, 0, none⟩) sp 64 64 l.length cap ?e2 ?e3 w1.heap.size 0 (cellsB zsec) 84 (heap_alloc_new _ _) (cellsB l) ?e4 ?e5 ?e6 (oneCell_cellsB _) w1.heap.size _ (Below.refl _ _) (Nat.le_refl _) ?_)
       case e1 => kernel_rfl
       case e2 => rfl
       case e3 => rfl
       case e4 => rw [length_cellsB]; exact (Nat.min_eq_left hl).symm
       case e5 =>
         intro h0
         rw [length_cellsB] at h0
         exact ⟨rfl, ((HR.out.stay hs1 HRO.out).stay (Stay.alloc (X := fun _ => False) _ _) (fun _ _ _ x => x)) h0⟩
       case e6 => simp [length_cellsB, zsec]; omega
       intro w2 hg2 hb2))
  have h2 : DevAt w2 pd ps pm d1 := (h1.stay (Stay.alloc (X := fun _ => False) w1 _) (fun x => x) (fun x => x) (fun x => x)).stay (Stay.mk (X := fun k => w1.heap.size ≤ k) hb2.os hb2.tape hb2.output hb2.size (fun k _ hx => hb2.block k (by omega))) (Nat.not_le_of_lt h1.lt1) (Nat.not_le_of_lt h1.lt2) (Nat.not_le_of_lt h1.lt3)
  have hs2 : Stay (own pd ps pm) w w2 := hs1.trans (((Stay.alloc (X := fun _ => False) w1 _).andThen (Stay.mk (X := fun k => w1.heap.size ≤ k) hb2.os hb2.tape hb2.output hb2.size (fun k _ hx => hb2.block k (by omega))) (fun k hk e => by omega)).mono (fun _ x => x.elim))
  have hg3 : w2.heap[w1.heap.size]? = some (.cells (cellsB (pad l)).toArray 84 (0, 0)) := by rw [← splice_pad]; exact hg2.out
  have hlt2 : w1.heap.size < w2.heap.size := (Array.getElem?_eq_some_iff.1 hg3).1
  have d0 := h2.c1
  clear hg2
  refine wp_region_still_tail 6 (by kernel_rfl) (by kernel_rfl) ?_
  simp only [List.take_succ_cons, List.take_zero, List.drop_succ_cons, List.drop_zero]
  change wpStill _ _ w2.drew _ _ _
  iterate 5 still_step
  refine still_load_mid rfl 84 (.tmp 9) rfl w1.heap.size 0 rfl 84 (cellsB (pad l)).toArray (cellsB (pad l)).toArray (0, 0) _ hg3 Tryd.underlying84 rfl ?r1 (fun j _ => by rw [Nat.zero_add]) ?_
  case r1 => rw [List.size_toArray, length_cellsB, length_pad hl]; kernel_rfl
  refine wpStill_nil ?_
  change wpList _ _ _ _ _ w2.drew
  have hm := h2.map
  rw [HD1.out] at hm
  refine wpList_update rfl (.tmp 31) (.tmp 32) (.tmp 33) 52 84 rfl (w := w2.drew) (hm.stay (X := fun _ => False) Stay.drew (fun x => x)) Tryd.underlying3 Tryd.underlying52 (by unfold maxLen; omega) i hi hwf (pad l) (length_pad hl) rfl rfl rfl ?_
  intro w5 hm5 hs5
  have hs5' : Stay (· = pm) w2 w5 := (Stay.drew (X := fun k => k = pm)).trans hs5
  have hd5 : w5.heap[pd]? = some (.cells (hdr ps d1.n pm d1.cr d1.lo d1.ar d1.left d1.wr) 54 (0, 0)) := (hs5'.block pd h2.lt1 h2.ne2).trans h2.hd
  have g6 : w5.cell? ⟨pd, 6, none⟩ = some (.int .i64 d1.wr) := cell_of_row w5 pd 6 _ _ _ hd5
  have fz : w5.frozen? ⟨pd, 6, none⟩ = false := frozen_of_row w5 pd 6 _ _ hd5
  have hsec : w5.heap[ps]? = some (.cells (cellsB (flat d1.s d1.n)).toArray 84 (0, 0)) := (hs5'.block ps h2.lt2 h2.ne3).trans h2.sec
  have hfin : DevAt (w5.setCell ⟨pd, 6, none⟩ (.int .i64 (d1.wr + 1))) pd ps pm (d1.wrote i l) := {
    hd := by rw [heap_setCell_same w5 pd 6 _ _ _ hd5, set_wr]; rfl
    sec := by rw [heap_setCell_other _ _ _ _ (Ne.symm h2.ne1)]; exact hsec
    map := by
      rw [← HD1.out] at hm5
      exact hm5.stay (Stay.setCell (X := fun k => k = pd) w5 _ _ rfl) (Ne.symm h2.ne2)
    wide := h2.wide, n1 := h2.n1, n2 := h2.n2, ne1 := h2.ne1, ne2 := h2.ne2, ne3 := h2.ne3 }
  have hsf : Stay (own pd ps pm) w (w5.setCell ⟨pd, 6, none⟩ (.int .i64 (d1.wr + 1))) := (hs2.trans (hs5'.mono (fun k e => Or.inr (Or.inr e)))).trans (Stay.setCell (X := own pd ps pm) w5 _ _ (Or.inl rfl))
  clear hd5 hsec hm5 hm hg3 d0 c0 c1 c2 c3 hs5 hs5' hwf
  go_wp2
  go_ret
  exact ⟨rfl, hfin, hsf⟩

end Go.Proofs.YthbcgimmbcdnmaaDoor
