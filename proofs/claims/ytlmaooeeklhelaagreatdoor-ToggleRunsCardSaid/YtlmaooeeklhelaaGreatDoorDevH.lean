/-
  dev: the contract of Start.
-/
import Derived.Test.YtlmaooeeklhelaaGreatDoorDevG
namespace Go.Proofs.YtlmaooeeklhelaaGreatDoor
open Go.RowKit Go.Maps
set_option maxRecDepth 100000

/-- The safe sectors behind the first i of the loose numbers 'keys', of which those that 'ks' keeps are laid in. -/
def stepS (s : Nat → List UInt8) (L : Nat → Option (List UInt8)) (keys : List Nat) (ks : List Bool) : Nat → (Nat → List UInt8)
  | 0 => s
  | i + 1 => if ks.getD i false = true then upd (stepS s L keys ks i) (keys.getD i 0) ((L (keys.getD i 0)).getD zsec) else stepS s L keys ks i

theorem stepS_wide {s : Nat → List UInt8} {L : Nat → Option (List UInt8)} {n : Nat} (h : Wide s) (hL : WideL L n) (keys : List Nat) (ks : List Bool) : ∀ i, Wide (stepS s L keys ks i)
  | 0 => h
  | i + 1 => by
    unfold stepS
    split
    · refine upd_wide (stepS_wide h hL keys ks i) _ ?_
      cases hj : L (keys.getD i 0) with
      | none => exact length_zsec
      | some l => exact (hL _ l hj).1
    · exact stepS_wide h hL keys ks i

def DS.started (d : DS) (ks : List Bool) : DS := { d with s := stepS d.s d.L (keysL d.L d.n) ks (keysL d.L d.n).length, L := none64, cr := false, ar := false }

/-- The relation of Start's loop. -/
def StartRel (w : World) (pd ps pm : Nat) (d : DS) (ks : List Bool) (i : Nat) (wr : World) : Prop :=
  DevAt wr pd ps pm { d with s := stepS d.s d.L (keysL d.L d.n) ks i } ∧ Stay (own pd ps pm) w wr

theorem length_keys (L : Nat → Option (List UInt8)) (n : Nat) : (keysI L n).length = (keysL L n).length := by simp [keysI]

theorem loose_nil (w : World) (pd ps pm : Nat) (d : DS) (h : DevAt w pd ps pm d) (hk : keysL d.L d.n = []) :
    Calls Tryz.prog 31 #[.pointer (some ⟨pd, 0, none⟩)] w fun e w' => e = .returned (.slice none 0 0) ∧ DevAt w' pd ps pm d ∧ Stay (fun _ => False) w w' := by
  refine (loose_any w pd ps pm d h).mono ?_
  rintro e w' ⟨v, rfl, _, hnil, hst⟩
  have : v = .slice none 0 0 := hnil.2 (by simp [keysI, hk])
  subst this
  exact ⟨rfl, h.stay hst (fun x => x) (fun x => x) (fun x => x), hst⟩

/-- The i-th loose number. -/
def keyAt (L : Nat → Option (List UInt8)) (n i : Nat) : Nat := (keysL L n).getD i 0

theorem loose_cons (w : World) (pd ps pm : Nat) (d : DS) (h : DevAt w pd ps pm d) (hk : keysL d.L d.n ≠ []) :
    Calls Tryz.prog 31 #[.pointer (some ⟨pd, 0, none⟩)] w fun e w' => ∃ g cap, e = .returned (.slice (some ⟨g, 0, none⟩) (keysL d.L d.n).length cap) ∧ w.heap.size ≤ g ∧ g < w'.heap.size ∧
      (∀ i, i < (keysL d.L d.n).length → w'.cell? ⟨g, i, none⟩ = some (.int .i64 (keyAt d.L d.n i : Int))) ∧ DevAt w' pd ps pm d ∧ Stay (fun _ => False) w w' := by
  refine (loose_any w pd ps pm d h).mono ?_
  rintro e w' ⟨v, rfl, hrow, hnil, hst⟩
  have hrow0 := hrow
  rcases hrow.2 with ⟨rfl, h0⟩ | ⟨g, cap, cur, rfl, hb, hg, r⟩
  · exact absurd (by rw [length_keys] at h0; exact List.eq_nil_of_length_eq_zero h0) hk
  · rw [length_keys]
    refine ⟨g, cap, rfl, hb, (Array.getElem?_eq_some_iff.1 hg).1, fun i hi => ?_, h.stay hst (fun x => x) (fun x => x) (fun x => x), hst⟩
    rw [hrow0.cellAt i (by rw [length_keys]; omega)]
    simp [keysI, keyAt, hi]

theorem set_cr (ps n pm : Nat) (cr lo ar : Bool) (left wr : Int) : (hdr ps n pm cr lo ar left wr).setIfInBounds 2 (.bool false) = hdr ps n pm false lo ar left wr := rfl
theorem set_ar (ps n pm : Nat) (cr lo ar : Bool) (left wr : Int) : (hdr ps n pm cr lo ar left wr).setIfInBounds 4 (.bool false) = hdr ps n pm cr lo false left wr := rfl

/-- What Start does last. -/
theorem start_end {w wr : World} {pd ps pm : Nat} {d : DS} {ks : List Bool} (hrel : StartRel w pd ps pm d ks (keysL d.L d.n).length wr) {w5 : World} (hm : MapAt Tryz.prog 3 w5 pm d.n none64) (hs : Stay (· = pm) wr w5) :
    DevAt ((w5.setCell ⟨pd, 2, none⟩ (.bool false)).setCell ⟨pd, 4, none⟩ (.bool false)) pd ps pm (d.started ks) ∧ Stay (own pd ps pm) w ((w5.setCell ⟨pd, 2, none⟩ (.bool false)).setCell ⟨pd, 4, none⟩ (.bool false)) := by
  obtain ⟨h, hst⟩ := hrel
  have hd5 := (hs.block pd h.lt1 h.ne2).trans h.hd
  have hd6 := heap_setCell_same w5 pd 2 _ _ (.bool false) hd5
  rw [set_cr] at hd6
  refine ⟨?_, ((hst.trans (hs.mono (fun k e => Or.inr (Or.inr e)))).trans (Stay.setCell (X := own pd ps pm) w5 _ _ (Or.inl rfl))).trans (Stay.setCell (X := own pd ps pm) _ _ _ (Or.inl rfl))⟩
  exact {
    hd := by rw [heap_setCell_same _ pd 4 _ _ (.bool false) hd6, set_ar]; rfl
    sec := by
      rw [heap_setCell_other _ _ _ _ (Ne.symm h.ne1), heap_setCell_other _ _ _ _ (Ne.symm h.ne1)]
      exact (hs.block ps h.lt2 h.ne3).trans h.sec
    map := (hm.stay (Stay.setCell (X := fun k => k = pd) w5 _ _ rfl) (Ne.symm h.ne2)).stay (Stay.setCell (X := fun k => k = pd) _ _ _ rfl) (Ne.symm h.ne2)
    wide := h.wide, n1 := h.n1, n2 := h.n2, ne1 := h.ne1, ne2 := h.ne2, ne3 := h.ne3 }

/-- Nothing is loose. -/
theorem start_idle (w : World) (pd ps pm : Nat) (d : DS) (kp : Option Addr) (cap : Nat) (ks : List Bool) (h : DevAt w pd ps pm d) (hlo : d.lo = false) (hk : keysL d.L d.n = []) :
    Calls Tryz.prog 10 #[.pointer (some ⟨pd, 0, none⟩), .slice kp ks.length cap] w fun e w' => e = .returned (.tuple #[]) ∧ DevAt w' pd ps pm (d.started ks) ∧ Stay (own pd ps pm) w w' := by
  have c3 := h.c3
  rw [hlo] at c3
  have HK := Lib.hid hk
  clear hlo hk
  go_enter Tryz.func10, Tryz.ntmps10
  go_wp2_with (go_at_call 31; refine (loose_nil w pd ps pm d h HK.out).mono ?_; rintro e w1 ⟨rfl, h1, hs1⟩)
  have hrel : StartRel w pd ps pm d ks (keysL d.L d.n).length w1 := by
    rw [HK.out]
    exact ⟨h1, hs1.mono (fun _ x => x.elim)⟩
  have d1 := h1.c1
  refine wp_loop_rounds 1 ?_
  rw [rounds_succ]
  go_wp2_with ((with_reducible refine wpList_clear rfl (.tmp 48) 67 73 rfl h1.map Tryz.underlying67 rfl ?_); intro w5 hm5 hs5
               have hfin := start_end hrel hm5 hs5
               have hd5 := (hs5.block pd h1.lt1 h1.ne2).trans h1.hd
               have g2 : w5.cell? ⟨pd, 2, none⟩ = some (.bool d.cr) := cell_of_row w5 pd 2 _ _ _ hd5
               have g4 : w5.cell? ⟨pd, 4, none⟩ = some (.bool d.ar) := cell_of_row w5 pd 4 _ _ _ hd5
               have f2 : w5.frozen? ⟨pd, 2, none⟩ = false := frozen_of_row w5 pd 2 _ _ hd5
               have f4 : w5.frozen? ⟨pd, 4, none⟩ = false := frozen_of_row w5 pd 4 _ _ hd5
               clear hd5)
  go_end0
  exact ⟨rfl, hfin.1, hfin.2⟩

end Go.Proofs.YtlmaooeeklhelaaGreatDoor
