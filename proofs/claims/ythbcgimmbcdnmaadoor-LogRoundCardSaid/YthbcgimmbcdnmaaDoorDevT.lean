/-
  dev, for the layers above: the contracts in the forms that they use (out of stage 1's texts), each call's answer as one function of the device (writeD, readD, flushD).
-/
import Derived.Test.YthbcgimmbcdnmaaDoorDevF
namespace Go.Proofs.YthbcgimmbcdnmaaDoor
open Go.RowKit Go.Maps
set_option maxRecDepth 100000

/-- The device's blocks are new ones, from block B on. -/
def From (B pd ps pm : Nat) : Prop := B ≤ pd ∧ B ≤ ps ∧ B ≤ pm

theorem From.not_own {B pd ps pm k : Nat} (h : From B pd ps pm) (hk : k < B) : ¬ own pd ps pm k := by
  obtain ⟨h1, h2, h3⟩ := h
  rintro (e | e | e) <;> omega

def fresh (n : Nat) : DS := ⟨n, fun _ => zsec, none64, false, false, false, 0, 0⟩

theorem new_at (n : Nat) (w : World) (h0 : 1 ≤ n) (h1 : n ≤ 16384) :
    Calls Tryd.prog 5 #[.int .i64 n] w fun e w' => ∃ pd ps pm, e = .returned (.tuple #[.pointer (some ⟨pd, 0, none⟩), .nilIface]) ∧ DevAt w' pd ps pm (fresh n) ∧ From w.heap.size pd ps pm ∧ Stay (fun _ => False) w w' := by
  refine (new_dev n w h0 h1).mono ?_
  rintro e w' ⟨rfl, hd, hs, _⟩
  exact ⟨_, _, _, rfl, hd, ⟨by omega, by omega, by omega⟩, hs⟩

/-- Write, where all is well and it is not armed. -/
theorem write_free (w : World) (pd ps pm : Nat) (d : DS) (i : Nat) (sp : Option Addr) (cap : Nat) (l : List UInt8) (h : DevAt w pd ps pm d) (hcr : d.cr = false) (hlo : d.lo = false) (har : d.ar = false) (hi : i < d.n) (hl : l.length ≤ 64)
    (hr : ReadsAs w sp l) (hro : 0 < l.length → ∀ ad, sp = some ad → ¬ own pd ps pm ad.block) (hw0 : 0 ≤ d.wr) (hw1 : d.wr < 4611686018427387904) :
    Calls Tryd.prog 37 #[.pointer (some ⟨pd, 0, none⟩), .int .i64 i, .slice sp l.length cap] w fun e w' => e = .returned .nilIface ∧ DevAt w' pd ps pm (d.wrote i l) ∧ Stay (own pd ps pm) w w' := by
  refine write_with w pd ps pm d d i sp cap l h hcr hlo hi hl hr hro ?_ rfl hw0 hw1
  have c4 := h.c4
  rw [har] at c4
  refine (spend_free pd w c4).mono ?_
  rintro e w' ⟨rfl, rfl⟩
  exact ⟨rfl, h, Stay.refl _ _⟩

/-- Read, where all is well. -/
theorem read_up (w : World) (pd ps pm : Nat) (d : DS) (i : Nat) (h : DevAt w pd ps pm d) (hcr : d.cr = false) (hlo : d.lo = false) (hi : i < d.n) :
    Calls Tryd.prog 36 #[.pointer (some ⟨pd, 0, none⟩), .int .i64 i] w fun e w' => ∃ g cap, e = .returned (.tuple #[.slice (some ⟨g, 0, none⟩) 64 cap, .nilIface]) ∧
      w.heap.size ≤ g ∧ (∀ j, j < 64 → w'.cell? ⟨g, j, none⟩ = (cellsB (d.cur i))[j]?) ∧ DevAt w' pd ps pm d ∧ Stay (fun _ => False) w w' := by
  have key : Calls Tryd.prog 36 #[.pointer (some ⟨pd, 0, none⟩), .int .i64 i] w fun e w' => ∃ v, e = .returned (.tuple #[v, .nilIface]) ∧
      w'.ownsRow w.heap.size 5 1 v 64 (cellsB (d.cur i)) ∧ Stay (fun _ => False) w w' ∧ v ≠ .slice none 0 0 := by
    cases hL : d.L i with
    | none => unfold DS.cur; rw [hL]; exact read_none w pd ps pm d i h hcr hlo hi hL
    | some l => unfold DS.cur; rw [hL]; exact read_some w pd ps pm d i l h hcr hlo hi hL
  refine key.mono ?_
  rintro e w' ⟨v, rfl, hrow, hs, hne⟩
  rcases hrow.2 with ⟨rfl, h0⟩ | ⟨g, cap, cur, rfl, hb, hg, r⟩
  · exact absurd h0 (by decide)
  · refine ⟨g, cap, rfl, hb, fun j hj => hrow.cellAt j (by omega), h.stay hs (fun x => x) (fun x => x) (fun x => x), hs⟩

theorem cur_flushed (d : DS) (i : Nat) : d.flushed.cur i = d.cur i := by simp [DS.flushed, DS.cur, none64]

theorem cur_wrote_same (d : DS) (i : Nat) (l : List UInt8) : (d.wrote i l).cur i = pad l := by simp [DS.wrote, DS.cur, updL]

theorem cur_wrote_other (d : DS) (i j : Nat) (l : List UInt8) (h : j ≠ i) : (d.wrote i l).cur j = d.cur j := by simp [DS.wrote, DS.cur, updL, h]

theorem not_own_new {w : World} {pd ps pm : Nat} {d : DS} (h : DevAt w pd ps pm d) : ¬ own pd ps pm w.heap.size := by
  have := h.lt1
  have := h.lt2
  have := h.lt3
  rintro (e | e | e) <;> omega

theorem DevAt.alloc {w : World} {pd ps pm : Nat} {d : DS} (h : DevAt w pd ps pm d) (o : Obj) : DevAt (w.alloc o) pd ps pm d := h.stay (Stay.alloc (X := fun _ => False) w _) (fun x => x) (fun x => x) (fun x => x)

theorem Stay.drewN {X : Nat → Prop} (w : World) (n : Nat) : Stay X w (w.drewN n) := ⟨rfl, rfl, rfl, Nat.le_refl _, fun _ _ _ => rfl⟩

/-- One cell of the header is written. -/
theorem dev_set {w : World} {pd ps pm : Nat} {d : DS} (h : DevAt w pd ps pm d) (j : Nat) (v : Value) (d' : DS) (hn : d'.n = d.n) (hs : d'.s = d.s) (hL : d'.L = d.L)
    (hh : (hdr ps d.n pm d.cr d.lo d.ar d.left d.wr).setIfInBounds j v = hdr ps d'.n pm d'.cr d'.lo d'.ar d'.left d'.wr) :
    DevAt (w.setCell ⟨pd, j, none⟩ v) pd ps pm d' ∧ Stay (own pd ps pm) w (w.setCell ⟨pd, j, none⟩ v) := by
  refine ⟨?_, Stay.setCell (X := own pd ps pm) w _ _ (Or.inl rfl)⟩
  exact {
    hd := by rw [heap_setCell_same w pd j _ _ _ h.hd, hh]
    sec := by rw [heap_setCell_other _ _ _ _ (Ne.symm h.ne1), hs, hn]; exact h.sec
    map := by rw [hn, hL]; exact h.map.stay (Stay.setCell (X := fun k => k = pd) w _ _ rfl) (Ne.symm h.ne2)
    wide := by rw [hs]; exact h.wide
    n1 := by rw [hn]; exact h.n1
    n2 := by rw [hn]; exact h.n2
    ne1 := h.ne1, ne2 := h.ne2, ne3 := h.ne3 }

theorem down_any (w : World) (pd ps pm : Nat) (d : DS) (h : DevAt w pd ps pm d) :
    Calls Tryd.prog 66 #[.pointer (some ⟨pd, 0, none⟩)] w fun e w' => e = .returned (.bool (d.cr || d.lo)) ∧ w = w' := down_yes pd d.cr d.lo w h.c2 h.c3

/-- Write, armed, with writes left. -/
theorem write_some (w : World) (pd ps pm : Nat) (d : DS) (i : Nat) (sp : Option Addr) (cap : Nat) (l : List UInt8) (h : DevAt w pd ps pm d) (hcr : d.cr = false) (hlo : d.lo = false) (har : d.ar = true) (hl0 : 0 < d.left) (hl1 : d.left ≤ 9223372036854775807) (hi : i < d.n) (hl : l.length ≤ 64)
    (hr : ReadsAs w sp l) (hro : 0 < l.length → ∀ ad, sp = some ad → ¬ own pd ps pm ad.block) (hw0 : 0 ≤ d.wr) (hw1 : d.wr < 4611686018427387904) :
    Calls Tryd.prog 37 #[.pointer (some ⟨pd, 0, none⟩), .int .i64 i, .slice sp l.length cap] w fun e w' => e = .returned .nilIface ∧ DevAt w' pd ps pm ({ d with left := d.left - 1 }.wrote i l) ∧ Stay (own pd ps pm) w w' := by
  refine write_with w pd ps pm d { d with left := d.left - 1 } i sp cap l h hcr hlo hi hl hr hro ?_ rfl hw0 hw1
  have c4 := h.c4
  rw [har] at c4
  refine (spend_some pd d.left w c4 h.c5 (h.fz 5) hl0 hl1).mono ?_
  rintro e w' ⟨rfl, rfl⟩
  obtain ⟨h1, s1⟩ := dev_set h 5 (.int .i64 (d.left - 1)) { d with left := d.left - 1 } rfl rfl rfl rfl
  exact ⟨rfl, h1, s1⟩

/-- Write, armed, with none left: it crashes. -/
theorem write_last (w : World) (pd ps pm : Nat) (d : DS) (i : Nat) (sp : Option Addr) (n cap : Nat) (h : DevAt w pd ps pm d) (hcr : d.cr = false) (hlo : d.lo = false) (har : d.ar = true) (hl0 : d.left = 0) (hi : i < d.n) (hn : n ≤ 64) :
    Calls Tryd.prog 37 #[.pointer (some ⟨pd, 0, none⟩), .int .i64 i, .slice sp n cap] w fun e w' => e = .returned (.iface 50 (.int .i64 13)) ∧ DevAt w' pd ps pm { d with cr := true } ∧ Stay (own pd ps pm) w w' := by
  have c0 := h.c0
  have c2 := h.c2
  have c3 := h.c3
  have c4 := h.c4
  have c5 := h.c5
  have f2 := h.fz 2
  obtain ⟨h1, s1⟩ := dev_set h 2 (.bool true) { d with cr := true } rfl rfl rfl rfl
  rw [hcr] at c2
  rw [hlo] at c3
  rw [har] at c4
  rw [hl0] at c5
  clear hcr hlo har hl0
  go_enter Tryd.func37, Tryd.ntmps37
  go_wp2_with fail
  refine (reach_in _ _ _ _ _ c0 c2 c3 (by omega) (by omega)).mono ?_
  rintro e w' ⟨rfl, rfl⟩
  go_wp2_with fail
  refine (spend_none pd w c4 c5 c2 f2).mono ?_
  rintro e w' ⟨rfl, rfl⟩
  go_wp2
  go_ret
  exact ⟨rfl, h1, s1⟩

theorem reach_down (pd : Nat) (i : Int) (cr lo : Bool) (w : World) (c2 : w.cell? ⟨pd, 2, none⟩ = some (.bool cr)) (c3 : w.cell? ⟨pd, 3, none⟩ = some (.bool lo)) (h : (cr || lo) = true) :
    Calls Tryd.prog 57 #[.pointer (some ⟨pd, 0, none⟩), .int .i64 i] w fun e w' => e = .returned (.iface 50 (.int .i64 13)) ∧ w = w' := by
  go_enter Tryd.func57, Tryd.ntmps57
  go_wp2_with fail
  refine (awake_down _ _ _ _ c2 c3 h).mono ?_
  rintro e w' ⟨rfl, rfl⟩
  go_wp2
  go_ret
  exact ⟨rfl, rfl⟩

theorem write_down (w : World) (pd ps pm : Nat) (d : DS) (i : Int) (v : Value) (h : DevAt w pd ps pm d) (hd : (d.cr || d.lo) = true) :
    Calls Tryd.prog 37 #[.pointer (some ⟨pd, 0, none⟩), .int .i64 i, v] w fun e w' => e = .returned (.iface 50 (.int .i64 13)) ∧ w = w' := by
  have c2 := h.c2
  have c3 := h.c3
  have HD := Lib.hid hd
  clear hd
  go_enter Tryd.func37, Tryd.ntmps37
  go_wp2_with fail
  refine (reach_down pd i d.cr d.lo w c2 c3 HD.out).mono ?_
  rintro e w' ⟨rfl, rfl⟩
  go_wp2
  go_ret
  exact ⟨rfl, rfl⟩

theorem read_down (w : World) (pd ps pm : Nat) (d : DS) (i : Int) (h : DevAt w pd ps pm d) (hd : (d.cr || d.lo) = true) :
    Calls Tryd.prog 36 #[.pointer (some ⟨pd, 0, none⟩), .int .i64 i] w fun e w' => e = .returned (.tuple #[.slice none 0 0, .iface 50 (.int .i64 13)]) ∧ w = w' := by
  have c2 := h.c2
  have c3 := h.c3
  have HD := Lib.hid hd
  clear hd
  go_enter Tryd.func36, Tryd.ntmps36
  go_wp2_with fail
  refine (reach_down pd i d.cr d.lo w c2 c3 HD.out).mono ?_
  rintro e w' ⟨rfl, rfl⟩
  go_wp2
  go_ret2
  exact ⟨rfl, rfl⟩

/-- Write outside: ErrRange, nothing is done. -/
theorem write_out (w : World) (pd ps pm : Nat) (d : DS) (i : Int) (v : Value) (h : DevAt w pd ps pm d) (hcr : d.cr = false) (hlo : d.lo = false) (hi : i < 0 ∨ d.n ≤ i) :
    Calls Tryd.prog 37 #[.pointer (some ⟨pd, 0, none⟩), .int .i64 i, v] w fun e w' => e = .returned (.iface 50 (.int .i64 4)) ∧ w = w' := by
  have c0 := h.c0
  have c2 := h.c2
  have c3 := h.c3
  rw [hcr] at c2
  rw [hlo] at c3
  clear hcr hlo
  go_enter Tryd.func37, Tryd.ntmps37
  go_wp2_with fail
  refine (reach_out _ _ _ _ _ c0 c2 c3 hi).mono ?_
  rintro e w' ⟨rfl, rfl⟩
  go_wp2
  go_ret
  exact ⟨rfl, rfl⟩

/-- Write of too much: ErrLong, nothing is done. -/
theorem write_long (w : World) (pd ps pm : Nat) (d : DS) (i : Nat) (sp : Option Addr) (n cap : Nat) (h : DevAt w pd ps pm d) (hcr : d.cr = false) (hlo : d.lo = false) (hi : i < d.n) (hn : 64 < n) :
    Calls Tryd.prog 37 #[.pointer (some ⟨pd, 0, none⟩), .int .i64 i, .slice sp n cap] w fun e w' => e = .returned (.iface 50 (.int .i64 2)) ∧ w = w' := by
  have c0 := h.c0
  have c2 := h.c2
  have c3 := h.c3
  rw [hcr] at c2
  rw [hlo] at c3
  clear hcr hlo
  go_enter Tryd.func37, Tryd.ntmps37
  go_wp2_with fail
  refine (reach_in _ _ _ _ _ c0 c2 c3 (by omega) (by omega)).mono ?_
  rintro e w' ⟨rfl, rfl⟩
  go_wp2
  go_ret
  exact ⟨rfl, rfl⟩

end Go.Proofs.YthbcgimmbcdnmaaDoor
