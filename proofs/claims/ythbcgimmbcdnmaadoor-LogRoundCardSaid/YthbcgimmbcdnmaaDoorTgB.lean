/-
  toggle: what a device's calls answer, each as one function of the device (writeD, flushD, readD); Sectors; which areas are in a device.
-/
import Derived.Test.YthbcgimmbcdnmaaDoorDevT
import Derived.Test.YthbcgimmbcdnmaaDoorPkH
namespace Go.Proofs.YthbcgimmbcdnmaaDoor.Tg
open Go.RowKit Pk
set_option maxRecDepth 100000

/-- Its counts can be. -/
structure DOk (d : DS) (K : Int) : Prop where
  w0 : 0 ≤ d.wr
  wk : d.wr ≤ K
  l : d.ar = true → 0 ≤ d.left ∧ d.left ≤ 9223372036854775807

theorem DOk.mono {d : DS} {K K' : Int} (h : DOk d K) (hk : K ≤ K') : DOk d K' := ⟨h.w0, by have := h.wk; omega, h.l⟩

def down (d : DS) : Bool := d.cr || d.lo

/-- Write, as a function: the device behind it, and the error's number. -/
def writeD (d : DS) (i : Int) (l : List UInt8) : DS × Nat :=
  if down d = true then (d, 13) else if i < 0 ∨ (d.n : Int) ≤ i then (d, 4) else if 64 < l.length then (d, 2) else
  if d.ar = true then (if d.left = 0 then ({ d with cr := true }, 13) else ({ d with left := d.left - 1 }.wrote i.toNat l, 0)) else (d.wrote i.toNat l, 0)

def flushD (d : DS) : DS × Nat := if down d = true then (d, 13) else (d.flushed, 0)

theorem writeD_n (d : DS) (i : Int) (l : List UInt8) : (writeD d i l).1.n = d.n := by unfold writeD; (repeat' split) <;> rfl
theorem writeD_ok {d : DS} {K : Int} (h : DOk d K) (i : Int) (l : List UInt8) : DOk (writeD d i l).1 (K + 1) := by
  have h1 := h.w0
  have h2 := h.wk
  have h3 := h.l
  unfold writeD
  repeat' split
  · exact h.mono (by omega)
  · exact h.mono (by omega)
  · exact h.mono (by omega)
  · exact ⟨h1, by show d.wr ≤ _; omega, h3⟩
  · rename_i har hl
    have := h3 har
    exact ⟨by show 0 ≤ d.wr + 1; omega, by show d.wr + 1 ≤ _; omega, fun _ => ⟨by show 0 ≤ d.left - 1; omega, by show d.left - 1 ≤ _; omega⟩⟩
  · exact ⟨by show 0 ≤ d.wr + 1; omega, by show d.wr + 1 ≤ _; omega, h3⟩
theorem flushD_n (d : DS) : (flushD d).1.n = d.n := by unfold flushD; split <;> rfl
theorem flushD_ok {d : DS} {K : Int} (h : DOk d K) : DOk (flushD d).1 K := by
  unfold flushD
  split
  · exact h
  · exact ⟨h.w0, h.wk, h.l⟩

theorem down_or {d : DS} {b : Bool} (h : down d = b) : (d.cr || d.lo) = b := h
theorem up_cr {d : DS} (h : ¬ down d = true) : d.cr = false ∧ d.lo = false := by
  unfold down at h
  cases hc : d.cr <;> cases hl : d.lo <;> simp_all

/-- A slice that reads as l, where the device isn't. -/
structure Arg (w : World) (pd ps pm : Nat) (x : Value) (l : List UInt8) : Prop where
  form : ∃ a0 c, x = .slice a0 l.length c ∧ Go.Proofs.YthbcgimmbcdnmaaDoor.ReadsAs w a0 l ∧ (0 < l.length → ∀ ad, a0 = some ad → ¬ own pd ps pm ad.block)

theorem Arg.of_slc {w : World} {pd ps pm : Nat} {x : Value} {l : List UInt8} (h : Slc w x l) (ho : 0 < l.length → ∀ k, x.ownBlock = some k → ¬ own pd ps pm k) : Arg w pd ps pm x l := by
  obtain ⟨a0, c, rfl, hr, _⟩ := h
  exact ⟨a0, c, rfl, hr, fun h0 ad e => ho h0 _ (by subst e; rfl)⟩

theorem write_all (w : World) (pd ps pm : Nat) (d : DS) (i : Int) (x : Value) (l : List UInt8) (h : DevAt w pd ps pm d) (hok : DOk d 4611686018427387903) (hx : Arg w pd ps pm x l) :
    Calls Tryd.prog 37 #[.pointer (some ⟨pd, 0, none⟩), .int .i64 i, x] w fun e w' => e = .returned (errV (writeD d i l).2) ∧ DevAt w' pd ps pm (writeD d i l).1 ∧ Stay (own pd ps pm) w w' := by
  obtain ⟨a0, c, rfl, hr, ho⟩ := hx.form
  have hw0 := hok.w0
  have hw1 := hok.wk
  by_cases hd : down d = true
  · have e1 : writeD d i l = (d, 13) := if_pos hd
    rw [e1]
    refine (write_down w pd ps pm d i _ h hd).mono ?_
    rintro e w' ⟨rfl, rfl⟩
    exact ⟨rfl, h, Stay.refl _ _⟩
  obtain ⟨hcr, hlo⟩ := up_cr hd
  by_cases hi : i < 0 ∨ (d.n : Int) ≤ i
  · have e1 : writeD d i l = (d, 4) := by unfold writeD; rw [if_neg hd, if_pos hi]
    rw [e1]
    refine (write_out w pd ps pm d i _ h hcr hlo hi).mono ?_
    rintro e w' ⟨rfl, rfl⟩
    exact ⟨rfl, h, Stay.refl _ _⟩
  obtain ⟨j, rfl⟩ : ∃ j : Nat, i = (j : Int) := ⟨i.toNat, by omega⟩
  have hj : j < d.n := by omega
  by_cases hl : 64 < l.length
  · have e1 : writeD d (j : Int) l = (d, 2) := by unfold writeD; rw [if_neg hd, if_neg hi, if_pos hl]
    rw [e1]
    refine (write_long w pd ps pm d j a0 l.length c h hcr hlo hj hl).mono ?_
    rintro e w' ⟨rfl, rfl⟩
    exact ⟨rfl, h, Stay.refl _ _⟩
  by_cases har : d.ar = true
  · obtain ⟨l0, l1⟩ := hok.l har
    by_cases hz : d.left = 0
    · have e1 : writeD d (j : Int) l = ({ d with cr := true }, 13) := by unfold writeD; rw [if_neg hd, if_neg hi, if_neg hl, if_pos har, if_pos hz]
      rw [e1]
      exact write_last w pd ps pm d j a0 l.length c h hcr hlo har hz hj (by omega)
    · have e1 : writeD d (j : Int) l = ({ d with left := d.left - 1 }.wrote j l, 0) := by unfold writeD; rw [if_neg hd, if_neg hi, if_neg hl, if_pos har, if_neg hz]; rfl
      rw [e1]
      exact write_some w pd ps pm d j a0 c l h hcr hlo har (by omega) l1 hj (by omega) hr ho hw0 (by omega)
  · have e1 : writeD d (j : Int) l = (d.wrote j l, 0) := by unfold writeD; rw [if_neg hd, if_neg hi, if_neg hl, if_neg har]; rfl
    rw [e1]
    exact write_free w pd ps pm d j a0 c l h hcr hlo (by simpa using har) hj (by omega) hr ho hw0 (by omega)

theorem flush_down (w : World) (pd ps pm : Nat) (d : DS) (h : DevAt w pd ps pm d) (hd : (d.cr || d.lo) = true) :
    Calls Tryd.prog 30 #[.pointer (some ⟨pd, 0, none⟩)] w fun e w' => e = .returned (.iface 50 (.int .i64 13)) ∧ w = w' := by
  have c2 := h.c2
  have c3 := h.c3
  have HD := Lib.hid hd
  clear hd
  go_enter Tryd.func30, Tryd.ntmps30
  go_wp2_with fail
  refine (awake_down pd d.cr d.lo w c2 c3 HD.out).mono ?_
  rintro e w' ⟨rfl, rfl⟩
  go_wp2
  go_ret
  exact ⟨rfl, rfl⟩

theorem flush_all (w : World) (pd ps pm : Nat) (d : DS) (h : DevAt w pd ps pm d) :
    Calls Tryd.prog 30 #[.pointer (some ⟨pd, 0, none⟩)] w fun e w' => e = .returned (errV (flushD d).2) ∧ DevAt w' pd ps pm (flushD d).1 ∧ Stay (own pd ps pm) w w' := by
  by_cases hd : down d = true
  · have e1 : flushD d = (d, 13) := if_pos hd
    rw [e1]
    refine (flush_down w pd ps pm d h hd).mono ?_
    rintro e w' ⟨rfl, rfl⟩
    exact ⟨rfl, h, Stay.refl _ _⟩
  · have e1 : flushD d = (d.flushed, 0) := if_neg hd
    obtain ⟨hcr, hlo⟩ := up_cr hd
    rw [e1]
    exact flush_up w pd ps pm d h hcr hlo

theorem sectors_any (w : World) (pd ps pm : Nat) (d : DS) (h : DevAt w pd ps pm d) :
    Calls Tryd.prog 32 #[.pointer (some ⟨pd, 0, none⟩)] w fun e w' => e = .returned (.int .i64 (d.n : Int)) ∧ w' = w := by
  have c0 := h.c0
  go_enter Tryd.func32, Tryd.ntmps32
  go_wp2
  go_ret
  exact ⟨rfl, rfl⟩

end Go.Proofs.YthbcgimmbcdnmaaDoor.Tg
