/-
  gf: the field's calls.
-/
import Derived.Test.YtaldpfamgfchoabGfB
import Derived.StillTailTactics
import Derived.Test.YtaldpfamgfchoabClass
namespace Go.Proofs.Ytaldpfamgfchoab.Gf
open Go.RowKit
set_option maxRecDepth 100000

theorem Made.fld {w : World} {g : Nat} (h : Made w g) : Fld w g := .inr h
theorem Made.stay {X : Nat → Prop} {w w' : World} {g : Nat} (h : Made w g) (hs : Stay X w w') (hx : ¬ X g) : Made w' g := FAt.stay h hs hx
theorem Made.lt {w : World} {g : Nat} (h : Made w g) : g < w.heap.size := FAt.lt h

/-- rest. -/
theorem rest_any (w : World) (n : Int) :
    Calls Try.prog 36 #[.int .i64 n] w fun e w' => e = .returned (.int .i64 (rs n : Int)) ∧ w' = w := by
  obtain ⟨r, hr⟩ : ∃ r, r = n.tmod 255 := ⟨_, rfl⟩
  have hr2 : n.tmod 255 = r := hr.symm
  have hb : -255 < r ∧ r < 255 := by
    rw [hr]
    have := Int.tmod_lt_of_pos n (b := 255) (by omega)
    have := Int.lt_tmod_of_pos n (b := 255) (by omega)
    omega
  have he : (rs n : Int) = if r < 0 then r + 255 else r := by
    rw [rs_cast, hr]
    have h3 := Int.tmod_add_mul_tdiv n 255
    split <;> omega
  have b1 := hb.1
  have b2 := hb.2
  have HE := Lib.hid he
  clear hr he hb
  by_cases hn : r < 0
  · go_enter Try.func36, Try.ntmps36
    go_wp2
    go_ret
    rw [HE.out, if_pos hn]
    exact ⟨rfl, rfl⟩
  · go_enter Try.func36, Try.ntmps36
    go_wp2
    go_ret
    rw [HE.out, if_neg (by omega)]
    exact ⟨rfl, rfl⟩

/-- log. -/
theorem log_tab (w : World) (g a : Nat) (ha : a < 256) (h : Made w g) :
    Calls Try.prog 32 #[.pointer (some ⟨g, 3, none⟩), .int .u8 (a : Int)] w fun e w' => e = .returned (.int .i64 (lg a : Int)) ∧ w' = w := by
  have c := FAt.cL h ha
  rw [lgK_at ha] at c
  have q0 : (a : Int) < 256 := by omega
  have q1 : (lg a : Int) < 255 := by have := lg_lt ha; omega
  clear h ha
  go_enter Try.func32, Try.ntmps32
  go_wp2
  go_ret
  exact ⟨rfl, rfl⟩

/-- power. -/
theorem power_tab (w : World) (g : Nat) (n : Int) (h : Made w g) :
    Calls Try.prog 33 #[.pointer (some ⟨g, 3, none⟩), .int .i64 n] w fun e w' => e = .returned (.int .u8 (expN n : Int)) ∧ Stay (fun _ => False) w w' := by
  have R := Lib.hid (fun W => rest_any W n)
  obtain ⟨r, hr⟩ : ∃ r, r = rs n := ⟨_, rfl⟩
  rw [← hr] at R
  have q1 : (r : Int) < 255 := by rw [hr]; have := rs_lt n; omega
  have hc : ∀ W, Stay (fun _ => False) w W → W.cell? ⟨g, 3 + r, none⟩ = some (.int .u8 (expN n : Int)) := by
    intro W hW
    have c := FAt.cP (FAt.stay h hW (fun x => x)) (i := r) (by omega)
    rw [pwK_at (by omega), hr] at c
    rw [hr]
    exact c
  have HC := Lib.hid hc
  clear hc h hr
  go_enter Try.func33, Try.ntmps33
  go_wp2
  have c0 := HC.out w (Stay.refl _ _)
  go_quiet ((go_at_call 36; exact Calls.quiet_of_same (R.out _)))
  go_wp2
  go_ret
  exact ⟨rfl, ⟨rfl, rfl, rfl, Nat.le_refl _, fun _ _ _ => rfl⟩⟩

/-- Mul. -/
theorem mul_any (w : World) (g a b : Nat) (ha : a < 256) (hb : b < 256) (h : Fld w g) :
    Calls Try.prog 29 #[.pointer (some ⟨g, 0, none⟩), .int .u8 (a : Int), .int .u8 (b : Int)] w fun e w' => e = .returned (.int .u8 (mulN a b : Int)) ∧ Fld w' g ∧ Stay (· = g) w w' := by
  have H := Lib.hid h
  have HA := Lib.hid ha
  have HB := Lib.hid hb
  clear h ha hb
  by_cases h0 : a = 0
  · subst h0
    rw [zero_mulN]
    go_enter Try.func29, Try.ntmps29
    go_wp2
    go_ret
    exact ⟨rfl, H.out, Stay.refl _ _⟩
  have e0 : ((a : Int) == 0) = false := by simp; omega
  by_cases h1 : b = 0
  · subst h1
    rw [mulN_zero]
    clear h0
    go_enter Try.func29, Try.ntmps29
    go_wp2
    go_ret
    exact ⟨rfl, H.out, Stay.refl _ _⟩
  have e1 : ((b : Int) == 0) = false := by simp; omega
  rw [mulN_ne h0 h1]
  obtain ⟨x, hx⟩ : ∃ x, x = lg a := ⟨_, rfl⟩
  obtain ⟨y, hy⟩ : ∃ y, y = lg b := ⟨_, rfl⟩
  rw [← hx, ← hy]
  have q0 : (x : Int) < 255 := by rw [hx]; have := lg_lt HA.out; omega
  have q1 : (y : Int) < 255 := by rw [hy]; have := lg_lt HB.out; omega
  have HX := Lib.hid hx
  have HY := Lib.hid hy
  clear h0 h1 hx hy
  go_enter Try.func29, Try.ntmps29
  go_wp2_with (go_at_call 31; refine (known_any g _ H.out).mono ?_; rintro e w1 ⟨rfl, h1, s1⟩)
  have H1 := Lib.hid h1
  have S1 := Lib.hid s1
  clear h1 s1
  go_wp2_with fail
  refine (log_tab w1 g a HA.out H1.out).mono ?_
  rintro e w' ⟨rfl, rfl⟩
  rw [← HX.out]
  go_wp2_with fail
  refine (log_tab w' g b HB.out H1.out).mono ?_
  rintro e w'' ⟨rfl, rfl⟩
  rw [← HY.out]
  go_wp2_with fail
  refine (power_tab w'' g _ H1.out).mono ?_
  rintro e w2 ⟨rfl, s2⟩
  have e2 : expN ((x : Int) + (y : Int)) = pw ((x + y) % 255) := by
    unfold expN
    rw [← Int.natCast_add, rs_nat']
  rw [e2]
  go_wp2
  go_ret
  exact ⟨rfl, (H1.out.stay s2 (fun x => x)).fld, S1.out.trans (s2.mono (fun _ x => x.elim))⟩

/-- Add. -/
theorem xor_u8 : ∀ a b : Fin 256, bits BinOp.xor IntKind.u8 ((a.val : Nat) : Int) ((b.val : Nat) : Int) = ((a.val ^^^ b.val : Nat) : Int) := by decide +kernel
theorem xor_byte {a b : Nat} (ha : a < 256) (hb : b < 256) : bits BinOp.xor IntKind.u8 (a : Int) (b : Int) = ((a ^^^ b : Nat) : Int) := xor_u8 ⟨a, ha⟩ ⟨b, hb⟩
theorem add_any (w : World) (g a b : Nat) (ha : a < 256) (hb : b < 256) :
    Calls Try.prog 30 #[.pointer (some ⟨g, 0, none⟩), .int .u8 (a : Int), .int .u8 (b : Int)] w fun e w' => e = .returned (.int .u8 ((a ^^^ b : Nat) : Int)) ∧ w' = w := by
  have hx := xor_byte ha hb
  rw [← hx]
  clear hx ha hb
  go_enter Try.func30, Try.ntmps30
  go_wp2
  go_ret
  exact ⟨rfl, rfl⟩

/-- Exp. -/
theorem exp_any (w : World) (g : Nat) (n : Int) (h : Fld w g) :
    Calls Try.prog 27 #[.pointer (some ⟨g, 0, none⟩), .int .i64 n] w fun e w' => e = .returned (.int .u8 (expN n : Int)) ∧ Fld w' g ∧ Stay (· = g) w w' := by
  have H := Lib.hid h
  clear h
  go_enter Try.func27, Try.ntmps27
  go_wp2_with fail
  refine (known_any g _ H.out).mono ?_
  rintro e w1 ⟨rfl, h1, s1⟩
  have H1 := Lib.hid h1
  have S1 := Lib.hid s1
  clear h1 s1
  go_wp2_with fail
  refine (power_tab w1 g _ H1.out).mono ?_
  rintro e w2 ⟨rfl, s2⟩
  go_wp2
  go_ret
  exact ⟨rfl, (H1.out.stay s2 (fun x => x)).fld, S1.out.trans (s2.mono (fun _ x => x.elim))⟩

/-- Log. -/
theorem log_zero (w : World) (g : Nat) :
    Calls Try.prog 26 #[.pointer (some ⟨g, 0, none⟩), .int .u8 0] w fun e w' => e = .returned (.tuple #[.int .i64 0, .iface 42 (.int .i64 14)]) ∧ w' = w := by
  go_enter Try.func26, Try.ntmps26
  go_wp2
  go_ret2
  exact ⟨rfl, rfl⟩
theorem log_any (w : World) (g a : Nat) (h0 : a ≠ 0) (ha : a < 256) (h : Fld w g) :
    Calls Try.prog 26 #[.pointer (some ⟨g, 0, none⟩), .int .u8 (a : Int)] w fun e w' => e = .returned (.tuple #[.int .i64 (lg a : Int), .nilIface]) ∧ Fld w' g ∧ Stay (· = g) w w' := by
  have H := Lib.hid h
  have HA := Lib.hid ha
  have e0 : ((a : Int) == 0) = false := by simp; omega
  clear h ha h0
  go_enter Try.func26, Try.ntmps26
  go_wp2_with fail
  refine (known_any g _ H.out).mono ?_
  rintro e w1 ⟨rfl, h1, s1⟩
  have H1 := Lib.hid h1
  have S1 := Lib.hid s1
  clear h1 s1
  go_wp2_with fail
  refine (log_tab w1 g a HA.out H1.out).mono ?_
  rintro e w' ⟨rfl, rfl⟩
  go_wp2
  go_ret2
  exact ⟨rfl, H1.out.fld, S1.out⟩
/-- Inv. -/
theorem inv_zero (w : World) (g : Nat) :
    Calls Try.prog 22 #[.pointer (some ⟨g, 0, none⟩), .int .u8 0] w fun e w' => e = .returned (.tuple #[.int .u8 0, .iface 42 (.int .i64 14)]) ∧ w' = w := by
  go_enter Try.func22, Try.ntmps22
  go_wp2_with fail
  refine (log_zero w g).mono ?_
  rintro e w' ⟨rfl, rfl⟩
  go_wp2
  go_ret2
  exact ⟨rfl, rfl⟩
theorem inv_any (w : World) (g a : Nat) (h0 : a ≠ 0) (ha : a < 256) (h : Fld w g) :
    Calls Try.prog 22 #[.pointer (some ⟨g, 0, none⟩), .int .u8 (a : Int)] w fun e w' => e = .returned (.tuple #[.int .u8 (invN a : Int), .nilIface]) ∧ Fld w' g ∧ Stay (· = g) w w' := by
  have H := Lib.hid h
  have HA := Lib.hid ha
  have H0 := Lib.hid h0
  clear h ha h0
  go_enter Try.func22, Try.ntmps22
  go_wp2_with fail
  refine (log_any w g a H0.out HA.out H.out).mono ?_
  rintro e w1 ⟨rfl, h1, s1⟩
  obtain ⟨x, hx⟩ : ∃ x, x = lg a := ⟨_, rfl⟩
  have q0 : (x : Int) < 255 := by rw [hx]; have := lg_lt HA.out; omega
  rw [← hx]
  have H1 := Lib.hid h1
  have S1 := Lib.hid s1
  have HX := Lib.hid hx
  clear h1 s1 hx
  go_wp2_with fail
  refine (exp_any w1 g _ H1.out).mono ?_
  rintro e w2 ⟨rfl, h2, s2⟩
  go_wp2
  go_ret2
  refine ⟨?_, h2, S1.out.trans s2⟩
  unfold invN
  rw [← HX.out]
  rfl
end Go.Proofs.Ytaldpfamgfchoab.Gf
