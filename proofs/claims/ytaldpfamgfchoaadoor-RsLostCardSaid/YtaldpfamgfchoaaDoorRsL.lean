/-
  rs: Row, Invert.
-/
import Derived.Test.YtaldpfamgfchoaaDoorRsO
namespace Go.Proofs.YtaldpfamgfchoaaDoor.Rs
open Go.RowKit Gf
set_option maxRecDepth 100000

theorem row_nil (w : World) (p : Int) : Calls Tryd.prog 14 #[.pointer none, .int .i64 p] w fun e w' => e = .returned (.tuple #[.slice none 0 0, .iface 64 (.int .i64 1)]) ∧ w' = w := by
  by_cases h : p < 0
  · go_enter Tryd.func14, Tryd.ntmps14
    go_wp2
    go_ret2
    exact ⟨rfl, rfl⟩
  · have h2 : 0 ≤ p := by omega
    go_enter Tryd.func14, Tryd.ntmps14
    go_wp2_with fail
    refine (parts_nil w).mono ?_
    rintro e w' ⟨rfl, rfl⟩
    go_wp2
    go_ret2
    exact ⟨rfl, rfl⟩
section
variable {w : World} {c g k m : Nat}
theorem rowx_bad (hc : Cd w c g k m) (p : Int) (hp : p < 0 ∨ ((k + m : Nat) : Int) ≤ p) :
    Calls Tryd.prog 14 #[.pointer (some ⟨c, 0, none⟩), .int .i64 p] w fun e w' => e = .returned (.tuple #[.slice none 0 0, .iface 64 (.int .i64 1)]) ∧ w' = w := by
  by_cases h : p < 0
  · clear hp
    go_enter Tryd.func14, Tryd.ntmps14
    go_wp2
    go_ret2
    exact ⟨rfl, rfl⟩
  · have h2 : ((k + m : Nat) : Int) ≤ p := by omega
    have HC := Lib.hid hc
    generalize hn : k + m = n at h2
    have HN := Lib.hid hn
    clear hp hc hn
    go_enter Tryd.func14, Tryd.ntmps14
    go_wp2_with fail
    refine (parts_any HC.out).mono ?_
    rintro e w' ⟨rfl, rfl⟩
    rw [HN.out]
    go_wp2
    go_ret2
    exact ⟨rfl, rfl⟩
theorem rowx_good (hc : Cd w c g k m) (p : Nat) (hp : p < k + m) :
    Calls Tryd.prog 14 #[.pointer (some ⟨c, 0, none⟩), .int .i64 (p : Int)] w fun e w' => e = .returned (.tuple #[.slice (some ⟨w.heap.size, 0, none⟩) k k, .nilIface]) ∧ FB w' w.heap.size k (rowF k p) ∧ Cd w' c g k m ∧ Stay (· = g) w w' := by
  have h1 : ¬ (p : Int) < 0 := by omega
  have HC := Lib.hid hc
  have HP := Lib.hid hp
  generalize hn : k + m = n at hp
  have h2 : ¬ (n : Int) ≤ (p : Int) := by omega
  have HN := Lib.hid hn
  clear hp hc hn
  go_enter Tryd.func14, Tryd.ntmps14
  go_wp2_with fail
  refine (parts_any HC.out).mono ?_
  rintro e w' ⟨rfl, rfl⟩
  rw [HN.out]
  go_wp2_with fail
  refine (row_any w' c g k m p HC.out HP.out).mono ?_
  rintro e w2 ⟨rfl, h2, c2, s2⟩
  have H2 := Lib.hid h2
  have C2 := Lib.hid c2
  have S2 := Lib.hid s2
  clear h2 c2 s2
  go_wp2
  go_ret2
  exact ⟨rfl, H2.out, C2.out, S2.out⟩
end

/-- Is it a matrix that may be asked for its inverse? -/
def sqB (n : Nat) (L : Nat → Nat) : Bool := decide (0 < n) && decide (n ≤ 32) && decide (L 0 = n) && evenB n L
theorem sqB_true {n : Nat} {L : Nat → Nat} : sqB n L = true ↔ 0 < n ∧ n ≤ 32 ∧ ∀ i, i < n → L i = n := by
  unfold sqB
  simp only [Bool.and_eq_true, decide_eq_true_eq, evenB_true]
  constructor
  · rintro ⟨⟨⟨h1, h2⟩, h3⟩, h4⟩
    exact ⟨h1, h2, fun i hi => (h4 i hi).trans h3⟩
  · rintro ⟨h1, h2, h3⟩
    exact ⟨⟨⟨h1, h2⟩, h3 0 h1⟩, fun i hi => (h3 i hi).trans (h3 0 h1).symm⟩

set_option maxHeartbeats 1000000 in
theorem invert_bad (w : World) (x : Value) (n : Nat) (L : Nat → Nat) (M : Nat → Nat → UInt8) (hx : SM (fun _ => False) w x n L M) (hb : sqB n L = false) :
    Calls Tryd.prog 26 #[x] w fun e w' => e = .returned (.tuple #[.slice none 0 0, .iface 64 (.int .i64 1)]) ∧ Stay (fun _ => False) w w' := by
  obtain ⟨a0, c, rfl, hnc⟩ := hx.form
  by_cases h0 : n = 0
  · subst h0
    clear hb hx hnc
    go_enter Tryd.func26, Tryd.ntmps26
    go_wp2
    go_ret2
    exact ⟨rfl, Stay.refl _ _⟩
  have e0 : ((n : Int) == 0) = false := by simp; omega
  by_cases h1 : 32 < n
  · have e1 : (32 : Int) < (n : Int) := by omega
    clear hb hx hnc h0
    go_enter Tryd.func26, Tryd.ntmps26
    go_wp2
    go_ret2
    exact ⟨rfl, Stay.refl _ _⟩
  have e1 : ¬ (32 : Int) < (n : Int) := by omega
  obtain ⟨b, o, ak, ck, rfl, cR, sR, _⟩ := hx.row (k := 0) (by omega)
  rw [Nat.add_zero] at cR
  have k1 := cR.now
  have q0 : (0 : Int) < (n : Int) := by omega
  by_cases h2 : L 0 = n
  · have e2 : ((L 0 : Int) != (n : Int)) = false := by rw [h2]; simp
    have h3 : evenB n L = false := by
      unfold sqB at hb
      have a1 : decide (0 < n) = true := by simp; omega
      have a2 : decide (n ≤ 32) = true := by simp; omega
      have a3 : decide (L 0 = n) = true := by simp [h2]
      rw [a1, a2, a3] at hb
      simpa using hb
    have HX := Lib.hid hx
    have HE := Lib.hid h3
    clear hb hx hnc h0 h1 h2 h3 cR sR
    go_enter Tryd.func26, Tryd.ntmps26
    go_wp2_with fail
    refine (even_any w _ n L M HX.out).mono ?_
    rintro e w2 ⟨rfl, s2⟩
    rw [HE.out]
    have S2 := Lib.hid s2
    clear s2
    go_wp2
    go_ret2
    exact ⟨rfl, S2.out⟩
  · have e2 : ((L 0 : Int) != (n : Int)) = true := by simp; omega
    clear hb hx hnc h0 h1 h2 cR sR
    go_enter Tryd.func26, Tryd.ntmps26
    go_wp2
    go_ret2
    exact ⟨rfl, Stay.refl _ _⟩

set_option maxHeartbeats 1000000 in
theorem invert_good (w : World) (x : Value) (n : Nat) (L : Nat → Nat) (M : Nat → Nat → UInt8) (hx : SM (fun _ => False) w x n L M) (hb : sqB n L = true) :
    Calls Tryd.prog 26 #[x] w fun e w' => Stay (fun _ => False) w w' ∧
      ((runR n (augR n M) n = none ∧ e = .returned (.tuple #[.slice none 0 0, .iface 64 (.int .i64 14)])) ∨
       (∃ R v, runR n (augR n M) n = some R ∧ e = .returned (.tuple #[v, .nilIface]) ∧ SM (fun i => i < w.heap.size) w' v n (fun _ => n) (backR n R))) := by
  obtain ⟨a0, c, rfl, hnc⟩ := hx.form
  obtain ⟨h0, h1, h2⟩ := sqB_true.1 hb
  have e0 : ((n : Int) == 0) = false := by simp; omega
  have e1 : ¬ (32 : Int) < (n : Int) := by omega
  obtain ⟨b, o, ak, ck, rfl, cR, sR, _⟩ := hx.row (k := 0) (by omega)
  rw [Nat.add_zero, h2 0 h0] at cR
  have k1 := cR.now
  have q0 : (0 : Int) < (n : Int) := by omega
  have e2 : ((n : Int) != (n : Int)) = false := by simp
  have HX := Lib.hid hx
  have HE := Lib.hid (evenB_true.2 fun i hi => (h2 i hi).trans (h2 0 h0).symm)
  have H0 := Lib.hid h0
  have H1 := Lib.hid h1
  have H2 := Lib.hid h2
  clear hb hx hnc h0 h1 h2 cR sR
  go_enter Tryd.func26, Tryd.ntmps26
  go_wp2_with fail
  refine (even_any w _ n L M HX.out).mono ?_
  rintro e w2 ⟨rfl, s2⟩
  rw [HE.out]
  have S2 := Lib.hid s2
  clear s2
  go_wp2_with fail
  refine (new_any w2).mono ?_
  rintro e w3 ⟨rfl, f3, s3⟩
  have F3 := Lib.hid f3
  have S3 := Lib.hid (S2.out.trans s3)
  have HS := Lib.hid (S2.out.size)
  clear f3 s3
  go_wp2_with fail
  refine (inverse_any w3 w2.heap.size n _ M F3.out (((HX.out.congr (L' := fun _ => n) (M' := M) H2.out (fun _ _ _ _ => rfl)).push S3.out (fun i hi e => by have := HS.out; omega))) H0.out (by have := H1.out; omega)).mono ?_
  rintro e w4 ⟨f4, s4, hr⟩
  have S4 := Lib.hid (S3.out.andThen s4 (fun i hi e => by have := HS.out; omega))
  have HZ := Lib.hid S3.out.size
  clear f4 s4
  rcases hr with ⟨hr, rfl⟩ | ⟨R, v, hr, rfl, hv⟩
  · have HR := Lib.hid hr
    clear hr
    go_wp2
    go_ret2
    exact ⟨S4.out, .inl ⟨HR.out, rfl⟩⟩
  · obtain ⟨a4, c4, rfl, _⟩ := hv.form
    have HR := Lib.hid hr
    have HV := Lib.hid hv
    clear hr hv
    go_wp2
    go_ret2
    exact ⟨S4.out, .inr ⟨R, _, HR.out, rfl, HV.out.mono (fun i hi => by have := HZ.out; omega)⟩⟩
end Go.Proofs.YtaldpfamgfchoaaDoor.Rs
