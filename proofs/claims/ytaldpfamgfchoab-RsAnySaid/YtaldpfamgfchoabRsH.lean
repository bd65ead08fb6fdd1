/-
  rs: even; Encode.
-/
import Derived.Test.YtaldpfamgfchoabRsD
import Derived.Test.YtaldpfamgfchoabRsG
namespace Go.Proofs.Ytaldpfamgfchoab.Rs
open Go.RowKit Gf
set_option maxRecDepth 100000

/-- Are all rows as long as the first one? -/
def evenB (n : Nat) (L : Nat → Nat) : Bool := (firstP (fun i => L i != L 0) 0 n).isNone
theorem evenB_true {n : Nat} {L : Nat → Nat} : evenB n L = true ↔ ∀ i, i < n → L i = L 0 := by
  unfold evenB
  constructor
  · intro h i hi
    cases hp : firstP (fun i => L i != L 0) 0 n with
    | none => simpa using firstP_none hp i (by omega) (by omega)
    | some k => rw [hp] at h; cases h
  · intro h
    rw [firstP_all (fun i _ hi => by simp [h i (by omega)])]
    rfl

theorem even_one (W : World) (b n li ci : Nat) (ai a0 : Option Addr) (c L0 : Nat) (hb : W.cell? ⟨b, 0, none⟩ = some (.slice a0 n c)) (h0 : 0 < n) (hc : ∃ bb o a1 c1, a0 = some ⟨bb, o, none⟩ ∧ W.cell? ⟨bb, o, none⟩ = some (.slice a1 L0 c1)) :
    Calls Try.prog 20 #[.slice ai li ci, .pointer (some ⟨b, 0, none⟩)] W fun e w' => e = .returned (.bool (li != L0)) ∧ Stay (fun _ => False) W w' := by
  obtain ⟨bb, o, a1, c1, rfl, hcc⟩ := hc
  have q0 : (0 : Int) < (n : Int) := by omega
  have e : (((li : Int) != (L0 : Int)) : Bool) = (li != L0) := by
    by_cases h : li = L0
    · subst h; simp
    · have h1 : ((li : Int) == (L0 : Int)) = false := by simp; omega
      have h2 : (li == L0) = false := by simp; omega
      simp only [bne, h1, h2]
  clear h0
  go_enter Try.func20, Try.ntmps20
  go_wp2
  go_ret
  exact ⟨by rw [← e]; rfl, Stay.refl _ _⟩

set_option maxHeartbeats 1000000 in
theorem contains_even (w : World) (cap : Value) (p : Nat → Bool) (a0 : Option Addr) (n c : Nat) (L : Nat → Nat) (M : Nat → Nat → UInt8) (hx : SM (fun _ => False) w (.slice a0 n c) n L M)
    (hf : ∀ W i ai ci, Stay (fun _ => False) w W → i < n → Slc W (.slice ai (L i) ci) (lf (L i) (M i)) → Calls Try.prog 20 #[.slice ai (L i) ci, cap] W fun e w' => e = .returned (.bool (p i)) ∧ Stay (fun _ => False) W w') :
    Calls Try.prog 19 #[.slice a0 n c, .func (.func 20) #[] #[cap]] w fun e w' => e = .returned (.bool (firstP p 0 n).isSome) ∧ Stay (fun _ => False) w w' := by
  have HC := Lib.hid (index_even w cap p a0 n c L M hx hf)
  clear hx hf
  go_enter Try.func19, Try.ntmps19
  go_wp2_with fail
  refine HC.out.mono ?_
  rintro e w1 ⟨rfl, s1⟩
  have S1 := Lib.hid s1
  clear s1
  cases hp : firstP p 0 n with
  | none =>
    rw [show firstI p n = -1 by unfold firstI; rw [hp]]
    go_wp2
    go_ret
    exact ⟨by rw [hp]; rfl, S1.out⟩
  | some k =>
    rw [show firstI p n = (k : Int) by unfold firstI; rw [hp]]
    have q : (0 : Int) ≤ (k : Int) := by omega
    have HP := Lib.hid hp
    clear hp
    go_wp2
    go_ret
    refine ⟨?_, S1.out⟩
    rw [HP.out]
    simp

set_option maxHeartbeats 1000000 in
theorem even_any (w : World) (x : Value) (n : Nat) (L : Nat → Nat) (M : Nat → Nat → UInt8) (hx : SM (fun _ => False) w x n L M) :
    Calls Try.prog 13 #[x] w fun e w' => e = .returned (.bool (evenB n L)) ∧ Stay (fun _ => False) w w' := by
  obtain ⟨a0, c, rfl, hnc⟩ := hx.form
  have HX := Lib.hid hx
  clear hx
  go_enter Try.func13, Try.ntmps13
  obtain ⟨w1, hw1⟩ : ∃ w1, w1 = w.alloc (.cells #[.slice a0 n c] 34) := ⟨_, rfl⟩
  have hs1 : Stay (fun _ => False) w w1 := hw1 ▸ Stay.alloc w _
  have hc1 : w1.cell? ⟨w.heap.size, 0, none⟩ = some (.slice a0 n c) := by rw [hw1]; rw [cell_of_row _ _ _ _ _ _ (heap_alloc_new w _)]; rfl
  have S1 := Lib.hid hs1
  have C1 := Lib.hid hc1
  have HW := Lib.hid hw1
  clear hs1 hw1
  go_wp2_with fail
  rw [← HW.out]
  go_wp2_with fail
  refine (contains_even w1 _ (fun i => L i != L 0) a0 n c L M (HX.out.stay S1.out) (fun W i ai ci hs hi _ => even_one W w.heap.size n (L i) ci ai a0 c (L 0) (hs.cell C1.out (fun x => x)) (by omega) ?_)).mono ?_
  · obtain ⟨b, o, ak, ck, h1, h2, _⟩ := HX.out.row (k := 0) (by omega)
    exact ⟨b, o, ak, ck, h1, by have := ((h2.stay S1.out).stay hs).now; rwa [Nat.add_zero] at this⟩
  rintro e w2 ⟨rfl, s2⟩
  have S2 := Lib.hid s2
  clear s2 hc1
  obtain ⟨r, hr⟩ : ∃ r, r = firstP (fun i => L i != L 0) 0 n := ⟨_, rfl⟩
  rw [← hr]
  have HR := Lib.hid hr
  clear hr
  cases r with
  | none =>
    go_wp2
    go_ret
    exact ⟨by unfold evenB; rw [← HR.out]; rfl, S1.out.trans S2.out⟩
  | some k =>
    go_wp2
    go_ret
    exact ⟨by unfold evenB; rw [← HR.out]; rfl, S1.out.trans S2.out⟩

/-- Encode. -/
theorem encode_nil (w : World) (x : Value) : Calls Try.prog 6 #[.pointer none, x] w fun e w' => e = .returned (.tuple #[.slice none 0 0, .iface 42 (.int .i64 1)]) ∧ w' = w := by
  go_enter Try.func6, Try.ntmps6
  go_wp2_with fail
  refine (data_nil w).mono ?_
  rintro e w' ⟨rfl, rfl⟩
  go_wp2
  go_ret2
  exact ⟨rfl, rfl⟩
section
variable {w : World} {c g k m n : Nat} {x : Value} {L : Nat → Nat} {D : Nat → Nat → UInt8}
theorem encode_count (hc : Cd w c g k m) (hx : SM (· = g) w x n L D) (hn : n ≠ k) :
    Calls Try.prog 6 #[.pointer (some ⟨c, 0, none⟩), x] w fun e w' => e = .returned (.tuple #[.slice none 0 0, .iface 42 (.int .i64 1)]) ∧ w' = w := by
  obtain ⟨a0, c0, rfl, hnc⟩ := hx.form
  have HC := Lib.hid hc
  have k0 := hc.c0
  have q0 : ((k : Int) == 0) = false := by have := hc.k1; simp; omega
  have q1 : ((n : Int) != (k : Int)) = true := by simp; omega
  clear hc hx hn hnc
  go_enter Try.func6, Try.ntmps6
  go_wp2_with fail
  refine (data_any HC.out).mono ?_
  rintro e w' ⟨rfl, rfl⟩
  go_wp2
  go_ret2
  exact ⟨rfl, rfl⟩
set_option maxHeartbeats 1000000 in
theorem encode_long (hc : Cd w c g k m) (hx : SM (· = g) w x k L D) (hn : evenB k L = false) :
    Calls Try.prog 6 #[.pointer (some ⟨c, 0, none⟩), x] w fun e w' => e = .returned (.tuple #[.slice none 0 0, .iface 42 (.int .i64 2)]) ∧ Cd w' c g k m ∧ Stay (· = g) w w' := by
  obtain ⟨a0, c0, rfl, hnc⟩ := hx.form
  have HC := Lib.hid hc
  have HX := Lib.hid hx
  have HE := Lib.hid hn
  have k0 := hc.c0
  have q0 : ((k : Int) == 0) = false := by have := hc.k1; simp; omega
  clear hc hx hn hnc
  go_enter Try.func6, Try.ntmps6
  go_wp2_with fail
  refine (data_any HC.out).mono ?_
  rintro e w' ⟨rfl, rfl⟩
  go_wp2_with fail
  refine (even_any w' _ k L D (HX.out.mono (fun _ x => x.elim))).mono ?_
  rintro e w2 ⟨rfl, s2⟩
  rw [HE.out]
  have S2 := Lib.hid s2
  clear s2
  go_wp2
  go_ret2
  exact ⟨rfl, HC.out.stay0 S2.out, S2.out.mono (fun _ x => x.elim)⟩
set_option maxHeartbeats 1000000 in
theorem encode_good (hc : Cd w c g k m) (hx : SM (· = g) w x k L D) (hn : evenB k L = true) (hl : L 0 ≤ 281474976710656) :
    Calls Try.prog 6 #[.pointer (some ⟨c, 0, none⟩), x] w fun e w' => ∃ v, e = .returned (.tuple #[v, .nilIface]) ∧ SM (fun i => i < w.heap.size) w' v (k + m) (fun _ => L 0) (prodF k (rowF k) D) ∧ Cd w' c g k m ∧ Stay (· = g) w w' := by
  obtain ⟨a0, c0, rfl, hnc⟩ := hx.form
  have HC := Lib.hid hc
  have HX := Lib.hid hx
  have HE := Lib.hid hn
  have HL := Lib.hid hl
  have k0 := hc.c0
  have q0 : ((k : Int) == 0) = false := by have := hc.k1; simp; omega
  clear hc hx hn hnc hl
  go_enter Try.func6, Try.ntmps6
  go_wp2_with fail
  refine (data_any HC.out).mono ?_
  rintro e w' ⟨rfl, rfl⟩
  go_wp2_with fail
  refine (even_any w' _ k L D (HX.out.mono (fun _ x => x.elim))).mono ?_
  rintro e w2 ⟨rfl, s2⟩
  rw [HE.out]
  have S2 := Lib.hid s2
  clear s2
  go_wp2_with fail
  refine (all_any w2 c g k m (L 0) _ D (HC.out.stay0 S2.out) ((HX.out.stay (S2.out.mono (fun _ x => x.elim))).congr (L' := fun _ => L 0) (fun i hi => evenB_true.1 HE.out i hi) (fun _ _ _ _ => rfl)) HL.out).mono ?_
  rintro e w3 ⟨v, rfl, h3, c3, s3⟩
  obtain ⟨a3, c4, rfl, _⟩ := h3.form
  have H3 := Lib.hid h3
  have C3 := Lib.hid c3
  have S3 := Lib.hid s3
  clear h3 c3 s3
  go_wp2
  go_ret2
  exact ⟨_, rfl, H3.out.mono (fun i hi => Nat.lt_of_lt_of_le hi S2.out.size), C3.out, (S2.out.mono (fun _ x => x.elim)).trans S3.out⟩
end
end Go.Proofs.Ytaldpfamgfchoab.Rs
