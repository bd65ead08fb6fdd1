/-
  keccak: blend.
-/
import Derived.Test.YtljhfccaoncjeaaDoorKeD
namespace Go.Proofs.YtljhfccaoncjeaaDoor.Ke
open Go.RowKit
set_option maxRecDepth 100000

theorem nv_zero : nv 0 = 0 := by decide
theorem rot_quiet (a : U) (k : Nat) (w : World) (hk : k < 64) : Calls Tryd.prog 48 #[.int .u64 (nv a), .int .i64 k] w fun e w' => e = .returned (.int .u64 (nv (rotl a k))) ∧ w' = w :=
  (rot_any a k w hk).mono fun _ _ ⟨a, b⟩ => ⟨a, b.symm⟩

theorem stay_set (w : World) (g i : Nat) (v : Value) : Stay (fun k => k = g) w (w.setCell ⟨g, i, none⟩ v) := Stay.setCell _ _ _ rfl
theorem stay_setD (w : World) (g i : Nat) (v : Value) : Stay (fun k => k = g) w (w.setCell ⟨g, i, none⟩ v).drew := (stay_set w g i v).trans Stay.drew

/-- The first x columns. -/
def colP (f : St) (x : Nat) : St := fun i => if i < x then col f i else 0
theorem colP_put (f : St) (x : Nat) : ∀ i, put (colP f x) x (col f x) i = colP f (x + 1) i := by
  intro i
  unfold put colP
  by_cases h : i = x
  · subst h
    rw [if_pos rfl, if_pos (by omega)]
  · rw [if_neg h]
    by_cases h1 : i < x
    · rw [if_pos h1, if_pos (by omega)]
    · rw [if_neg h1, if_neg (by omega)]
/-- The lanes of the first x columns, and the first k of the column x, are done. -/
def thP (f : St) (x k : Nat) : St := fun j => if j % 5 < x ∨ (j % 5 = x ∧ j / 5 < k) then theta f j else f j
theorem thP_start (f : St) : ∀ i, f i = thP f 0 0 i := by
  intro i
  unfold thP
  rw [if_neg (by omega)]
theorem thP_next (f : St) (x : Nat) : ∀ i, i < 25 → thP f x 5 i = thP f (x + 1) 0 i := by
  intro i hi
  unfold thP
  by_cases h : i % 5 < x + 1
  · rw [if_pos (by omega), if_pos (by omega)]
  · rw [if_neg (by omega), if_neg (by omega)]
theorem thP_end (f : St) : ∀ i, i < 25 → thP f 5 0 i = theta f i := by
  intro i hi
  unfold thP
  rw [if_pos (by omega)]
theorem thP_at (f : St) {x k : Nat} (hx : x < 5) : thP f x k (x + 5 * k) = f (x + 5 * k) := by
  unfold thP
  rw [if_neg (by omega)]
theorem thP_put (f : St) {x k : Nat} (hx : x < 5) : ∀ i, put (thP f x k) (x + 5 * k) (f (x + 5 * k) ^^^ both f x) i = thP f x (k + 1) i := by
  intro i
  unfold put
  by_cases h : i = x + 5 * k
  · subst h
    rw [if_pos rfl]
    unfold thP theta
    rw [if_pos (by omega), show (x + 5 * k) % 5 = x by omega]
  · rw [if_neg h]
    unfold thP
    by_cases h1 : i % 5 < x ∨ i % 5 = x ∧ i / 5 < k
    · rw [if_pos h1, if_pos (by omega)]
    · rw [if_neg h1, if_neg (by omega)]

set_option maxHeartbeats 2000000 in
theorem blend_any (w : World) (g : Nat) (f : St) (t : Nat) (h : StAt w g f t) :
    Calls Tryd.prog 44 #[.pointer (some ⟨g, 0, none⟩)] w fun e w' => e = .returned (.tuple #[]) ∧ StAt w' g (theta f) t ∧ Stay (· = g) w w' := by
  have hlt := h.lt
  have hn : UAt (w.alloc (.cells #[.int .u64 0, .int .u64 0, .int .u64 0, .int .u64 0, .int .u64 0] 68)) w.heap.size 68 5 (colP f 0) [] := heap_alloc_new w _
  have HN := Lib.hid hn
  have H := Lib.hid h
  have HL := Lib.hid hlt
  clear h hn hlt
  go_enter Tryd.func44, Tryd.ntmps44
  go_wp2
  go_loopw [7] (fun i wr => ∃ x : Nat, x ≤ 5 ∧ i = .int .i64 (x : Int) ∧ UAt wr w.heap.size 68 5 (colP f x) [] ∧ StAt wr g f t ∧ Stay (fun _ => False) w wr) (fun i _ => 5 - (intOf i).toNat)
  case atStart => exact ⟨0, by omega, rfl, HN.out, H.out.stay (Stay.alloc (X := fun _ => False) _ _) (fun x => x), Stay.alloc _ _⟩
  case round =>
    obtain ⟨x, hx, rfl, hc, hs, hst⟩ := hrel
    by_cases hlt : x < 5
    · obtain ⟨y1, hy1⟩ : ∃ y, y = x + 5 := ⟨_, rfl⟩
      obtain ⟨y2, hy2⟩ : ∃ y, y = x + 10 := ⟨_, rfl⟩
      obtain ⟨y3, hy3⟩ : ∃ y, y = x + 15 := ⟨_, rfl⟩
      obtain ⟨y4, hy4⟩ : ∃ y, y = x + 20 := ⟨_, rfl⟩
      have c0 := hs.c (i := x) (by omega)
      have c1 := hs.c (i := y1) (by omega)
      have c2 := hs.c (i := y2) (by omega)
      have c3 := hs.c (i := y3) (by omega)
      have c4 := hs.c (i := y4) (by omega)
      have cc := hc.c (i := x) hlt
      have cf := hc.fr x
      have e1 : IntKind.i64.wrap ((x : Int) + 5) = (y1 : Int) := by rw [i64_small (by omega) (by omega)]; omega
      have e2 : IntKind.i64.wrap ((x : Int) + 10) = (y2 : Int) := by rw [i64_small (by omega) (by omega)]; omega
      have e3 : IntKind.i64.wrap ((x : Int) + 15) = (y3 : Int) := by rw [i64_small (by omega) (by omega)]; omega
      have e4 : IntKind.i64.wrap ((x : Int) + 20) = (y4 : Int) := by rw [i64_small (by omega) (by omega)]; omega
      have q0 : (x : Int) < 25 := by omega
      have q1 : (y1 : Int) < 25 := by omega
      have q2 : (y2 : Int) < 25 := by omega
      have q3 : (y3 : Int) < 25 := by omega
      have q4 : (y4 : Int) < 25 := by omega
      have r0 : (x : Int) < 5 := by omega
      have HC := Lib.hid hc
      have HS := Lib.hid hs
      have Y1 := Lib.hid hy1
      have Y2 := Lib.hid hy2
      have Y3 := Lib.hid hy3
      have Y4 := Lib.hid hy4
      have HX := Lib.hid hlt
      have HST := Lib.hid hst
      clear hc hs hy1 hy2 hy3 hy4 hlt hst
      go_wp2
      refine wp_region_still_tail 35 (by kernel_rfl) (by kernel_rfl) ?_
      simp only [List.take_succ_cons, List.take_zero, List.drop_succ_cons, List.drop_zero]
      repeat still_step
      rw [xor_nv, xor_nv, xor_nv, xor_nv]
      refine wpStill_nil ?_
      clear e1 e2 e3 e4
      go_wp2
      have hcl := HC.out.lt
      refine ⟨⟨x + 1, by omega, by go_num, ?_, HS.out.stay (X := fun k => k = w.heap.size) (stay_setD _ _ _ _) (Nat.ne_of_lt HL.out), stay_seal (X := fun k => w.heap.size ≤ k) (((HST.out.mono (fun _ x => x.elim)).trans (Stay.setCell wr ⟨w.heap.size, x, none⟩ _ (Nat.le_refl w.heap.size))).trans Stay.drew) (fun _ hk => hk)⟩, by simp [intOf]; omega⟩
      have e := HC.out.set HX.out (f x ^^^ f y1 ^^^ f y2 ^^^ f y3 ^^^ f y4)
      refine UAt.congr (f := put (colP f x) x (col f x)) ?_ (fun i _ => colP_put f x i)
      rw [show col f x = f x ^^^ f y1 ^^^ f y2 ^^^ f y3 ^^^ f y4 by rw [Y1.out, Y2.out, Y3.out, Y4.out]; rfl]
      exact e
    · obtain rfl : x = 5 := by omega
      obtain ⟨w1, hw1⟩ : ∃ w1, w1 = wr := ⟨_, rfl⟩
      subst hw1
      rw [show ((5 : Nat) : Int) = 5 from rfl]
      have HC := Lib.hid (hc.congr (f' := col f) (fun i hi => if_pos hi))
      have HS := Lib.hid hs
      have HST := Lib.hid hst
      clear hc hs hst
      go_wp2
      go_loopw [46] (fun i wr => ∃ x : Nat, x ≤ 5 ∧ i = .int .i64 (x : Int) ∧ UAt wr w.heap.size 68 5 (col f) [] ∧ StAt wr g (thP f x 0) t ∧ Stay (fun k => k = g ∨ w.heap.size ≤ k) w wr) (fun i _ => 5 - (intOf i).toNat)
      case atStart => exact ⟨0, by omega, rfl, HC.out, HS.out.congr (fun i _ => thP_start f i), HST.out.mono (fun _ x => x.elim)⟩
      case round =>
        obtain ⟨x, hx, rfl, hc, hs, hst⟩ := hrel
        by_cases hlt : x < 5
        · obtain ⟨y1, hy1⟩ : ∃ y, y = (x + 4) % 5 := ⟨_, rfl⟩
          obtain ⟨y2, hy2⟩ : ∃ y, y = (x + 1) % 5 := ⟨_, rfl⟩
          have c1 := hc.c (i := y1) (by omega)
          have c2 := hc.c (i := y2) (by omega)
          have e0 : IntKind.i64.wrap ((x : Int) + 4) = (x : Int) + 4 := i64_small (by omega) (by omega)
          have e1 : IntKind.i64.wrap ((x : Int) + 1) = (x : Int) + 1 := i64_small (by omega) (by omega)
          have e2 : ((x : Int) + 4).tmod 5 = (y1 : Int) := by rw [Int.tmod_eq_emod_of_nonneg (by omega)]; omega
          have e3 : ((x : Int) + 1).tmod 5 = (y2 : Int) := by rw [Int.tmod_eq_emod_of_nonneg (by omega)]; omega
          have e4 : ((x : Int) + 4) % 5 = (y1 : Int) := by omega
          have e5 : ((x : Int) + 1) % 5 = (y2 : Int) := by omega
          have q1 : (y1 : Int) < 5 := by omega
          have q2 : (y2 : Int) < 5 := by omega
          have r0 : (x : Int) < 5 := by omega
          have HC := Lib.hid hc
          have HS := Lib.hid hs
          have Y1 := Lib.hid hy1
          have Y2 := Lib.hid hy2
          have HX := Lib.hid hlt
          have HST := Lib.hid hst
          clear hc hs hy1 hy2 hlt hst
          go_wp2
          go_quiet ((go_at_call 48; exact Calls.quiet_of_same (rot_quiet _ 1 _ (by omega))))
          rw [xor_nv]
          obtain ⟨w2, hw2⟩ : ∃ w2, w2 = wr := ⟨_, rfl⟩
          subst hw2
          clear e0 e1 e2 e3 e4 e5 c1 c2
          have hbo : col f y1 ^^^ rotl (col f y2) 1 = both f x := by rw [Y1.out, Y2.out]; rfl
          rw [hbo]
          clear hbo
          go_wp2
          go_loopw [6] (fun i wr => ∃ k : Nat, k ≤ 5 ∧ i = .int .i64 ((x + 5 * k : Nat) : Int) ∧ UAt wr w.heap.size 68 5 (col f) [] ∧ StAt wr g (thP f x k) t ∧ Stay (fun k => k = g ∨ w.heap.size ≤ k) w wr) (fun i _ => 25 - (intOf i).toNat)
          case atStart => exact ⟨0, by omega, rfl, HC.out, HS.out, HST.out.trans (stay_drewN _ _)⟩
          case round =>
            obtain ⟨k, hk, rfl, hc, hs, hst⟩ := hrel
            obtain ⟨y, hy⟩ : ∃ y, y = x + 5 * k := ⟨_, rfl⟩
            rw [← hy]
            by_cases hlt : k < 5
            · have c0 := hs.c (i := y) (by omega)
              have cf := hs.fr y
              rw [show thP f x k y = f y by rw [hy]; exact thP_at f HX.out] at c0
              have q0 : (y : Int) < 25 := by have := HX.out; omega
              have HCC := Lib.hid hc
              have HSS := Lib.hid hs
              have Y := Lib.hid hy
              have HK := Lib.hid hlt
              have HSTT := Lib.hid hst
              clear hc hs hy hlt hst
              go_wp2
              refine wp_region_still_tail 9 (by kernel_rfl) (by kernel_rfl) ?_
              simp only [List.take_succ_cons, List.take_zero, List.drop_succ_cons, List.drop_zero]
              repeat still_step
              rw [xor_nv]
              refine wpStill_nil ?_
              go_wp2
              have hx5 := HX.out
              have hyy := Y.out
              refine ⟨⟨k + 1, by omega, (by rw [hyy]; go_num), HCC.out.stay (X := fun k => k = g) (stay_setD _ _ _ _) (Nat.ne_of_gt HL.out), ?_, ((HSTT.out.trans (Stay.setCell wr ⟨g, y, none⟩ _ (.inl rfl))).trans Stay.drew)⟩, by simp [intOf]; omega⟩
              have e := HSS.out.set (i := y) (by omega) (f y ^^^ both f x)
              refine UAt.congr ?_ (fun i _ => thP_put f hx5 i)
              rw [← hyy]
              exact e
            · obtain rfl : k = 5 := by omega
              have q0 : ¬ (y : Int) < 25 := by omega
              have HCC := Lib.hid hc
              have HSS := Lib.hid (hs.congr (thP_next f x))
              have HSTT := Lib.hid hst
              clear hc hs hst hy
              go_wp2
              exact ⟨⟨x + 1, by have := HX.out; omega, by go_num, HCC.out, HSS.out, HSTT.out⟩, by have := HX.out; simp [intOf]; omega⟩
        · obtain rfl : x = 5 := by omega
          have HSS := Lib.hid (hs.congr (thP_end f))
          have HSTT := Lib.hid hst
          clear hc hs hst
          go_wp2
          refine bodyPost_end (results_none rfl _ _ _) rfl ⟨rfl, HSS.out, ?_⟩
          exact Stay.andThen (X := fun k => k = g) (Stay.refl _ _) HSTT.out (fun i hi e => by omega)
end Go.Proofs.YtljhfccaoncjeaaDoor.Ke
