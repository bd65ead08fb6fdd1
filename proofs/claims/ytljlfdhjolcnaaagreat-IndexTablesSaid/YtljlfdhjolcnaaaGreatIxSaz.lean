/-
  index's laws: numbers compared, a config laid, whether acts are heavy.
-/
import Derived.Test.YtljlfdhjolcnaaaGreatGaI
import Derived.Test.YtljlfdhjolcnaaaGreatIxOpenz
namespace Go.Proofs.YtljlfdhjolcnaaaGreat.Ix
open Go.RowKit Go.Maps Me Mg Bo
set_option maxRecDepth 100000
set_option linter.unusedVariables false

theorem ints_eq (w : World) (x y : Value) (L : List Nat) (b1 b2 : Nat) (hx : IO b1 w x L) (hy : IO b2 w y L) (hl : L.length ≤ 65535) :
    Calls Tryz.prog 28 #[x, y] w fun e w' => e = .returned (.bool true) ∧ Stay (fun _ => False) w w' := by
  obtain ⟨xa, xc, rfl⟩ := hx.form
  obtain ⟨ya, yc, rfl⟩ := hy.form
  obtain ⟨q, hq⟩ : ∃ q, q = L.length := ⟨_, rfl⟩
  rw [← hq] at hx hy hl ⊢
  have HX := Lib.hid hx
  have HY := Lib.hid hy
  have HQ := Lib.hid hq
  clear hx hy hq
  go_enter Tryz.func28, Tryz.ntmps28
  go_wp2
  go_loopw [5] (fun i wr => ∃ j : Nat, j ≤ q ∧ i = .int .i64 (j : Int) ∧ Stay (fun _ => False) w wr) (fun i _ => q - (intOf i).toNat)
  case atStart => exact ⟨0, Nat.zero_le _, rfl, Stay.refl _ _⟩
  case round =>
    obtain ⟨j, hj, rfl, hst⟩ := hrel
    have HST := Lib.hid hst
    clear hst
    by_cases hlt : j < q
    · obtain ⟨n, hn⟩ : ∃ n, L[j]? = some n := ⟨_, List.getElem?_eq_getElem (by rw [← HQ.out]; exact hlt)⟩
      obtain ⟨gx, xc', e, _, _⟩ := row_at HX.out (by rw [← HQ.out]; omega)
      rw [← HQ.out] at e
      cases e
      obtain ⟨gy, yc', e, _, _⟩ := row_at HY.out (by rw [← HQ.out]; omega)
      rw [← HQ.out] at e
      cases e
      have cx := IO.cell' HQ.out (HX.out.stay0 HST.out) hn
      have cy := IO.cell' HQ.out (HY.out.stay0 HST.out) hn
      clear hn
      go_wp2
      go_region
      have HSD := Lib.hid (HST.out.trans (Stay.drew (X := fun _ => False) (w := wr)))
      generalize wr.drew = wd at *
      go_wp2
      exact ⟨⟨j + 1, hlt, by go_num, HSD.out⟩, by simp [intOf]; omega⟩
    · obtain rfl : j = q := by omega
      go_wp2
      go_ret
      exact ⟨rfl, HST.out⟩
/-- A box of a config. -/
def RB (w : World) (g : Nat) (a b c d : Int) : Prop := w.heap[g]? = some (.cells #[.int .i64 a, .int .i64 b, .int .i64 c, .int .i64 d] 23 (0, 0))
theorem size_rb : (Tryz.prog.info? 23).map (·.size) = some 4 := by kernel_rfl
section
variable {w w' : World} {g : Nat} {a b c d : Int} {X : Nat → Prop}
theorem RB.lt (h : RB w g a b c d) : g < w.heap.size := (Array.getElem?_eq_some_iff.1 h).1
theorem RB.stay (h : RB w g a b c d) (hs : Stay X w w') (hx : ¬ X g) : RB w' g a b c d := (hs.block g h.lt hx).trans h
theorem RB.load (h : RB w g a b c d) : (loadVar 23 ⟨g, 0, none⟩).run Tryz.prog w = .ok (.agg #[.int .i64 a, .int .i64 b, .int .i64 c, .int .i64 d]) w :=
  run_loadVar_at w ⟨g, 0, none⟩ 23 [.int .i64 a, .int .i64 b, .int .i64 c, .int .i64 d] _ Tryz.underlying23 rfl size_rb (fun j v hv => by
    rw [add_at, Nat.zero_add, cell_of_row w g j _ _ _ h]
    simpa using hv)
theorem RB.cel (h : RB w g a b c d) {j : Nat} {u : Value} (hu : [Value.int .i64 a, .int .i64 b, .int .i64 c, .int .i64 d][j]? = some u) : w.cell? ⟨g, j, none⟩ = some u := by
  rw [cell_of_row w g j _ _ _ h]
  simpa using hu
end
theorem wrap_small {x : Int} (h0 : 0 ≤ x) (h1 : x ≤ 1000000) : wrap64 x = x := by
  unfold wrap64
  omega
theorem small_wrap {y : Int} {n : Nat} (h : y = (n : Int)) (hn : n < 100) : wrap64 (1 + wrap64 y) = ((1 + n : Nat) : Int) := by
  subst h
  rw [wrap_small (x := (n : Int)) (by omega) (by omega), wrap_small (by omega) (by omega)]
  omega
/-- A number made small. -/
def smallN (x : Int) (k : Nat) : Nat := (IntKind.u64.wrap x % (k : Int)).toNat
theorem small_lt (x : Int) {k : Nat} (hk : 1 ≤ k) : smallN x k < k := by
  have h1 : 0 ≤ IntKind.u64.wrap x % (k : Int) := Int.emod_nonneg _ (by omega)
  have h2 : IntKind.u64.wrap x % (k : Int) < k := Int.emod_lt_of_pos _ (by omega)
  unfold smallN
  omega
theorem small_mod (x : Int) {k : Nat} (hk : 1 ≤ k) : (IntKind.u64.wrap x).tmod (k : Int) = (smallN x k : Int) := by
  have h0 : 0 ≤ IntKind.u64.wrap x := wrap_u64_nonneg x
  rw [Int.tmod_eq_emod_of_nonneg h0]
  have h1 : 0 ≤ IntKind.u64.wrap x % (k : Int) := Int.emod_nonneg _ (by omega)
  unfold smallN
  omega
set_option maxHeartbeats 1000000 in
theorem laid_any (w : World) (x0 x1 x2 x3 : Int) : Calls Tryz.prog 7 #[.agg #[.int .i64 x0, .int .i64 x1, .int .i64 x2, .int .i64 x3]] w fun e w' => e = .returned (cfgV ((1 + smallN x0 4 : Nat) : Int) ((1 + smallN x1 3 : Nat) : Int) ((1 + smallN x2 4 : Nat) : Int) ((1 + smallN x3 10 : Nat) : Int)) ∧ Stay (fun _ => False) w w' := by
  have m0 := small_mod x0 (k := 4) (by decide)
  have m1 := small_mod x1 (k := 3) (by decide)
  have m2 := small_mod x2 (k := 4) (by decide)
  have m3 := small_mod x3 (k := 10) (by decide)
  have l0 := small_lt x0 (k := 4) (by decide)
  have l1 := small_lt x1 (k := 3) (by decide)
  have l2 := small_lt x2 (k := 4) (by decide)
  have l3 := small_lt x3 (k := 10) (by decide)
  generalize smallN x0 4 = n0 at *
  generalize smallN x1 3 = n1 at *
  generalize smallN x2 4 = n2 at *
  generalize smallN x3 10 = n3 at *
  have e0 : wrap64 (1 + wrap64 ((IntKind.u64.wrap x0).tmod 4)) = ((1 + n0 : Nat) : Int) := small_wrap (m0) (by omega)
  have e1 : wrap64 (1 + wrap64 ((IntKind.u64.wrap x1).tmod 3)) = ((1 + n1 : Nat) : Int) := small_wrap (m1) (by omega)
  have e2 : wrap64 (1 + wrap64 ((IntKind.u64.wrap x2).tmod 4)) = ((1 + n2 : Nat) : Int) := small_wrap (m2) (by omega)
  have e3 : wrap64 (1 + wrap64 ((IntKind.u64.wrap x3).tmod 10)) = ((1 + n3 : Nat) : Int) := small_wrap (m3) (by omega)
  have E0 := Lib.hid e0
  have E1 := Lib.hid e1
  have E2 := Lib.hid e2
  have E3 := Lib.hid e3
  clear m0 m1 m2 m3 e0 e1 e2 e3
  unfold cfgV
  go_enter Tryz.func7, Tryz.ntmps7
  go_wp2
  rw [E0.out, E1.out, E2.out, E3.out]
  --[[
  have hs1 : Stay (fun _ => False) w (w.alloc (.cells #[.int .i64 x0, .int .i64 x1, .int .i64 x2, .int .i64 x3] 23)) := Stay.alloc _ _
  have hz1 : (w.alloc (.cells #[.int .i64 x0, .int .i64 x1, .int .i64 x2, .int .i64 x3] 23)).heap.size = w.heap.size + 1 := by simp
  generalize w.alloc (.cells #[.int .i64 x0, .int .i64 x1, .int .i64 x2, .int .i64 x3] 23) = w1 at *
  have hs2 : Stay (fun _ => False) w1 (w1.alloc (.cells #[.int .i64 ((1 + n0 : Nat) : Int), .int .i64 ((1 + n1 : Nat) : Int), .int .i64 ((1 + n2 : Nat) : Int), .int .i64 ((1 + n3 : Nat) : Int)] 23)) := Stay.alloc _ _
  have hb2 : RB (w1.alloc (.cells #[.int .i64 ((1 + n0 : Nat) : Int), .int .i64 ((1 + n1 : Nat) : Int), .int .i64 ((1 + n2 : Nat) : Int), .int .i64 ((1 + n3 : Nat) : Int)] 23)) (w.heap.size + 1) ((1 + n0 : Nat) : Int) ((1 + n1 : Nat) : Int) ((1 + n2 : Nat) : Int) ((1 + n3 : Nat) : Int) := by
    rw [← hz1]
    exact heap_alloc_new w1 _
  generalize w1.alloc (.cells #[.int .i64 ((1 + n0 : Nat) : Int), .int .i64 ((1 + n1 : Nat) : Int), .int .i64 ((1 + n2 : Nat) : Int), .int .i64 ((1 + n3 : Nat) : Int)] 23) = w2 at *
  have hld := hb2.load
  refine bodyPost_ret (v := .agg #[.int .i64 ((1 + n0 : Nat) : Int), .int .i64 ((1 + n1 : Nat) : Int), .int .i64 ((1 + n2 : Nat) : Int), .int .i64 ((1 + n3 : Nat) : Int)]) (by simp [results, Tryz.results7, asAddr, hld]) rfl ⟨rfl, hs1.trans hs2⟩
  --]]
/-- A truth was told. -/
def BoolR (e : Ending) : Prop := ∃ b : Bool, e = .returned (.bool b)
/-- Whether acts have too many bytes: told somehow. -/
theorem heavy_any (w : World) (x : Value) (L : List Ac) (hx : AcS w x L) (hk : ∀ t ∈ L, AcOk t) :
    Calls Tryz.prog 8 #[x] w fun e w' => BoolR e ∧ Stay (fun _ => False) w w' := by
  obtain ⟨n, hn⟩ : ∃ n, n = L.length := ⟨_, rfl⟩
  obtain ⟨xa, xc, rfl⟩ : ∃ a c, x = .slice a n c := by obtain ⟨p, q, e, _⟩ := hx; exact ⟨p, q, by rw [e, hn]⟩
  have HN := Lib.hid hn
  have HX := Lib.hid hx
  have HK := Lib.hid hk
  clear hx hk hn
  go_enter Tryz.func8, Tryz.ntmps8
  go_wp2
  go_loopw [3, 4] (fun s i wr => ∃ j q : Nat, i = .int .i64 (j : Int) ∧ s = .int .i64 (q : Int) ∧ j ≤ n ∧ q ≤ 5000 ∧ Hid (Stay (fun _ => False) w wr)) (fun _ i _ => n - (intOf i).toNat)
  case atStart => exact ⟨0, 0, rfl, rfl, Nat.zero_le _, by omega, Lib.hid (Stay.refl _ _)⟩
  case round =>
    obtain ⟨j, q, rfl, rfl, hj, hq, HS⟩ := hrel
    by_cases hlt : j < n
    · by_cases h60 : (j : Int) < 60
      · obtain ⟨t, ht⟩ : ∃ t, L[j]? = some t := ⟨_, List.getElem?_eq_getElem (by rw [← HN.out]; exact hlt)⟩
        obtain ⟨g, o, rfl, _, _, k2, k3⟩ := (HX.out.stay0 HS.out).at ht
        obtain ⟨p, hp⟩ : ∃ p, p = t.key.length := ⟨_, rfl⟩
        obtain ⟨r, hr⟩ : ∃ r, r = t.val.length := ⟨_, rfl⟩
        have hok := HK.out t (List.mem_of_getElem? ht)
        have hpl := hok.key
        have hrl := hok.val
        have hlp : ((⟨t.key.toArray⟩ : ByteArray).size : Int) = (p : Int) := by rw [hp]; simp [ByteArray.size]
        have hlr : ((⟨t.val.toArray⟩ : ByteArray).size : Int) = (r : Int) := by rw [hr]; simp [ByteArray.size]
        generalize t.key = tk at *
        generalize t.val = tv at *
        unfold strV at k2 k3
        clear ht hok hp hr
        go_wp2_with fail
        have HD := Lib.hid (HS.out.trans (Stay.drew (X := fun _ => False) (w := wr)))
        go_region
        have hN : (q : Int) + (tk.length : Int) + (tv.length : Int) = ((q + tk.length + tv.length : Nat) : Int) := by omega
        rw [hN]
        obtain ⟨N, hNN⟩ : ∃ N, N = q + tk.length + tv.length := ⟨_, rfl⟩
        rw [← hNN]
        clear hN hNN k2 k3
        generalize wr.drew = wd at *
        by_cases hg : N ≤ 5000
        · have hg2 : ((5000 : Int) < (N : Int)) = False := by simp; omega
          go_wp2
          exact ⟨⟨j + 1, N, by go_num, rfl, hlt, hg, HD⟩, by simp [intOf]; omega⟩
        · have hg2 : ((5000 : Int) < (N : Int)) = True := by simp; omega
          go_wp2
          go_ret
          exact ⟨⟨_, rfl⟩, HD.out⟩
      · go_wp2
        go_ret
        exact ⟨⟨_, rfl⟩, HS.out⟩
    · obtain rfl : j = n := by omega
      go_wp2
      go_ret
      exact ⟨⟨_, rfl⟩, HS.out⟩
end Go.Proofs.YtljlfdhjolcnaaaGreat.Ix
