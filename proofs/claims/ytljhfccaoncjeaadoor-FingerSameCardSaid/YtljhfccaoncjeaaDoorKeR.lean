/-
  keccak, the document's: rounds.
-/
import Derived.Test.YtljhfccaoncjeaaDoorKeQ
import Derived.Handy
import Derived.Deep.RegionHeld3
import Derived.Deep.RegionLaw
namespace Go.Proofs.YtljhfccaoncjeaaDoor.Ke
open Go.RowKit
set_option maxRecDepth 100000

abbrev LAt (w : World) (g : Nat) (f : St) : Prop := UAt w g 70 25 f []
abbrev CAt (w : World) (g : Nat) (f : St) : Prop := UAt w g 68 5 f []
theorem turned_quiet (a : U) (k : Nat) (w : World) (n : Nat) (hk : k < 9223372036854775807) : Calls Tryd.prog 43 #[.int .u64 (nv a), .int .i64 k] (w.drewN n) fun e w' => e = .returned (.int .u64 (nv (rotl a (k % 64)))) ∧ ∃ m, w' = w.drewN m :=
  Calls.quiet_of (turned_any a k _ hk)
theorem UAt.drew {w : World} {g : Nat} {ty : TypeId} {n : Nat} {f : St} {l : List Value} (h : UAt w g ty n f l) : UAt w.drew g ty n f l := h

/-- A whole state, as the document has it, by value. -/
def lanV (f : St) : Value := .agg (cellsU f 25).toArray
theorem info_lan : (Tryd.prog.info? 70).map (·.size) = some 25 := by kernel_rfl
theorem run_load_lan {w : World} {g : Nat} {f : St} (h : LAt w g f) : (loadVar 70 ⟨g, 0, none⟩).run Tryd.prog w = .ok (lanV f) w :=
  run_loadVar_mid (P := Tryd.prog) w g 0 70 70 _ (cellsU f 25).toArray (0, 0) _ h Tryd.underlying70 rfl (by rw [List.size_toArray, length_cellsU]; exact info_lan) (fun j _ => by rw [Nat.zero_add, List.append_nil])
theorem store_lan {ops : Array Oper} {rest : List Oper} {o : Oper} {a : Act} {w : World} {Q : Exit → Act → World → Prop} (hgd : o.guard = none) (x y : Operand) (ho : o.op = .store 70 x y)
    (g : Nat) (hx : a.eval x = .pointer (some ⟨g, 0, none⟩)) (f0 f : St) (hy : a.eval y = lanV f) (hg : LAt w g f0)
    (hn : ∀ w', LAt w' g f → Stay (· = g) w w' → wpList Tryd.prog ops Q rest (a.put o.dst undef) w') : wpList Tryd.prog ops Q (o :: rest) a w :=
  wpList_store_mid hgd 70 x y ho g 0 hx 70 (cellsU f0 25 ++ []) (cellsU f 25) hy hg (by rw [length_cellsU]; exact info_lan) (by simp [length_cellsU]) (oneCell_cellsU _ _)
    (fun w' h1 h2 => hn w' (by
      have e : splice (cellsU f0 25 ++ []) 0 (cellsU f 25) = cellsU f 25 ++ [] := by
        unfold splice
        rw [List.take_zero, List.nil_append, Nat.zero_add, List.drop_eq_nil_of_le (by simp [length_cellsU])]
      rw [e] at h1
      exact h1) h2)
theorem turned_one (k : Nat) (w : World) (hk : k < 9223372036854775807) : Calls Tryd.prog 43 #[.int .u64 1, .int .i64 k] w fun e w' => e = .returned (.int .u64 (nv (rotl 1 (k % 64)))) ∧ ∃ n, w' = w.drewN n := turned_any 1 k w hk
theorem xor_113i : ∀ k : Fin 256, bits BinOp.xor IntKind.i64 ((k.val : Nat) : Int) 113 = ((k.val ^^^ 113 : Nat) : Int) := by decide +kernel
theorem one_turn : ∀ j : Fin 7, rotl 1 ((2 ^ j.val - 1) % 64) = 1 <<< (2 ^ j.val - 1) := by decide +kernel
theorem pow_le : ∀ j, j < 7 → 2 ^ j ≤ 64 := by decide
theorem iota_zero (f : St) (r : Nat) : ∀ i, f i = put f 0 (f 0 ^^^ cst r 0) i := by
  intro i
  unfold put
  split
  · rename_i h
    subst h
    simp [cst]
  · rfl

def pw (k : Nat) : Nat := 2 ^ k
theorem pw_up (k : Nat) : pw (k + 1) = 2 * pw k := by unfold pw; rw [Nat.pow_succ]; omega
theorem pw_le : ∀ k, k < 7 → 1 ≤ pw k ∧ pw k ≤ 64 := by decide
theorem rows_up (r j : Nat) : rows (7 * r + (j + 1)) = bitRow (rows (7 * r + j)) := rfl
theorem step_store_lane {ops : Array Oper} {o : Oper} {a : Act} {w : World} {K : Act → World → Prop} {Q : Exit → Act → World → Prop} {E : Prop} (hgd : o.guard = none) (x y : Operand) (ho : o.op = .store 67 x y)
    {g : Nat} {ty : TypeId} {n : Nat} {f : St} {l : List Value} (i : Nat) (v : U) (hx : a.eval x = .pointer (some ⟨g, i, none⟩)) (hy : a.eval y = .int .u64 (nv v : Int)) (h : UAt w g ty n f l) (hi : i < n)
    (hn : ∀ w', UAt w' g ty n (put f i v) l → Stay (· = g) w w' → K (a.put o.dst undef) w') : if Region.wanted o (yielded ops a.tmps) = true then Oper.wp Tryd.prog o a w K Q else E := by
  have hw : Region.wanted o (yielded ops a.tmps) = true := by simp [Region.wanted, hgd]
  rw [if_pos hw]
  obtain ⟨w', hr, h1, h2⟩ := run_store_lane h hi v
  unfold Oper.wp execOp
  simp only [ho, hx, hy, Instr.storeAt, Instr.sureAddr, Sem.run_bind, Sem.run_pure, Result.andThen_ok, hr]
  exact hn w' h1 h2
/-- A lane's constant grows. -/
theorem cst_grow (C : St) (r j : Nat) (hj : j < 7) (ho : rows (7 * r + j) % 2 = 1) : ∀ i, i < 25 → put (tr (put C 0 (C 0 ^^^ cst r j))) 0 (C 0 ^^^ cst r j ^^^ rotl 1 ((pw j - 1) % 64)) i = tr (put C 0 (C 0 ^^^ cst r (j + 1))) i := by
  intro i hi
  have h1 : cst r (j + 1) = cst r j ^^^ rotl 1 ((pw j - 1) % 64) := by
    have := one_turn ⟨j, hj⟩
    simp only at this
    unfold pw
    rw [this]
    show (if rows (7 * r + j) % 2 = 1 then _ else _) = _
    rw [if_pos ho]
  rw [h1, ← BitVec.xor_assoc]
  unfold put tr
  by_cases h : i = 0
  · subst h
    rfl
  · rw [if_neg h]
    by_cases h2 : i / 5 + 5 * (i % 5) = 0
    · omega
    · show (if i / 5 + 5 * (i % 5) = 0 then _ else _) = (if i / 5 + 5 * (i % 5) = 0 then _ else _)
      rw [if_neg h2, if_neg h2]
theorem cst_same (r j : Nat) (ho : ¬ rows (7 * r + j) % 2 = 1) : cst r (j + 1) = cst r j := by
  show (if rows (7 * r + j) % 2 = 1 then _ else _) = _
  rw [if_neg ho]

set_option maxHeartbeats 8000000 in
theorem rrounds_any (w : World) (F : St) :
    Calls Tryd.prog 35 #[.agg (cellsU (tr F) 25).toArray] w fun e w' => e = .returned (.agg (cellsU (tr (perm F)) 25).toArray) ∧ Stay (fun _ => False) w w' := by
  have h0 : LAt (w.alloc (.cells (cellsU (tr F) 25).toArray 70)) w.heap.size (tr F) := by
    have := heap_alloc_new w (.cells (cellsU (tr F) 25).toArray 70)
    unfold LAt UAt
    rw [List.append_nil]
    exact this
  have hz : ∀ W : World, LAt (W.alloc (.cells (cellsU zeroSt 25).toArray 70)) W.heap.size zeroSt := fun W => by
    unfold LAt UAt
    rw [List.append_nil]
    exact heap_alloc_new W _
  have HZ := Lib.hid hz
  have H0 := Lib.hid (h0.stay (Stay.alloc (X := fun _ => False) _ (.cells (cellsU zeroSt 25).toArray 70)) (fun x => x))
  have H1 := Lib.hid (show LAt ((w.alloc (.cells (cellsU (tr F) 25).toArray 70)).alloc (.cells (cellsU zeroSt 25).toArray 70)) (w.heap.size + 1) zeroSt by simpa using hz (w.alloc (.cells (cellsU (tr F) 25).toArray 70)))
  clear h0 hz
  go_enter Tryd.func35, Tryd.ntmps35
  go_wp2
  go_loopw [3, 4] (fun a i wr => ∃ r : Nat, r ≤ 24 ∧ a = .int .i64 (rows (7 * r) : Int) ∧ i = .int .i64 (r : Int) ∧ LAt wr w.heap.size (tr (roundsK F r)) ∧ LAt wr (w.heap.size + 1) zeroSt ∧ Stay (fun k => w.heap.size ≤ k) w wr) (fun _ i _ => 24 - (intOf i).toNat)
  case atStart => exact ⟨0, by omega, rfl, rfl, H0.out, H1.out, (Stay.alloc _ _).trans (Stay.alloc _ _)⟩
  case round =>
    obtain ⟨r, hr, rfl, rfl, hs, hz, hst⟩ := hrel
    by_cases hlt : r < 24
    · have q0 : (r : Int) < 24 := by omega
      generalize hG : roundsK F r = G at hs
      obtain ⟨w0, hw0⟩ : ∃ w0, w0 = wr := ⟨_, rfl⟩
      subst hw0
      have HS := Lib.hid hs
      have HZ2 := Lib.hid hz
      have HST := Lib.hid hst
      have HLT := Lib.hid hlt
      have HG := Lib.hid hG
      have HC0 := Lib.hid (show CAt (w0.alloc (.cells #[.int .u64 0, .int .u64 0, .int .u64 0, .int .u64 0, .int .u64 0] 68)) w0.heap.size zeroSt from heap_alloc_new w0 _)
      have HN := Lib.hid (show w.heap.size + 1 < w0.heap.size from hz.lt)
      clear hs hz hst hlt hG
      go_wp2
      -- the columns
      go_loopw [6] (fun i wr => ∃ x : Nat, x ≤ 5 ∧ i = .int .i64 (x : Int) ∧ CAt wr w0.heap.size (colQ G x 0) ∧ LAt wr w.heap.size (tr G) ∧ Stay (fun k => w0.heap.size ≤ k) w0 wr) (fun i _ => 5 - (intOf i).toNat)
      case atStart => exact ⟨0, by omega, rfl, HC0.out.congr (fun i _ => (colQ_none G i).symm), HS.out.stay (Stay.alloc (X := fun _ => False) _ _) (fun x => x), Stay.alloc _ _⟩
      case round =>
        obtain ⟨x, hx, rfl, hc, hs, hst⟩ := hrel
        by_cases hlt : x < 5
        · have q1 : (x : Int) < 5 := by omega
          have HC := Lib.hid hc
          have HSS := Lib.hid hs
          have HSTT := Lib.hid hst
          have HX := Lib.hid hlt
          clear hc hs hst hlt
          go_wp2
          go_loopw [7] (fun i wr => ∃ y : Nat, y ≤ 5 ∧ i = .int .i64 (y : Int) ∧ CAt wr w0.heap.size (colQ G x y) ∧ LAt wr w.heap.size (tr G) ∧ Stay (fun k => w0.heap.size ≤ k) w0 wr) (fun i _ => 5 - (intOf i).toNat)
          case atStart => exact ⟨0, by omega, rfl, HC.out, HSS.out, HSTT.out⟩
          case round =>
            obtain ⟨y, hy, rfl, hc, hs, hst⟩ := hrel
            by_cases hlt : y < 5
            · have q2 : (y : Int) < 5 := by omega
              have c0 := hc.c (i := x) HX.out
              rw [colQ_at] at c0
              have f0 := hc.fr x
              have c1 := hs.c (i := x * 5 + y) (by have := HX.out; omega)
              rw [tr_at G hlt] at c1
              have HC := Lib.hid hc
              have HSS := Lib.hid hs
              have HSTT := Lib.hid hst
              have HY := Lib.hid hlt
              clear hc hs hst hlt
              go_wp2
              refine wp_region_still_tail 11 (by kernel_rfl) (by kernel_rfl) ?_
              simp only [List.take_succ_cons, List.take_zero, List.drop_succ_cons, List.drop_zero]
              repeat still_step
              rw [xor_nv]
              refine wpStill_nil ?_
              clear c0 c1 f0
              refine store_lane (w := wr.drew) rfl (.tmp 44) (.tmp 43) rfl x _ rfl rfl HC.out.drew HX.out ?_
              intro w5 h5 s5
              have HC5 := Lib.hid (h5.congr (f' := colQ G x (y + 1)) (fun i _ => colQ_put G x y i))
              have HS5 := Lib.hid ((HSS.out.stay (Stay.drew (X := fun _ => False)) (fun x => x)).stay s5 (fun (e : w.heap.size = w0.heap.size) => by have := HN.out; omega))
              have HST5 := Lib.hid (HSTT.out.trans (Stay.drew.trans (s5.mono (Y := fun k => w0.heap.size ≤ k) (fun k (e : k = w0.heap.size) => by omega))))
              clear h5 s5
              go_frame
              go_wp2
              have hy5 := HY.out
              go_round
              case rel => exact ⟨y + 1, by omega, by go_num, HC5.out, HS5.out, HST5.out⟩
              case measure => simp [intOf]; omega
            · obtain rfl : y = 5 := by omega
              have q2 : ¬ ((5 : Nat) : Int) < 5 := by omega
              have HC := Lib.hid (hc.congr (fun i _ => colQ_next G x i))
              have HSS := Lib.hid hs
              have HSTT := Lib.hid hst
              clear hc hs hst
              go_wp2
              exact ⟨⟨x + 1, by have := HX.out; omega, by go_num, HC.out, HSS.out, HSTT.out⟩, by have := HX.out; simp [intOf]; omega⟩
        · obtain rfl : x = 5 := by omega
          obtain ⟨w1, hw1⟩ : ∃ w1, w1 = wr := ⟨_, rfl⟩
          subst hw1
          rw [show ((5 : Nat) : Int) = 5 from rfl]
          have HC := Lib.hid (hc.congr (colQ_all G))
          have HS1 := Lib.hid hs
          have HST1 := Lib.hid hst
          have HA0 := Lib.hid (show LAt (w1.alloc (.cells (cellsU zeroSt 25).toArray 70)) w1.heap.size zeroSt from HZ.out w1)
          have HN1 := Lib.hid (show w0.heap.size < w1.heap.size from HC.out.lt)
          have NE1 := Lib.hid (show w.heap.size ≠ w1.heap.size by have := HN.out; have := HN1.out; omega)
          have NE2 := Lib.hid (show w0.heap.size ≠ w1.heap.size by have := HN1.out; omega)
          clear hc hs hst
          go_wp2
          go_loopw [9] (fun i wr => ∃ x : Nat, x ≤ 5 ∧ i = .int .i64 (x : Int) ∧ LAt wr w1.heap.size (mix (tr (theta G)) zeroSt (x * 5)) ∧ CAt wr w0.heap.size (col G) ∧ LAt wr w.heap.size (tr G) ∧ Stay (fun k => w1.heap.size ≤ k) w1 wr) (fun i _ => 5 - (intOf i).toNat)
          case atStart => exact ⟨0, by omega, rfl, HA0.out.congr (fun i _ => mix_none _ _ i), HC.out.stay (Stay.alloc (X := fun _ => False) _ _) (fun x => x), HS1.out.stay (Stay.alloc (X := fun _ => False) _ _) (fun x => x), Stay.alloc _ _⟩
          case round =>
            obtain ⟨x, hx, rfl, ha, hc, hs, hst⟩ := hrel
            by_cases hlt : x < 5
            · have q1 : (x : Int) < 5 := by omega
              have HA := Lib.hid ha
              have HCC := Lib.hid hc
              have HSS := Lib.hid hs
              have HSTT := Lib.hid hst
              have HX := Lib.hid hlt
              clear ha hc hs hst hlt
              go_wp2
              go_loopw [10] (fun i wr => ∃ y : Nat, y ≤ 5 ∧ i = .int .i64 (y : Int) ∧ LAt wr w1.heap.size (mix (tr (theta G)) zeroSt (x * 5 + y)) ∧ CAt wr w0.heap.size (col G) ∧ LAt wr w.heap.size (tr G) ∧ Stay (fun k => w1.heap.size ≤ k) w1 wr) (fun i _ => 5 - (intOf i).toNat)
              case atStart => exact ⟨0, by omega, rfl, HA.out, HCC.out, HSS.out, HSTT.out⟩
              case round =>
                obtain ⟨y, hy, rfl, ha, hc, hs, hst⟩ := hrel
                by_cases hlt : y < 5
                · have q2 : (y : Int) < 5 := by omega
                  obtain ⟨u1, hu1⟩ : ∃ u, u = (x + 4) % 5 := ⟨_, rfl⟩
                  obtain ⟨u2, hu2⟩ : ∃ u, u = (x + 1) % 5 := ⟨_, rfl⟩
                  have c0 := hs.c (i := x * 5 + y) (by have := HX.out; omega)
                  rw [tr_at G hlt] at c0
                  have c1 := hc.c (i := u1) (by omega)
                  have c2 := hc.c (i := u2) (by omega)
                  have f0 := ha.fr (x * 5 + y)
                  have ca := ha.c (i := x * 5 + y) (by have := HX.out; omega)
                  have e0 : IntKind.i64.wrap ((x : Int) + 4) = (x : Int) + 4 := i64_small (by omega) (by omega)
                  have e1 : IntKind.i64.wrap ((x : Int) + 1) = (x : Int) + 1 := i64_small (by omega) (by omega)
                  have e2 : ((x : Int) + 4).tmod 5 = (u1 : Int) := by rw [Int.tmod_eq_emod_of_nonneg (by omega)]; omega
                  have e3 : ((x : Int) + 1).tmod 5 = (u2 : Int) := by rw [Int.tmod_eq_emod_of_nonneg (by omega)]; omega
                  have e4 : ((x : Int) + 4) % 5 = (u1 : Int) := by omega
                  have e5 : ((x : Int) + 1) % 5 = (u2 : Int) := by omega
                  have r1 : (u1 : Int) < 5 := by omega
                  have r2 : (u2 : Int) < 5 := by omega
                  have HA := Lib.hid ha
                  have HCC := Lib.hid hc
                  have HSS := Lib.hid hs
                  have HSTT := Lib.hid hst
                  have HY := Lib.hid hlt
                  have HU1 := Lib.hid hu1
                  have HU2 := Lib.hid hu2
                  clear ha hc hs hst hlt hu1 hu2
                  go_wp2
                  go_region_held3 (fun W => W.cell? ⟨w.heap.size, x * 5 + y, none⟩ = some (.int .u64 (nv (G (x + 5 * y)) : Int)) ∧ W.cell? ⟨w0.heap.size, u1, none⟩ = some (.int .u64 (nv (col G u1) : Int)) ∧ W.cell? ⟨w0.heap.size, u2, none⟩ = some (.int .u64 (nv (col G u2) : Int))) (first | go_keep | exact ⟨(stay_set _ _ _ _).cell c0 NE1.out, (stay_set _ _ _ _).cell c1 NE2.out, (stay_set _ _ _ _).cell c2 NE2.out⟩)
                    ((go_at_call 43; refine (turned_any (col G u2) 1 _ (by omega)).mono ?_; rintro e w' ⟨rfl, nd, rfl⟩))
                  rw [xor_nv, xor_nv]
                  clear c1 c2 ca e0 e1 e2 e3 e4 e5
                  have hx5 := HX.out
                  have hy5 := HY.out
                  have HA5 := Lib.hid (((show LAt (wr.drewN (1 + nd)) w1.heap.size _ from HA.out).set (i := x * 5 + y) (by omega) (G (x + 5 * y) ^^^ col G u1 ^^^ rotl (col G u2) 1)).congr (f' := mix (tr (theta G)) zeroSt (x * 5 + y + 1)) (fun i _ => by
                    rw [show G (x + 5 * y) ^^^ col G u1 ^^^ rotl (col G u2) 1 = tr (theta G) (x * 5 + y) by rw [theta_tr G hx5 hy5, HU1.out, HU2.out]]
                    exact mix_put _ _ _ i))
                  have st5 : Stay (fun k => k = w1.heap.size) wr ((wr.drewN (1 + nd)).setCell ⟨w1.heap.size, x * 5 + y, none⟩ (.int .u64 (nv (G (x + 5 * y) ^^^ col G u1 ^^^ rotl (col G u2) 1) : Int))) := (stay_drewN _ _).trans (stay_set _ _ _ _)
                  have HC5 := Lib.hid (HCC.out.stay st5 NE2.out)
                  have HS5 := Lib.hid (HSS.out.stay st5 NE1.out)
                  have HST5 := Lib.hid (HSTT.out.trans (st5.mono (Y := fun k => w1.heap.size ≤ k) (fun k e => Nat.le_of_eq e.symm)))
                  generalize (wr.drewN (1 + nd)).setCell ⟨w1.heap.size, x * 5 + y, none⟩ (.int .u64 (nv (G (x + 5 * y) ^^^ col G u1 ^^^ rotl (col G u2) 1) : Int)) = w5 at HA5 HC5 HS5 HST5 ⊢
                  clear st5 c0 f0 hx5 hy5
                  go_wp2
                  have hy5 := HY.out
                  go_round
                  case rel => exact ⟨y + 1, by omega, by go_num, HA5.out, HC5.out, HS5.out, HST5.out⟩
                  case measure => simp [intOf]; omega
                · obtain rfl : y = 5 := by omega
                  have q2 : ¬ ((5 : Nat) : Int) < 5 := by omega
                  have HA := Lib.hid ha
                  have HCC := Lib.hid hc
                  have HSS := Lib.hid hs
                  have HSTT := Lib.hid hst
                  clear ha hc hs hst
                  go_wp2
                  exact ⟨⟨x + 1, by have := HX.out; omega, by go_num, by rw [show (x + 1) * 5 = x * 5 + 5 by omega]; exact HA.out, HCC.out, HSS.out, HSTT.out⟩, by have := HX.out; simp [intOf]; omega⟩
            · obtain rfl : x = 5 := by omega
              obtain ⟨w2, hw2⟩ : ∃ w2, w2 = wr := ⟨_, rfl⟩
              subst hw2
              rw [show ((5 : Nat) : Int) = 5 from rfl]
              have HA := Lib.hid (ha.congr (f' := tr (theta G)) (fun i hi => mix_all _ _ i hi))
              have HS2 := Lib.hid hs
              have HST2 := Lib.hid hst
              have HN2 := Lib.hid (show w1.heap.size < w2.heap.size from ha.lt)
              have HB0 := Lib.hid (show LAt (w2.alloc (.cells (cellsU zeroSt 25).toArray 70)) w2.heap.size zeroSt from HZ.out w2)
              clear ha hc hs hst
              go_wp2_with (first
                | (refine load_cells rfl 70 (.tmp 8) rfl ⟨w1.heap.size, 0, none⟩ rfl _ (run_load_lan HA.out) ?_)
                | (refine store_lan rfl (.tmp 11) (.tmp 75) rfl w2.heap.size rfl zeroSt (tr (theta G)) rfl HB0.out ?_
                   intro w3 h3 s3
                   have HB3 := Lib.hid h3
                   have HST3 := Lib.hid (show Stay (fun k => k = w2.heap.size) w2 w3 from (Stay.alloc _ _).trans s3)
                   clear h3 s3))
              have HN3 := Lib.hid (show w2.heap.size < w3.heap.size from HB3.out.lt)
              have HA3 := Lib.hid (HA.out.stay HST3.out (Nat.ne_of_lt HN2.out))
              have HS3 := Lib.hid (HS2.out.stay HST3.out (fun (e : w.heap.size = w2.heap.size) => by have := HN.out; have := HN1.out; have := HN2.out; omega))
              have NE3 := Lib.hid (show w.heap.size ≠ w2.heap.size by have := HN.out; have := HN1.out; have := HN2.out; omega)
              have NE4 := Lib.hid (show w1.heap.size ≠ w2.heap.size from Nat.ne_of_lt HN2.out)
              generalize hT : theta G = T at HA3 HB3
              have HT := Lib.hid hT
              clear hT
              go_loopw [12, 13, 14] (fun a b i wr => ∃ k : Nat, k ≤ 24 ∧ a = .int .i64 (xAt k : Int) ∧ b = .int .i64 (yAt k : Int) ∧ i = .int .i64 ((k + 1 : Nat) : Int) ∧ LAt wr w2.heap.size (tr (rhoPi T k)) ∧ LAt wr w1.heap.size (tr T) ∧ LAt wr w.heap.size (tr G) ∧ Stay (fun k => w2.heap.size ≤ k) w2 wr) (fun _ _ i _ => 25 - (intOf i).toNat)
              case atStart => exact ⟨0, by omega, rfl, rfl, rfl, HB3.out, HA3.out, HS3.out, HST3.out.mono (fun k e => Nat.le_of_eq e.symm)⟩
              case round =>
                obtain ⟨k, hk, rfl, rfl, rfl, hb, ha, hs, hst⟩ := hrel
                by_cases hlt : k < 24
                · obtain ⟨p1, p2, p3, p4, p5, p6, p7, p8⟩ := path_up k hlt
                  obtain ⟨X, hX⟩ : ∃ X, X = xAt k := ⟨_, rfl⟩
                  obtain ⟨Y, hY⟩ : ∃ Y, Y = yAt k := ⟨_, rfl⟩
                  obtain ⟨V, hV⟩ : ∃ V, V = yAt (k + 1) := ⟨_, rfl⟩
                  obtain ⟨t1, ht1⟩ : ∃ t1, t1 = k + 1 := ⟨_, rfl⟩
                  obtain ⟨t2, ht2⟩ : ∃ t2, t2 = t1 + 1 := ⟨_, rfl⟩
                  obtain ⟨M, hM⟩ : ∃ M, M = t1 * t2 := ⟨_, rfl⟩
                  obtain ⟨R, hR⟩ : ∃ R, R = M / 2 := ⟨_, rfl⟩
                  have hRt : R = turn k := by rw [hR, hM, ht2, ht1]; rfl
                  have hRl := turn_le k hlt
                  have hMl : M ≤ 601 := by rw [← hRt] at hRl; omega
                  rw [← hX, ← hY, ← ht1]
                  have c0 := ha.c (i := X * 5 + Y) (by omega)
                  rw [tr_at T (by omega), hX, hY, p8, ← hX, ← hY] at c0
                  have f0 := hb.fr (Y * 5 + V)
                  have cb := hb.c (i := Y * 5 + V) (by omega)
                  have e1 : (2 * (X : Int) + 3 * (Y : Int)) % 5 = (V : Int) := by omega
                  have e2 : IntKind.i64.wrap ((t1 : Int) + 1) = (t2 : Int) := by rw [i64_small (by omega) (by omega)]; omega
                  have e3 : IntKind.i64.wrap ((t1 : Int) * (t2 : Int)) = (M : Int) := by
                    have : (t1 : Int) * (t2 : Int) = (M : Int) := by rw [hM]; exact (Int.natCast_mul _ _).symm
                    rw [this]
                    exact i64_small (by omega) (by omega)
                  have e4 : IntKind.i64.wrap ((M : Int) / 2) = (R : Int) := by rw [i64_small (by omega) (by omega)]; omega
                  have x1 : (X : Int) < 5 := by omega
                  have y1 : (Y : Int) < 5 := by omega
                  have v1 : (V : Int) < 5 := by omega
                  have q2 : (t1 : Int) ≤ 24 := by omega
                  have HB := Lib.hid hb
                  have HAA := Lib.hid ha
                  have HSS := Lib.hid hs
                  have HSTT := Lib.hid hst
                  have HK := Lib.hid hlt
                  have HX := Lib.hid hX
                  have HY := Lib.hid hY
                  have HV := Lib.hid hV
                  have HT1 := Lib.hid ht1
                  have HR := Lib.hid hRt
                  have HRL := Lib.hid (show R < 1000 by omega)
                  have P1 := Lib.hid p1
                  have P7 := Lib.hid p7
                  clear hb ha hs hst hlt hX hY hV ht1 ht2 hM hR hRt hRl hMl p1 p2 p3 p4 p5 p6 p7 p8
                  go_wp2
                  go_region_held3 (fun W => W.cell? ⟨w1.heap.size, X * 5 + Y, none⟩ = some (.int .u64 (nv (T (pre k)) : Int))) (first | go_keep | exact (stay_set _ _ _ _).cell c0 NE4.out)
                    ((go_at_call 43; refine (turned_any (T (pre k)) R _ (by have := HRL.out; omega)).mono ?_; rintro e w' ⟨rfl, nd, rfl⟩))
                  have hx5 := P1.out
                  have hy5 := P7.out
                  have hv5 : V < 5 := by omega
                  have hyy5 : Y < 5 := by omega
                  have hky : Y + 5 * V = pth k := by rw [← hy5, hx5, HY.out, HV.out]
                  have HB5 := Lib.hid (((show LAt (wr.drewN (1 + nd)) w2.heap.size _ from HB.out).set (i := Y * 5 + V) (by omega) (rotl (T (pre k)) (R % 64))).congr (f' := tr (rhoPi T (k + 1))) (fun i hi => by
                    rw [tr_put _ hyy5 hv5 _ i hi, HR.out, hky]
                    rfl))
                  have st5 : Stay (fun k => k = w2.heap.size) wr ((wr.drewN (1 + nd)).setCell ⟨w2.heap.size, Y * 5 + V, none⟩ (.int .u64 (nv (rotl (T (pre k)) (R % 64)) : Int))) := (stay_drewN _ _).trans (stay_set _ _ _ _)
                  have HA5 := Lib.hid (HAA.out.stay st5 NE4.out)
                  have HS5 := Lib.hid (HSS.out.stay st5 NE3.out)
                  have HST5 := Lib.hid (HSTT.out.trans (st5.mono (Y := fun k => w2.heap.size ≤ k) (fun k e => Nat.le_of_eq e.symm)))
                  generalize (wr.drewN (1 + nd)).setCell ⟨w2.heap.size, Y * 5 + V, none⟩ (.int .u64 (nv (rotl (T (pre k)) (R % 64)) : Int)) = w5 at HB5 HA5 HS5 HST5 ⊢
                  clear st5 c0 f0 cb hx5 hy5 hv5 hyy5 hky e1 e2 e3 e4
                  go_wp2
                  have hk5 := HK.out
                  have ht5 := HT1.out
                  go_round
                  case rel => exact ⟨k + 1, by omega, by rw [P1.out, HY.out], by rw [HV.out], by rw [ht5]; go_num, HB5.out, HA5.out, HS5.out, HST5.out⟩
                  case measure => simp [intOf]; omega
                · obtain rfl : k = 24 := by omega
                  obtain ⟨w4, hw4⟩ : ∃ w4, w4 = wr := ⟨_, rfl⟩
                  subst hw4
                  rw [show ((24 + 1 : Nat) : Int) = 25 from rfl, show ((xAt 24 : Nat) : Int) = 1 from rfl, show ((yAt 24 : Nat) : Int) = 0 from rfl]
                  generalize hH : rhoPi T 24 = H at hb
                  have HB4 := Lib.hid hb
                  have HS4 := Lib.hid hs
                  have HST4 := Lib.hid hst
                  have HH := Lib.hid hH
                  clear hb ha hs hst hH
                  go_wp2
                  go_loopw [17] (fun i wr => ∃ x : Nat, x ≤ 5 ∧ i = .int .i64 (x : Int) ∧ LAt wr w2.heap.size (tr H) ∧ LAt wr w.heap.size (mix (tr (chi H)) (tr G) (x * 5)) ∧ Stay (fun k => k = w.heap.size) w4 wr) (fun i _ => 5 - (intOf i).toNat)
                  case atStart => exact ⟨0, by omega, rfl, HB4.out, HS4.out.congr (fun i _ => mix_none _ _ i), Stay.refl _ _⟩
                  case round =>
                    obtain ⟨x, hx, rfl, hb, hs, hst⟩ := hrel
                    by_cases hlt : x < 5
                    · have q1 : (x : Int) < 5 := by omega
                      have HB := Lib.hid hb
                      have HSS := Lib.hid hs
                      have HSTT := Lib.hid hst
                      have HX := Lib.hid hlt
                      clear hb hs hst hlt
                      go_wp2
                      go_loopw [18] (fun i wr => ∃ y : Nat, y ≤ 5 ∧ i = .int .i64 (y : Int) ∧ LAt wr w2.heap.size (tr H) ∧ LAt wr w.heap.size (mix (tr (chi H)) (tr G) (x * 5 + y)) ∧ Stay (fun k => k = w.heap.size) w4 wr) (fun i _ => 5 - (intOf i).toNat)
                      case atStart => exact ⟨0, by omega, rfl, HB.out, HSS.out, HSTT.out⟩
                      case round =>
                        obtain ⟨y, hy, rfl, hb, hs, hst⟩ := hrel
                        by_cases hlt : y < 5
                        · have q2 : (y : Int) < 5 := by omega
                          obtain ⟨u1, hu1⟩ : ∃ u, u = (x + 2) % 5 := ⟨_, rfl⟩
                          obtain ⟨u2, hu2⟩ : ∃ u, u = (x + 1) % 5 := ⟨_, rfl⟩
                          have c0 := hb.c (i := x * 5 + y) (by have := HX.out; omega)
                          have c1 := hb.c (i := u1 * 5 + y) (by omega)
                          have c2 := hb.c (i := u2 * 5 + y) (by omega)
                          have e0 : IntKind.i64.wrap ((x : Int) + 2) = (x : Int) + 2 := i64_small (by omega) (by omega)
                          have e1 : IntKind.i64.wrap ((x : Int) + 1) = (x : Int) + 1 := i64_small (by omega) (by omega)
                          have e2 : ((x : Int) + 2).tmod 5 = (u1 : Int) := by rw [Int.tmod_eq_emod_of_nonneg (by omega)]; omega
                          have e3 : ((x : Int) + 1).tmod 5 = (u2 : Int) := by rw [Int.tmod_eq_emod_of_nonneg (by omega)]; omega
                          have e4 : ((x : Int) + 2) % 5 = (u1 : Int) := by omega
                          have e5 : ((x : Int) + 1) % 5 = (u2 : Int) := by omega
                          have r1 : (u1 : Int) < 5 := by omega
                          have r2 : (u2 : Int) < 5 := by omega
                          have HB := Lib.hid hb
                          have HSS := Lib.hid hs
                          have HSTT := Lib.hid hst
                          have HY := Lib.hid hlt
                          have HU1 := Lib.hid hu1
                          have HU2 := Lib.hid hu2
                          clear hb hs hst hlt hu1 hu2
                          go_wp2
                          refine wp_region_still_tail 25 (by kernel_rfl) (by kernel_rfl) ?_
                          simp only [List.take_succ_cons, List.take_zero, List.drop_succ_cons, List.drop_zero]
                          repeat still_step
                          rw [andNot_nv, xor_nv]
                          refine wpStill_nil ?_
                          clear c0 c1 c2 e0 e1 e2 e3 e4 e5
                          refine store_lane (w := wr.drew) rfl (.tmp 136) (.tmp 134) rfl (x * 5 + y) _ rfl rfl HSS.out.drew (by have := HX.out; have := HY.out; omega) ?_
                          intro w5 h5 s5
                          have HS5 := Lib.hid (h5.congr (f' := mix (tr (chi H)) (tr G) (x * 5 + y + 1)) (fun i _ => by
                            rw [show tr H (x * 5 + y) ^^^ (tr H (u1 * 5 + y) &&& ~~~ tr H (u2 * 5 + y)) = tr (chi H) (x * 5 + y) by rw [chi_tr H HX.out HY.out, HU1.out, HU2.out]]
                            exact mix_put _ _ _ i))
                          have HB5 := Lib.hid ((HB.out.stay (Stay.drew (X := fun _ => False)) (fun x => x)).stay s5 (fun e => NE3.out e.symm))
                          have HST5 := Lib.hid (HSTT.out.trans (Stay.drew.trans s5))
                          clear h5 s5
                          go_frame
                          go_wp2
                          have hy5 := HY.out
                          go_round
                          case rel => exact ⟨y + 1, by omega, by go_num, HB5.out, HS5.out, HST5.out⟩
                          case measure => simp [intOf]; omega
                        · obtain rfl : y = 5 := by omega
                          have q2 : ¬ ((5 : Nat) : Int) < 5 := by omega
                          have HB := Lib.hid hb
                          have HSS := Lib.hid hs
                          have HSTT := Lib.hid hst
                          clear hb hs hst
                          go_wp2
                          exact ⟨⟨x + 1, by have := HX.out; omega, by go_num, HB.out, by rw [show (x + 1) * 5 = x * 5 + 5 by omega]; exact HSS.out, HSTT.out⟩, by have := HX.out; simp [intOf]; omega⟩
                    · obtain rfl : x = 5 := by omega
                      obtain ⟨w6, hw6⟩ : ∃ w6, w6 = wr := ⟨_, rfl⟩
                      subst hw6
                      rw [show ((5 : Nat) : Int) = 5 from rfl]
                      have HS6 := Lib.hid (hs.congr (f' := tr (put (chi H) 0 (chi H 0 ^^^ cst r 0))) (fun i hi => by
                        rw [mix_all _ _ i hi]
                        exact iota_zero (chi H) r _))
                      have HST6 := Lib.hid hst
                      clear hb hs hst
                      go_wp2
                      go_loopw [3, 19] (fun a i wr => ∃ j : Nat, j ≤ 7 ∧ a = .int .i64 (rows (7 * r + j) : Int) ∧ i = .int .i64 (j : Int) ∧ LAt wr w.heap.size (tr (put (chi H) 0 (chi H 0 ^^^ cst r j))) ∧ Stay (fun k => k = w.heap.size) w6 wr) (fun _ i _ => 7 - (intOf i).toNat)
                      case atStart => exact ⟨0, by omega, rfl, rfl, HS6.out, Stay.refl _ _⟩
                      case round =>
                        obtain ⟨j, hj, rfl, rfl, hs, hst⟩ := hrel
                        by_cases hlt : j < 7
                        · have q1 : (j : Int) < 7 := by omega
                          obtain ⟨A, hA⟩ : ∃ A, A = rows (7 * r + j) := ⟨_, rfl⟩
                          have hA2 := rows_lt (7 * r + j)
                          rw [← hA] at hA2
                          rw [← hA]
                          have HSS := Lib.hid hs
                          have HSTT := Lib.hid hst
                          have HJ := Lib.hid hlt
                          have HA := Lib.hid hA
                          clear hs hst hlt hA
                          by_cases hb : 255 < 2 * A
                          · by_cases hodd : A % 2 = 1
                            · have o1 : (A : Int) % 2 = 1 := by omega
                              have o2 : ((A : Int) % 2 == 1) = true := by rw [o1]; rfl
                              have HOD := Lib.hid hodd
                              clear hodd
                              go_wp2
                              go_loop [20, 21] (fun p i => ∃ k : Nat, k ≤ j ∧ p = .int .i64 (pw k : Int) ∧ i = .int .i64 (k : Int)) (fun _ i => j - (intOf i).toNat)
                              case atStart => exact ⟨0, by omega, rfl, rfl⟩
                              case round =>
                                obtain ⟨k, hk, rfl, rfl⟩ := hrel
                                obtain ⟨P, hP⟩ : ∃ P, P = pw k := ⟨_, rfl⟩
                                have hpl := pw_le k (by omega)
                                rw [← hP] at hpl
                                rw [← hP]
                                have hup := pw_up k
                                rw [← hP] at hup
                                have HUP := Lib.hid hup
                                have HPP := Lib.hid hP
                                obtain ⟨pl1, pl2⟩ := hpl
                                clear hup hP
                                by_cases hkj : k < j
                                · have k1 : (k : Int) < (j : Int) := by omega
                                  have HKJ := Lib.hid hkj
                                  clear hkj
                                  go_wp2
                                  have hkj := HKJ.out
                                  have hp5 : Value.int IntKind.i64 (2 * (P : Int)) = Value.int IntKind.i64 (pw (k + 1) : Int) := by rw [HUP.out]; go_num
                                  first
                                    | exact ⟨⟨k + 1, by omega, hp5, by go_num⟩, by simp [intOf]; omega⟩
                                    | (go_round
                                       case rel => exact ⟨k + 1, by omega, hp5, by go_num⟩
                                       case measure => simp [intOf]; omega)
                                · obtain rfl : k = j := by omega
                                  obtain ⟨q, hq⟩ : ∃ q, q = P - 1 := ⟨_, rfl⟩
                                  have k1 : ¬ (k : Int) < (k : Int) := by omega
                                  have c0 := UAt.c HSS.out (i := 0) (by omega)
                                  rw [show tr (put (chi H) 0 (chi H 0 ^^^ cst r k)) 0 = chi H 0 ^^^ cst r k from rfl] at c0
                                  have e1 : IntKind.i64.wrap ((P : Int) - 1) = (q : Int) := by rw [i64_small (by omega) (by omega)]; omega
                                  have HQ := Lib.hid hq
                                  clear hq
                                  go_wp2
                                  have f00 := UAt.fr HSS.out 0
                                  go_region_with ((go_at_call 43; refine (turned_one q _ (by have := HQ.out; omega)).mono ?_; rintro e w' ⟨rfl, nd, rfl⟩))
                                  all_goals
                                    rw [xor_nv]
                                    have HS7 := Lib.hid (((show LAt (wr.drewN (1 + nd)) w.heap.size _ from HSS.out).set (i := 0) (by omega) (chi H 0 ^^^ cst r k ^^^ rotl 1#64 (q % 64))).congr (f' := tr (put (chi H) 0 (chi H 0 ^^^ cst r (k + 1)))) (fun i hi => by
                                      rw [HQ.out, HPP.out]
                                      exact cst_grow (chi H) r k HJ.out (by rw [← HA.out]; exact HOD.out) i hi))
                                    have HST7 := Lib.hid (HSTT.out.trans ((stay_drewN (X := fun k => k = w.heap.size) wr (1 + nd)).trans (stay_set _ w.heap.size 0 (.int .u64 (nv (chi H 0 ^^^ cst r k ^^^ rotl 1#64 (q % 64)) : Int)))))
                                    clear c0 f00 e1
                                    go_wp2
                                    try simp only [List.getElem_toArray, List.getElem_cons_succ, List.getElem_cons_zero]
                                    try go_frame
                                    have hj5 := HJ.out
                                    have hrow : Value.int IntKind.i64 (bits BinOp.xor IntKind.i64 (2 * (A : Int) - 256) 113) = Value.int IntKind.i64 (rows (7 * r + (k + 1)) : Int) := by
                                      rw [rows_up, ← HA.out, bitRow, if_pos (by omega), ← xor_113i ⟨2 * A - 256, by omega⟩, show (((⟨2 * A - 256, by omega⟩ : Fin 256).val : Nat) : Int) = 2 * (A : Int) - 256 by simp only; omega]
                                    first
                                      | exact ⟨⟨k + 1, by omega, hrow, by go_num, HS7.out, HST7.out⟩, by simp [intOf]; omega⟩
                                      | (go_round
                                         case rel => exact ⟨k + 1, by omega, hrow, by go_num, HS7.out, HST7.out⟩
                                         case measure => simp [intOf]; omega)
                            · have o1 : ¬ (A : Int) % 2 = 1 := by omega
                              have o2 : ((A : Int) % 2 == 1) = false := by rw [beq_eq_false_iff_ne]; exact o1
                              have hcs := cst_same r j (by rw [← HA.out]; exact hodd)
                              have HS7 := Lib.hid (show LAt wr w.heap.size (tr (put (chi H) 0 (chi H 0 ^^^ cst r (j + 1)))) by rw [hcs]; exact HSS.out)
                              clear hcs hodd
                              go_wp2
                              have hj5 := HJ.out
                              have hrow : Value.int IntKind.i64 (bits BinOp.xor IntKind.i64 (2 * (A : Int) - 256) 113) = Value.int IntKind.i64 (rows (7 * r + (j + 1)) : Int) := by
                                rw [rows_up, ← HA.out, bitRow, if_pos (by omega), ← xor_113i ⟨2 * A - 256, by omega⟩, show (((⟨2 * A - 256, by omega⟩ : Fin 256).val : Nat) : Int) = 2 * (A : Int) - 256 by simp only; omega]
                              first
                                | exact ⟨⟨j + 1, by omega, hrow, by go_num, HS7.out, HSTT.out⟩, by simp [intOf]; omega⟩
                                | (go_round
                                   case rel => exact ⟨j + 1, by omega, hrow, by go_num, HS7.out, HSTT.out⟩
                                   case measure => simp [intOf]; omega)
                          · by_cases hodd : A % 2 = 1
                            · have o1 : (A : Int) % 2 = 1 := by omega
                              have o2 : ((A : Int) % 2 == 1) = true := by rw [o1]; rfl
                              have HOD := Lib.hid hodd
                              clear hodd
                              go_wp2
                              go_loop [20, 21] (fun p i => ∃ k : Nat, k ≤ j ∧ p = .int .i64 (pw k : Int) ∧ i = .int .i64 (k : Int)) (fun _ i => j - (intOf i).toNat)
                              case atStart => exact ⟨0, by omega, rfl, rfl⟩
                              case round =>
                                obtain ⟨k, hk, rfl, rfl⟩ := hrel
                                obtain ⟨P, hP⟩ : ∃ P, P = pw k := ⟨_, rfl⟩
                                have hpl := pw_le k (by omega)
                                rw [← hP] at hpl
                                rw [← hP]
                                have hup := pw_up k
                                rw [← hP] at hup
                                have HUP := Lib.hid hup
                                have HPP := Lib.hid hP
                                obtain ⟨pl1, pl2⟩ := hpl
                                clear hup hP
                                by_cases hkj : k < j
                                · have k1 : (k : Int) < (j : Int) := by omega
                                  have HKJ := Lib.hid hkj
                                  clear hkj
                                  go_wp2
                                  have hkj := HKJ.out
                                  have hp5 : Value.int IntKind.i64 (2 * (P : Int)) = Value.int IntKind.i64 (pw (k + 1) : Int) := by rw [HUP.out]; go_num
                                  first
                                    | exact ⟨⟨k + 1, by omega, hp5, by go_num⟩, by simp [intOf]; omega⟩
                                    | (go_round
                                       case rel => exact ⟨k + 1, by omega, hp5, by go_num⟩
                                       case measure => simp [intOf]; omega)
                                · obtain rfl : k = j := by omega
                                  obtain ⟨q, hq⟩ : ∃ q, q = P - 1 := ⟨_, rfl⟩
                                  have k1 : ¬ (k : Int) < (k : Int) := by omega
                                  have c0 := UAt.c HSS.out (i := 0) (by omega)
                                  rw [show tr (put (chi H) 0 (chi H 0 ^^^ cst r k)) 0 = chi H 0 ^^^ cst r k from rfl] at c0
                                  have e1 : IntKind.i64.wrap ((P : Int) - 1) = (q : Int) := by rw [i64_small (by omega) (by omega)]; omega
                                  have HQ := Lib.hid hq
                                  clear hq
                                  go_wp2
                                  have f00 := UAt.fr HSS.out 0
                                  go_region_with ((go_at_call 43; refine (turned_one q _ (by have := HQ.out; omega)).mono ?_; rintro e w' ⟨rfl, nd, rfl⟩))
                                  all_goals
                                    rw [xor_nv]
                                    have HS7 := Lib.hid (((show LAt (wr.drewN (1 + nd)) w.heap.size _ from HSS.out).set (i := 0) (by omega) (chi H 0 ^^^ cst r k ^^^ rotl 1#64 (q % 64))).congr (f' := tr (put (chi H) 0 (chi H 0 ^^^ cst r (k + 1)))) (fun i hi => by
                                      rw [HQ.out, HPP.out]
                                      exact cst_grow (chi H) r k HJ.out (by rw [← HA.out]; exact HOD.out) i hi))
                                    have HST7 := Lib.hid (HSTT.out.trans ((stay_drewN (X := fun k => k = w.heap.size) wr (1 + nd)).trans (stay_set _ w.heap.size 0 (.int .u64 (nv (chi H 0 ^^^ cst r k ^^^ rotl 1#64 (q % 64)) : Int)))))
                                    clear c0 f00 e1
                                    go_wp2
                                    try simp only [List.getElem_toArray, List.getElem_cons_succ, List.getElem_cons_zero]
                                    try go_frame
                                    have hj5 := HJ.out
                                    have hrow : Value.int IntKind.i64 (2 * (A : Int)) = Value.int IntKind.i64 (rows (7 * r + (k + 1)) : Int) := by
                                      rw [rows_up, ← HA.out, bitRow, if_neg (by omega)]; go_num
                                    first
                                      | exact ⟨⟨k + 1, by omega, hrow, by go_num, HS7.out, HST7.out⟩, by simp [intOf]; omega⟩
                                      | (go_round
                                         case rel => exact ⟨k + 1, by omega, hrow, by go_num, HS7.out, HST7.out⟩
                                         case measure => simp [intOf]; omega)
                            · have o1 : ¬ (A : Int) % 2 = 1 := by omega
                              have o2 : ((A : Int) % 2 == 1) = false := by rw [beq_eq_false_iff_ne]; exact o1
                              have hcs := cst_same r j (by rw [← HA.out]; exact hodd)
                              have HS7 := Lib.hid (show LAt wr w.heap.size (tr (put (chi H) 0 (chi H 0 ^^^ cst r (j + 1)))) by rw [hcs]; exact HSS.out)
                              clear hcs hodd
                              go_wp2
                              have hj5 := HJ.out
                              have hrow : Value.int IntKind.i64 (2 * (A : Int)) = Value.int IntKind.i64 (rows (7 * r + (j + 1)) : Int) := by
                                rw [rows_up, ← HA.out, bitRow, if_neg (by omega)]; go_num
                              first
                                | exact ⟨⟨j + 1, by omega, hrow, by go_num, HS7.out, HSTT.out⟩, by simp [intOf]; omega⟩
                                | (go_round
                                   case rel => exact ⟨j + 1, by omega, hrow, by go_num, HS7.out, HSTT.out⟩
                                   case measure => simp [intOf]; omega)
                        · obtain rfl : j = 7 := by omega
                          have HS8 := Lib.hid (show LAt wr w.heap.size (tr (roundsK F (r + 1))) from by
                            show LAt wr w.heap.size (tr (roundK (roundsK F r) r))
                            rw [HG.out]
                            show LAt wr w.heap.size (tr (put (chi (rhoPi (theta G) 24)) 0 (chi (rhoPi (theta G) 24) 0 ^^^ cst r 7)))
                            rw [HT.out, HH.out]
                            exact hs)
                          have hch : Stay (fun k => k = w.heap.size ∨ w0.heap.size ≤ k) w0 wr := (((HST1.out.mono (fun k e => .inr e)).trans (HST2.out.mono (fun k e => .inr (by have := HN1.out; omega)))).trans (HST4.out.mono (fun k e => .inr (by have := HN1.out; have := HN2.out; omega)))).trans ((HST6.out.trans hst).mono (fun k e => .inl e))
                          have HZ8 := Lib.hid (HZ2.out.stay hch (fun e => by have := HN.out; omega))
                          have HST8 := Lib.hid (HST.out.trans (hch.mono (fun k e => by have := HN.out; omega)))
                          clear hs hst hch
                          go_wp2
                          have hr5 := HLT.out
                          have hrow : Value.int IntKind.i64 (rows (7 * r + 7) : Int) = Value.int IntKind.i64 (rows (7 * (r + 1)) : Int) := rfl
                          first
                            | exact ⟨⟨r + 1, by omega, hrow, by go_num, HS8.out, HZ8.out, HST8.out⟩, by simp [intOf]; omega⟩
                            | (go_round
                               case rel => exact ⟨r + 1, by omega, hrow, by go_num, HS8.out, HZ8.out, HST8.out⟩
                               case measure => simp [intOf]; omega)
    · obtain rfl : r = 24 := by omega
      have HS := Lib.hid (show LAt wr w.heap.size (tr (perm F)) from hs)
      have HZ2 := Lib.hid hz
      have HST := Lib.hid hst
      clear hs hz hst
      go_wp2_with (first
        | (refine load_cells rfl 70 (.tmp 1) rfl ⟨w.heap.size, 0, none⟩ rfl _ (run_load_lan HS.out) ?_)
        | (refine store_lan rfl (.tmp 2) (.tmp 167) rfl (w.heap.size + 1) rfl zeroSt (tr (perm F)) rfl HZ2.out ?_
           intro w3 h3 s3
           have HB3 := Lib.hid h3
           have HST3 := Lib.hid s3
           clear h3 s3))
      have hld := run_load_lan HB3.out
      refine bodyPost_ret (v := lanV (tr (perm F))) (by simp [results, Tryd.results35, asAddr, Act.put, hld]) rfl ⟨rfl, ?_⟩
      exact stay_seal (X := fun k => w.heap.size ≤ k) (HST.out.trans (HST3.out.mono (fun k (e : k = w.heap.size + 1) => by omega))) (fun _ hk => hk)
end Go.Proofs.YtljhfccaoncjeaaDoor.Ke
