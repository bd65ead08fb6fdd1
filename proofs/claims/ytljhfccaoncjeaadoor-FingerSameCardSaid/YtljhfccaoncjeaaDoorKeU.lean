/-
  keccak, the document's: Out.
-/
import Derived.Test.YtljhfccaoncjeaaDoorKeS
import Derived.Test.YtljhfccaoncjeaaDoorKeR
namespace Go.Proofs.YtljhfccaoncjeaaDoor.Ke
open Go.RowKit
set_option maxRecDepth 100000

theorem stay_own {w0 wr w7 : World} {base : Nat} {v : Value} {l : List UInt8} (hst : Stay (fun _ => False) w0 wr) (how : Owns base wr v l) (hb : w0.heap.size ≤ base) (hgr : wr.grownBy w7 v.ownBlock) : Stay (fun _ => False) w0 w7 :=
  stay_seal (X := fun k => w0.heap.size ≤ k) ((hst.mono (fun _ x => x.elim)).trans (Stay.grown (X := fun k => w0.heap.size ≤ k) hgr (fun k hk => Nat.le_trans hb (how.lt k hk).1))) (fun _ hk => hk)

/-- A byte stored into a slice of the call's own. -/
theorem store_own {ops : Array Oper} {rest : List Oper} {o : Oper} {a : Act} {w : World} {Q : Exit → Act → World → Prop} (hgd : o.guard = none) (x y : Operand) (ho : o.op = .store 5 x y)
    {base g N cap : Nat} {l : List UInt8} (j : Nat) (c : UInt8) (hx : a.eval x = .pointer (some ⟨g, j, none⟩)) (hy : a.eval y = .int .u8 (c.toNat : Int)) (h : Owns base w (.slice (some ⟨g, 0, none⟩) N cap) l) (hl : l.length = N) (hj : j < N)
    (hn : ∀ w', Owns base w' (.slice (some ⟨g, 0, none⟩) N cap) (l.set j c) → Stay (· = g) w w' → wpList Tryd.prog ops Q rest (a.put o.dst undef) w') : wpList Tryd.prog ops Q (o :: rest) a w :=
  wpList_plain hgd fun _ hK => by
    have h' : w.ownsRow base 5 1 (.slice (some ⟨g, 0, none⟩) N cap) N (cellsB l) := by unfold Owns at h; rw [hl] at h; exact h
    have hc := World.ownsRow.cellAt h' j (by omega)
    rw [List.getElem?_eq_getElem (by rw [length_cellsB]; omega)] at hc
    have hf := World.ownsRow.frozenAt h' j
    have hs : (sizeOf 5).run Tryd.prog w = .ok 1 w := by kernel_rfl
    have hr : (storeVar 5 ⟨g, j, none⟩ (.int .u8 (c.toNat : Int))).run Tryd.prog w = .ok () (w.setCell ⟨g, j, none⟩ (.int .u8 (c.toNat : Int))) := by
      have h0 : (⟨g, j, none⟩ : Addr).add 0 = ⟨g, j, none⟩ := rfl
      simp [storeVar, Value.cells, Sem.run_bind, hs, storeCells, run_store_int, stored, h0, hc, hf]
    unfold Oper.wp execOp
    simp only [ho, hx, hy, Instr.storeAt, Instr.sureAddr, Sem.run_bind, Sem.run_pure, Result.andThen_ok, hr]
    refine hK _ _ (hn _ ?_ (stay_set _ _ _ _))
    have hstd := (World.ownsRow.stored h' j (.int .u8 (c.toNat : Int))).1
    have e : (cellsB l).set j (.int .u8 (c.toNat : Int)) = cellsB (l.set j c) := by
      rw [show Value.int .u8 (c.toNat : Int) = byteV c from rfl]
      unfold cellsB
      rw [← List.map_set]
    rw [e] at hstd
    unfold Owns
    rw [List.length_set, hl]
    exact hstd

set_option maxHeartbeats 4000000 in
theorem rout_any (w : World) (x : Value) (b : List UInt8) (s : UInt8) (n : Nat) (hx : Slc w x b) (hlen : b.length ≤ 1048576) (hn : n ≤ 1048576) :
    Calls Tryd.prog 24 #[x, .int .u8 (s.toNat : Int), .int .i64 n] w fun e w' => ∃ v, e = .returned v ∧ Owns w.heap.size w' v (fromK b s n) ∧ Stay (fun _ => False) w w' := by
  obtain ⟨i0, hi, hz0, hz1, hz2⟩ := info_parts info5
  have HX := Lib.hid hx
  have HI := Lib.hid hi
  have HZ0 := Lib.hid hz0
  have HZ1 := Lib.hid hz1
  have HZ2 := Lib.hid hz2
  have HLN := Lib.hid hlen
  have hn1 : (n : Int) ≤ 1048576 := by omega
  have HN := Lib.hid hn
  clear hx hi hz0 hz1 hz2 hlen hn
  go_enter Tryd.func24, Tryd.ntmps24
  go_wp2_with (first
    | (at_builtin
       refine wpList_append_slc rfl (.tmp 14) (.tmp 15) 34 rfl w.heap.size i0 Tryd.underlying34 HI.out HZ0.out HZ1.out HZ2.out (.slice none 0 0) x [] b rfl rfl (Owns.nil _ _) HX.out (by have := HLN.out; simp; omega) (Nat.le_refl _) ?_
       intro v1 w1 hown1 hgr1 hnn1
       have HO1 := Lib.hid (show Owns w.heap.size w1 v1 b by simpa using hown1)
       have HST1 := Lib.hid (show Stay (fun _ => False) w w1 from Stay.grown (X := fun _ => False) hgr1 (fun k e => by cases e))
       clear hown1 hgr1 hnn1)
    | (at_builtin
       refine wpList_append_slc rfl (.tmp 16) (.tmp 18) 34 rfl w.heap.size i0 Tryd.underlying34 HI.out HZ0.out HZ1.out HZ2.out v1 (.slice (some ⟨w1.heap.size, 0, none⟩) 1 1) b [s] rfl rfl (HO1.out.alloc _) (slc_block w1 [s] 5 (0, 0) (by simp)) (by have := HLN.out; simp; omega) (by have := HST1.out.size; simp; omega) ?_
       intro v2 w2 hown2 hgr2 hnn2
       have HO2 := Lib.hid hown2
       have HST2 := Lib.hid (stay_own (HST1.out.trans (Stay.alloc _ _)) (HO1.out.alloc _) (Nat.le_refl _) hgr2)
       clear hown2 hgr2 hnn2))
  go_loopw [7] (fun v wr => ∃ z : Nat, z ≤ padN b ∧ Owns w.heap.size wr v (b ++ s :: List.replicate z 0) ∧ Stay (fun _ => False) w wr) (fun v _ => b.length + 200 - lenV v)
  case atStart => exact ⟨0, Nat.zero_le _, HO2.out, HST2.out⟩
  case round =>
    obtain ⟨z, hz, how, hst⟩ := hrel
    have hl : (b ++ s :: List.replicate z 0).length = b.length + 1 + z := by simp; omega
    obtain ⟨g, c1, rfl, hcap, hcm⟩ := how.at (by rw [hl]; omega)
    rw [hl] at how hcap ⊢
    obtain ⟨N, hNN⟩ : ∃ N, N = b.length + 1 + z := ⟨_, rfl⟩
    rw [← hNN] at how hl hcap ⊢
    have hp136 := padN_lt b
    have hN1 : (N : Int) ≤ 2000000 := by have := HLN.out; omega
    by_cases hlt : z < padN b
    · have m1 : ((N : Int) % 136 != 0) = true := by
        rw [bne_iff_ne]
        unfold padN at hlt
        omega
      have HOW := Lib.hid how
      have HST := Lib.hid hst
      have HNN := Lib.hid hNN
      have HL := Lib.hid hl
      have HLT := Lib.hid hlt
      clear how hst hNN hl hlt hz hp136
      go_wp2_with (at_builtin
                   refine wpList_append_slc rfl (.tmp 24) (.tmp 25) 34 rfl w.heap.size i0 Tryd.underlying34 HI.out HZ0.out HZ1.out HZ2.out (.slice (some ⟨g, 0, none⟩) N c1) (.slice (some ⟨wr.heap.size, 0, none⟩) 1 1) (b ++ s :: List.replicate z 0) [0] rfl rfl (HOW.out.alloc _) (slc_block wr [0] 5 (0, 0) (by simp)) (by rw [HL.out]; simp; omega) (by have := HST.out.size; simp; omega) ?_
                   intro v3 w3 hown3 hgr3 hnn3
                   have HO3 := Lib.hid (show Owns w.heap.size w3 v3 (b ++ s :: List.replicate (z + 1) 0) by rw [List.replicate_succ', ← List.cons_append, ← List.append_assoc]; exact hown3)
                   have HST3 := Lib.hid (stay_own (HST.out.trans (Stay.alloc _ _)) (HOW.out.alloc _) (Nat.le_refl _) hgr3)
                   clear hown3 hgr3 hnn3)
      obtain ⟨a3, c3, hv3⟩ := HO3.out.form
      have hl3 : (b ++ s :: List.replicate (z + 1) 0).length = b.length + 1 + (z + 1) := by simp; omega
      rw [hl3] at hv3
      refine ⟨⟨z + 1, HLT.out, HO3.out, HST3.out⟩, ?_⟩
      rw [hv3]
      have h1 := HNN.out
      have h2 := padN_lt b
      have h3 := HLT.out
      simp only [lenV]
      omega
    · obtain rfl : z = padN b := by omega
      have m0 : ((N : Int) % 136 != 0) = false := by
        rw [bne_eq_false_iff_eq]
        unfold padN at hNN
        omega
      obtain ⟨N1, hN1'⟩ : ∃ N1, N1 = b.length + padN b := ⟨_, rfl⟩
      obtain ⟨c, hc⟩ : ∃ c, (b ++ s :: List.replicate (padN b) 0)[N1]? = some c := ⟨_, List.getElem?_eq_getElem (by omega)⟩
      have cl : wr.cell? ⟨g, N1, none⟩ = some (.int .u8 (c.toNat : Int)) := by
        rw [World.ownsRow.cellAt (show wr.ownsRow w.heap.size 5 1 (.slice (some ⟨g, 0, none⟩) N c1) N (cellsB (b ++ s :: List.replicate (padN b) 0)) by unfold Owns at how; rw [hl] at how; exact how) N1 (by omega)]
        unfold cellsB
        rw [List.getElem?_map, hc]
        rfl
      have fl : wr.frozen? ⟨g, N1, none⟩ = false := World.ownsRow.frozenAt (show wr.ownsRow w.heap.size 5 1 (.slice (some ⟨g, 0, none⟩) N c1) N (cellsB (b ++ s :: List.replicate (padN b) 0)) by unfold Owns at how; rw [hl] at how; exact how) N1
      have hpad := pad_set b s (padN b) c (by rw [← hN1']; exact hc)
      rw [← hN1'] at hpad
      have hLN : (padK b s).length = N := by rw [length_padK]; omega
      have hblk := (how.lt g rfl)
      have HOW := Lib.hid how
      have HL := Lib.hid hl
      have HST := Lib.hid hst
      have HPAD := Lib.hid hpad
      have e1 : (N : Int) - 1 = (N1 : Int) := by omega
      have e2 := xor_byte c
      have n1 : (N1 : Int) < (N : Int) := by omega
      have n2 : (N1 : Int) ≤ 2000000 := by omega
      have HLN := Lib.hid hLN
      have HG := Lib.hid hblk.2
      have HGB := Lib.hid hblk.1
      have HNN1 := Lib.hid (show N1 < N by omega)
      clear hpad hblk how hst hl hLN hNN hc hN1' hcap hcm hz hp136 hlt
      go_wp2_with (refine store_own rfl (.tmp 38) (.tmp 37) rfl N1 (c ^^^ 128) rfl rfl HOW.out HL.out HNN1.out ?_
                   intro w5 h5 s5
                   have HO5 := Lib.hid (show Owns w.heap.size w5 (.slice (some ⟨g, 0, none⟩) N c1) (padK b s) by rw [HPAD.out] at h5; exact h5)
                   have HST5 := Lib.hid (stay_seal (X := fun k => w.heap.size ≤ k) ((HST.out.mono (fun _ x => x.elim)).trans (s5.mono (Y := fun k => w.heap.size ≤ k) (fun k (e : k = g) => by have := HGB.out; omega))) (fun _ hk => hk))
                   have HGL := Lib.hid (show g < w5.heap.size by have := HG.out; have := s5.size; omega)
                   clear h5 s5)
      have HA0 := Lib.hid (show LAt (w5.alloc (.cells (cellsU zeroSt 25).toArray 70)) w5.heap.size (tr zeroSt) by
        unfold LAt UAt
        rw [List.append_nil]
        exact heap_alloc_new w5 _)
      clear e1 e2 cl fl m0
      obtain ⟨L, hL⟩ : ∃ L, L = padK b s := ⟨_, rfl⟩
      rw [← hL] at HO5 HLN
      have HPL := Lib.hid hL
      clear hL
      go_loopw [9] (fun i wr => ∃ k : Nat, k ≤ N ∧ i = .int .i64 (k : Int) ∧ LAt wr w5.heap.size (tr (eats (zeroSt, 0) (L.take k)).1) ∧ Owns w.heap.size wr (.slice (some ⟨g, 0, none⟩) N c1) L ∧ Stay (fun _ => False) w wr) (fun i _ => N - (intOf i).toNat)
      case atStart => exact ⟨0, Nat.zero_le _, rfl, HA0.out, HO5.out.alloc _, HST5.out.trans (Stay.alloc _ _)⟩
      case round =>
        obtain ⟨k, hk, rfl, ha, how, hst⟩ := hrel
        by_cases hlt : k < N
        · have hkL : k < L.length := by rw [HLN.out]; exact hlt
          obtain ⟨c', hc'⟩ : ∃ c', L[k] = c' := ⟨_, rfl⟩
          have hes := eats_succ (zeroSt, 0) L k hkL
          rw [hc'] at hes
          have hsn := eats_snd (zeroSt, 0) (L.take k) (by decide)
          rw [List.length_take, Nat.min_eq_left (by omega)] at hsn
          simp only [Nat.zero_add] at hsn
          generalize eats (zeroSt, 0) (L.take k) = q at ha hes hsn
          obtain ⟨f, t⟩ := q
          simp only at ha hsn
          obtain ⟨p, hp⟩ : ∃ p, p = k % 136 := ⟨_, rfl⟩
          rw [← hp] at hsn
          subst hsn
          obtain ⟨l, hl⟩ : ∃ l, l = t / 8 := ⟨_, rfl⟩
          obtain ⟨X, hX⟩ : ∃ X, X = l % 5 := ⟨_, rfl⟩
          obtain ⟨Y, hY⟩ : ∃ Y, Y = l / 5 := ⟨_, rfl⟩
          obtain ⟨r, hr⟩ : ∃ r, r = k % 8 := ⟨_, rfl⟩
          obtain ⟨s8, hs8⟩ : ∃ s8, s8 = 8 * r := ⟨_, rfl⟩
          obtain ⟨cu, hcu⟩ : ∃ cu : U, cu = BitVec.ofNat 64 c'.toNat := ⟨_, rfl⟩
          have ht136 : t < 136 := by omega
          have hrt : r = t % 8 := by omega
          have hXY : X + 5 * Y = l := by omega
          have c0 := ha.c (i := X * 5 + Y) (by omega)
          rw [tr_at f (by omega), hXY] at c0
          have f0 := ha.fr (X * 5 + Y)
          have cb : wr.cell? ⟨g, k, none⟩ = some (.int .u8 (c'.toNat : Int)) := by
            rw [World.ownsRow.cellAt (show wr.ownsRow w.heap.size 5 1 (.slice (some ⟨g, 0, none⟩) N c1) N (cellsB L) by unfold Owns at how; rw [HLN.out] at how; exact how) k (by omega)]
            unfold cellsB
            rw [List.getElem?_map, List.getElem?_eq_getElem hkL, hc']
            rfl
          have k1 : (k : Int) % 136 = (t : Int) := by omega
          have k2 : (t : Int) / 8 = (l : Int) := by omega
          have x1 : (l : Int).tmod 5 = (X : Int) := by rw [Int.tmod_eq_emod_of_nonneg (by omega)]; omega
          have x2 : (l : Int) % 5 = (X : Int) := by omega
          have y1 : IntKind.i64.wrap ((l : Int) / 5) = (Y : Int) := by rw [i64_small (by omega) (by omega)]; omega
          have r1 : (k : Int).tmod 8 = (r : Int) := by rw [Int.tmod_eq_emod_of_nonneg (by omega)]; omega
          have r2 : (k : Int) % 8 = (r : Int) := by omega
          have s1 : IntKind.i64.wrap (8 * (r : Int)) = (s8 : Int) := by rw [i64_small (by omega) (by omega)]; omega
          have e5 : IntKind.u64.wrap (c'.toNat : Int) = (nv cu : Int) := by subst hcu; exact wrap_byte c'
          have b1 : (X : Int) < 5 := by omega
          have b2 : (Y : Int) < 5 := by omega
          have b3 : (s8 : Int) < 64 := by omega
          have b4 : (k : Int) < (N : Int) := by omega
          have HA := Lib.hid ha
          have HOW := Lib.hid how
          have HST := Lib.hid hst
          have HES := Lib.hid hes
          have HT := Lib.hid ht136
          have HXL := Lib.hid (show X < 5 ∧ Y < 5 by omega)
          have HXY := Lib.hid hXY
          have HV := Lib.hid (show xorB f t c' = put f l (f l ^^^ cu <<< s8) by unfold xorB; rw [hl, hcu, hs8, hrt])
          have HK := Lib.hid hlt
          have HNE := Lib.hid (show g ≠ w5.heap.size from Nat.ne_of_lt HGL.out)
          have HWA := Lib.hid (show w.heap.size ≤ w5.heap.size from HST5.out.size)
          clear ha how hst hes hkL hc' hp hl hX hY hr hs8 hcu ht136 hrt hXY hlt
          go_wp2_with fail
          refine wp_region_still_tail 23 (by kernel_rfl) (by kernel_rfl) ?_
          simp only [List.take_succ_cons, List.take_zero, List.drop_succ_cons, List.drop_zero]
          repeat still_step
          rw [shl_nv, xor_nv]
          refine wpStill_nil ?_
          clear c0 f0 cb x1 x2 y1 r1 r2 s1 e5
          refine store_lane (w := wr.drew) rfl (.tmp 70) (.tmp 68) rfl (X * 5 + Y) _ rfl rfl HA.out.drew (by have := HXL.out; omega) ?_
          intro w7 h7 s7
          have HA7 := Lib.hid (h7.congr (f' := tr (xorB f t c')) (fun i hi => by
            rw [tr_put f HXL.out.1 HXL.out.2 _ i hi, HXY.out, HV.out]))
          have HO7 := Lib.hid (HOW.out.stay (Stay.drew.trans s7) (fun k (e : some g = some k) => by cases e; exact HNE.out))
          have HST7 := Lib.hid (stay_seal (X := fun k => w.heap.size ≤ k) ((HST.out.mono (fun _ x => x.elim)).trans (Stay.drew.trans (s7.mono (Y := fun k => w.heap.size ≤ k) (fun k (e : k = w5.heap.size) => by have := HWA.out; omega)))) (fun _ hk => hk))
          clear h7 s7
          go_frame
          by_cases h135 : t = 135
          · subst h135
            go_wp2_with (refine load_cells rfl 70 (.tmp 8) rfl ⟨w5.heap.size, 0, none⟩ rfl _ (run_load_lan HA7.out) ?_)
            refine (rrounds_any w7 _).mono ?_
            rintro e w8 ⟨rfl, s8'⟩
            have HA8 := Lib.hid (HA7.out.stay s8' (fun x => x))
            have HO8 := Lib.hid (HO7.out.stay0 s8')
            have HST8 := Lib.hid (HST7.out.trans s8')
            clear s8'
            go_wp2_with (refine store_lan rfl (.tmp 8) (.tmp 75) rfl w5.heap.size rfl _ (tr (perm (xorB f 135 c'))) rfl HA8.out ?_
                         intro w9 h9 s9
                         have HA9 := Lib.hid h9
                         have HO9 := Lib.hid (HO8.out.stay s9 (fun k (e : some g = some k) => by cases e; exact HNE.out))
                         have HST9 := Lib.hid (stay_seal (X := fun k => w.heap.size ≤ k) ((HST8.out.mono (fun _ x => x.elim)).trans (s9.mono (Y := fun k => w.heap.size ≤ k) (fun k (e : k = w5.heap.size) => by have := HWA.out; omega))) (fun _ hk => hk))
                         clear h9 s9)
            have hl := HK.out
            have hfin : LAt w9 w5.heap.size (tr (eats (zeroSt, 0) (L.take (k + 1))).1) := by rw [HES.out]; exact HA9.out
            first
              | exact ⟨⟨k + 1, by omega, by go_num, hfin, HO9.out, HST9.out⟩, by simp [intOf]; omega⟩
              | (go_round
                 case rel => exact ⟨k + 1, by omega, by go_num, hfin, HO9.out, HST9.out⟩
                 case measure => simp [intOf]; omega)
          · have q6 : ¬ (t : Int) = 135 := by omega
            have H6 := Lib.hid h135
            clear h135
            go_wp2
            have hl := HK.out
            have ht := HT.out
            have h6 := H6.out
            have hfin : LAt w7 w5.heap.size (tr (eats (zeroSt, 0) (L.take (k + 1))).1) := by
              rw [HES.out]
              unfold eat
              rw [if_neg (by simp only; omega)]
              exact HA7.out
            first
              | exact ⟨⟨k + 1, by omega, by go_num, hfin, HO7.out, HST7.out⟩, by simp [intOf]; omega⟩
              | (go_round
                 case rel => exact ⟨k + 1, by omega, by go_num, hfin, HO7.out, HST7.out⟩
                 case measure => simp [intOf]; omega)
        · obtain rfl : k = N := by omega
          have hall : eats (zeroSt, 0) (L.take k) = (endK (eats (zeroSt, 0) b) s, 0) := by rw [List.take_of_length_le (by rw [HLN.out]; exact Nat.le_refl _), HPL.out, pad_eats]
          rw [hall] at ha
          obtain ⟨F0, hF0⟩ : ∃ F0, F0 = endK (eats (zeroSt, 0) b) s := ⟨_, rfl⟩
          obtain ⟨w6, hw6⟩ : ∃ w6, w6 = wr := ⟨_, rfl⟩
          subst hw6
          have HA6 := Lib.hid (show LAt w6 w5.heap.size (tr F0) by rw [hF0]; exact ha)
          have HF0 := Lib.hid hF0
          have HST6 := Lib.hid hst
          clear ha how hst hall hF0
          go_wp2
          go_loopw [11, 12] (fun v i wr => ∃ k : Nat, k ≤ n ∧ i = .int .i64 (k : Int) ∧ Owns w.heap.size wr v (outK F0 k) ∧ LAt wr w5.heap.size (tr (permN F0 ((k - 1) / 136))) ∧ Stay (fun _ => False) w wr ∧ ∀ j, v.ownBlock = some j → j ≠ w5.heap.size) (fun _ i _ => n - (intOf i).toNat)
          case atStart => exact ⟨0, Nat.zero_le _, rfl, Owns.nil _ _, HA6.out, HST6.out, fun j e => by cases e⟩
          case round =>
            obtain ⟨k, hk, rfl, how, ha, hst, hnb⟩ := hrel
            by_cases hlt : k < n
            · obtain ⟨p, hp⟩ : ∃ p, p = k % 136 := ⟨_, rfl⟩
              obtain ⟨l, hl⟩ : ∃ l, l = p / 8 := ⟨_, rfl⟩
              obtain ⟨X, hX⟩ : ∃ X, X = l % 5 := ⟨_, rfl⟩
              obtain ⟨Y, hY⟩ : ∃ Y, Y = l / 5 := ⟨_, rfl⟩
              obtain ⟨r, hr⟩ : ∃ r, r = p % 8 := ⟨_, rfl⟩
              obtain ⟨s8, hs8⟩ : ∃ s8, s8 = 8 * r := ⟨_, rfl⟩
              obtain ⟨G, hG⟩ : ∃ G, G = permN F0 (k / 136) := ⟨_, rfl⟩
              have hp136 : p < 136 := by omega
              have hv : (nv (G l) : Int) / 2 ^ s8 % 256 = ((byteK G p).toNat : Int) := by rw [← byte_nv, IntKind.wrap_u8, ← hl, ← hr, ← hs8]
              have hob : tr G (X * 5 + Y) = G l := by rw [hX, hY, hl]; exact out_byte G p hp136
              have hos : outK F0 (k + 1) = outK F0 k ++ [byteK G p] := by rw [outK_succ, hG, hp]
              have k1 : (k : Int) % 136 = (p : Int) := by omega
              have k2 : (p : Int) / 8 = (l : Int) := by omega
              have x2 : (l : Int) % 5 = (X : Int) := by omega
              have y2 : (l : Int) / 5 = (Y : Int) := by omega
              have r2 : (p : Int) % 8 = (r : Int) := by omega
              have s1 : 8 * (r : Int) = (s8 : Int) := by omega
              have b1 : (X : Int) < 5 := by omega
              have b2 : (Y : Int) < 5 := by omega
              have b3 : (s8 : Int) < 64 := by omega
              have b4 : (k : Int) < (n : Int) := by omega
              have HOW := Lib.hid how
              have HAA := Lib.hid ha
              have HST := Lib.hid hst
              have HNB := Lib.hid hnb
              have HOB := Lib.hid hob
              have HOS := Lib.hid hos
              have HGG := Lib.hid hG
              have HXL := Lib.hid (show X < 5 ∧ Y < 5 by omega)
              have HLK := Lib.hid hlt
              have hcase : k = 0 ∨ (0 < k ∧ k % 136 = 0) ∨ (0 < k ∧ ¬ k % 136 = 0) := by omega
              have HP := Lib.hid hp
              clear how ha hst hnb hob hos hG hlt hl hX hY hr hs8 hp hp136
              rcases hcase with h0 | ⟨h0, h1⟩ | ⟨h0, h1⟩
              · have g0 : decide ((0 : Int) < (k : Int)) = false := decide_eq_false (by omega)
                have g1 : decide (0 < k) = false := decide_eq_false (by omega)
                have HA5 := Lib.hid (show LAt wr w5.heap.size (tr G) by rw [HGG.out, h0]; rw [h0] at HAA; exact HAA.out)
                clear h0
                have c0 := UAt.c HA5.out (i := X * 5 + Y) (by have := HXL.out; omega)
                rw [HOB.out] at c0
                go_wp2_with (at_builtin
                             refine wpList_append_slc rfl (.tmp 93) (.tmp 107) 34 rfl w.heap.size i0 Tryd.underlying34 HI.out HZ0.out HZ1.out HZ2.out u11 (.slice (some ⟨wr.heap.size, 0, none⟩) 1 1) (outK F0 k) [byteK G p] rfl rfl (HOW.out.alloc _) (slc_block wr [byteK G p] 5 (0, 0) (by simp)) (by have := HLK.out; have := HN.out; simp [outK]; omega) (by have := HST.out.size; simp; omega) ?_
                             intro v3 w3 hown3 hgr3 hnn3
                             have HO3 := Lib.hid (show Owns w.heap.size w3 v3 (outK F0 (k + 1)) by rw [HOS.out]; exact hown3)
                             have HST3 := Lib.hid (stay_own (HST.out.trans (Stay.alloc _ _)) (HOW.out.alloc _) (Nat.le_refl _) hgr3)
                             have HA3 := Lib.hid ((HA5.out.stay (Stay.alloc (X := fun _ => False) wr (.cells #[.int .u8 ((byteK G p).toNat : Int)] 5)) (fun x => x)).stay (Stay.grown (X := fun j => u11.ownBlock = some j) hgr3 (fun j hj => hj)) (fun e => HNB.out _ e rfl))
                             have HNB3 := Lib.hid (show ∀ j, v3.ownBlock = some j → j ≠ w5.heap.size from fun j hj => by
                               rcases hnn3 with h | h
                               · exact HNB.out j (h.symm.trans hj)
                               · rw [h] at hj
                                 have h1 := HA5.out.lt
                                 have h2 : j = wr.heap.size + 1 := by simpa using (Option.some.inj hj).symm
                                 omega)
                             clear hown3 hgr3 hnn3)
                have hk5 := HLK.out
                have hfin : LAt w3 w5.heap.size (tr (permN F0 ((k + 1 - 1) / 136))) := by rw [Nat.add_sub_cancel, ← HGG.out]; exact HA3.out
                first
                  | exact ⟨⟨k + 1, by omega, by go_num, HO3.out, hfin, HST3.out, HNB3.out⟩, by simp [intOf]; omega⟩
                  | (go_round
                     case rel => exact ⟨k + 1, by omega, by go_num, HO3.out, hfin, HST3.out, HNB3.out⟩
                     case measure => simp [intOf]; omega)
              · have g0 : (0 : Int) < (k : Int) := by omega
                have g1 : ((p : Int) == 0) = true := by rw [beq_iff_eq]; have := HP.out; omega
                have hkk := HAA.out
                have HG2 := Lib.hid (show G = perm (permN F0 ((k - 1) / 136)) by rw [HGG.out, show k / 136 = (k - 1) / 136 + 1 by omega]; rfl)
                clear h0 h1 hkk
                go_wp2_with (refine load_cells rfl 70 (.tmp 8) rfl ⟨w5.heap.size, 0, none⟩ rfl _ (run_load_lan HAA.out) ?_)
                refine (rrounds_any wr _).mono ?_
                rintro e w8 ⟨rfl, s8'⟩
                have HA8 := Lib.hid (HAA.out.stay s8' (fun x => x))
                have HO8 := Lib.hid (HOW.out.stay0 s8')
                have HST8 := Lib.hid (HST.out.trans s8')
                clear s8'
                rw [← HG2.out]
                go_wp2_with (first
                  | (refine store_lan rfl (.tmp 8) (.tmp 89) rfl w5.heap.size rfl _ (tr G) rfl HA8.out ?_
                     intro w9 h9 s9
                     have HA9 := Lib.hid h9
                     have HO9 := Lib.hid (HO8.out.stay s9 (fun j e => HNB.out j e))
                     have HST9 := Lib.hid (stay_seal (X := fun k => w.heap.size ≤ k) ((HST8.out.mono (fun _ x => x.elim)).trans (s9.mono (Y := fun k => w.heap.size ≤ k) (fun k (e : k = w5.heap.size) => by have := HST5.out.size; omega))) (fun _ hk => hk))
                     have c0 := UAt.c h9 (i := X * 5 + Y) (by have := HXL.out; omega)
                     rw [HOB.out] at c0
                     clear h9 s9)
                  | (at_builtin
                     refine wpList_append_slc rfl (.tmp 93) (.tmp 107) 34 rfl w.heap.size i0 Tryd.underlying34 HI.out HZ0.out HZ1.out HZ2.out u11 (.slice (some ⟨w9.heap.size, 0, none⟩) 1 1) (outK F0 k) [byteK G p] rfl rfl (HO9.out.alloc _) (slc_block w9 [byteK G p] 5 (0, 0) (by simp)) (by have := HLK.out; have := HN.out; simp [outK]; omega) (by have := HST9.out.size; simp; omega) ?_
                     intro v3 w3 hown3 hgr3 hnn3
                     have HO3 := Lib.hid (show Owns w.heap.size w3 v3 (outK F0 (k + 1)) by rw [HOS.out]; exact hown3)
                     have HST3 := Lib.hid (stay_own (HST9.out.trans (Stay.alloc _ _)) (HO9.out.alloc _) (Nat.le_refl _) hgr3)
                     have HA3 := Lib.hid ((HA9.out.stay (Stay.alloc (X := fun _ => False) w9 (.cells #[.int .u8 ((byteK G p).toNat : Int)] 5)) (fun x => x)).stay (Stay.grown (X := fun j => u11.ownBlock = some j) hgr3 (fun j hj => hj)) (fun e => HNB.out _ e rfl))
                     have HNB3 := Lib.hid (show ∀ j, v3.ownBlock = some j → j ≠ w5.heap.size from fun j hj => by
                       rcases hnn3 with h | h
                       · exact HNB.out j (h.symm.trans hj)
                       · rw [h] at hj
                         have h1 := HA9.out.lt
                         have h2 : j = w9.heap.size + 1 := by simpa using (Option.some.inj hj).symm
                         omega)
                     clear hown3 hgr3 hnn3))
                have hk5 := HLK.out
                have hfin : LAt w3 w5.heap.size (tr (permN F0 ((k + 1 - 1) / 136))) := by rw [Nat.add_sub_cancel, ← HGG.out]; exact HA3.out
                first
                  | exact ⟨⟨k + 1, by omega, by go_num, HO3.out, hfin, HST3.out, HNB3.out⟩, by simp [intOf]; omega⟩
                  | (go_round
                     case rel => exact ⟨k + 1, by omega, by go_num, HO3.out, hfin, HST3.out, HNB3.out⟩
                     case measure => simp [intOf]; omega)
              · have g0 : (0 : Int) < (k : Int) := by omega
                have g1 : ((p : Int) == 0) = false := by rw [beq_eq_false_iff_ne]; have := HP.out; omega
                have g2 : ¬ (p : Int) = 0 := by have := HP.out; omega
                have HA5 := Lib.hid (show LAt wr w5.heap.size (tr G) by rw [HGG.out, show k / 136 = (k - 1) / 136 by omega]; exact HAA.out)
                clear h0 h1
                have c0 := UAt.c HA5.out (i := X * 5 + Y) (by have := HXL.out; omega)
                rw [HOB.out] at c0
                go_wp2_with (at_builtin
                             refine wpList_append_slc rfl (.tmp 93) (.tmp 107) 34 rfl w.heap.size i0 Tryd.underlying34 HI.out HZ0.out HZ1.out HZ2.out u11 (.slice (some ⟨wr.heap.size, 0, none⟩) 1 1) (outK F0 k) [byteK G p] rfl rfl (HOW.out.alloc _) (slc_block wr [byteK G p] 5 (0, 0) (by simp)) (by have := HLK.out; have := HN.out; simp [outK]; omega) (by have := HST.out.size; simp; omega) ?_
                             intro v3 w3 hown3 hgr3 hnn3
                             have HO3 := Lib.hid (show Owns w.heap.size w3 v3 (outK F0 (k + 1)) by rw [HOS.out]; exact hown3)
                             have HST3 := Lib.hid (stay_own (HST.out.trans (Stay.alloc _ _)) (HOW.out.alloc _) (Nat.le_refl _) hgr3)
                             have HA3 := Lib.hid ((HA5.out.stay (Stay.alloc (X := fun _ => False) wr (.cells #[.int .u8 ((byteK G p).toNat : Int)] 5)) (fun x => x)).stay (Stay.grown (X := fun j => u11.ownBlock = some j) hgr3 (fun j hj => hj)) (fun e => HNB.out _ e rfl))
                             have HNB3 := Lib.hid (show ∀ j, v3.ownBlock = some j → j ≠ w5.heap.size from fun j hj => by
                               rcases hnn3 with h | h
                               · exact HNB.out j (h.symm.trans hj)
                               · rw [h] at hj
                                 have h1 := HA5.out.lt
                                 have h2 : j = wr.heap.size + 1 := by simpa using (Option.some.inj hj).symm
                                 omega)
                             clear hown3 hgr3 hnn3)
                have hk5 := HLK.out
                have hfin : LAt w3 w5.heap.size (tr (permN F0 ((k + 1 - 1) / 136))) := by rw [Nat.add_sub_cancel, ← HGG.out]; exact HA3.out
                first
                  | exact ⟨⟨k + 1, by omega, by go_num, HO3.out, hfin, HST3.out, HNB3.out⟩, by simp [intOf]; omega⟩
                  | (go_round
                     case rel => exact ⟨k + 1, by omega, by go_num, HO3.out, hfin, HST3.out, HNB3.out⟩
                     case measure => simp [intOf]; omega)
            · obtain rfl : k = n := by omega
              have HO9 := Lib.hid how
              have HST9 := Lib.hid hst
              clear how ha hst hnb
              go_wp2
              go_ret
              refine ⟨_, rfl, ?_, HST9.out⟩
              have e : fromK b s k = outK F0 k := by rw [HF0.out]; rfl
              rw [e]
              exact HO9.out
end Go.Proofs.YtljhfccaoncjeaaDoor.Ke
