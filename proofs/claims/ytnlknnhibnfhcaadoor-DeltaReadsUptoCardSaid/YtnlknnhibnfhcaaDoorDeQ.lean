/-
  The document's answer (chapter 10): the parts of bytes, walked.
-/
import Derived.Test.YtnlknnhibnfhcaaDoorDeO
namespace Go.Proofs.YtnlknnhibnfhcaaDoor.De
open Go.RowKit Pk
set_option maxRecDepth 100000

set_option maxHeartbeats 2000000 in
theorem rdecode_any (w : World) (x : Value) (b : List UInt8) (hx : Slc w x b) :
    Calls Tryd.prog 7 #[x] w fun e w' => (∃ v, e = .returned (.tuple #[v, .int .i64 ((decN b).2 : Int)]) ∧ ∃ L : List Po, L.map Po.p = (decN b).1 ∧ PsAt w' v L) ∧ Stay (fun _ => False) w w' := by
  obtain ⟨DN, hDN⟩ : ∃ DN, DN = decN b := ⟨_, rfl⟩
  rw [← hDN]
  unfold decN at hDN
  have HDN := Lib.hid hDN
  have hin : In0 w.heap.size w x b := ⟨hx, fun h0 => hx.blk_lt h0⟩
  obtain ⟨a0, c0, rfl⟩ := Slc.form hx
  have hcn := take_cnt_le ⟨b, 0⟩
  have hlc := take_len (rule := cntB 64) (zero := 0) (cntB_len 64) ⟨b, 0⟩
  have hcall := rrcount_any b 0 64 w _ hx (by decide)
  generalize takeB (cntB 64) 0 ⟨b, 0⟩ = C at *
  obtain ⟨ci, s0⟩ := C
  dsimp only at hcn hlc
  obtain ⟨n, rfl⟩ : ∃ n : Nat, ci = (n : Int) := ⟨ci.toNat, by omega⟩
  have hn : n ≤ 64 := by omega
  rw [show ((n : Int)).toNat = n by omega] at HDN
  have HIN := Lib.hid hin
  have HCALL := Lib.hid hcall
  clear hDN hx hin hcall hcn
  go_enter Tryd.func7, Tryd.ntmps7
  go_wp2_with fail
  refine HCALL.out.mono ?_
  rintro e w1 ⟨⟨x1, rfl, hsub⟩, hs1⟩
  dsimp only at hsub ⊢
  have hin1 := HIN.out.sub hsub hlc
  obtain ⟨a1, c1, rfl⟩ := Slc.form hin1.slc
  have HIN1 := Lib.hid hin1
  have HS1 := Lib.hid hs1
  have hz1 := hs1.size
  clear hsub hin1 hs1 HCALL
  unfold rdV i64V
  go_wp2
  have hr4 : RAt (w1.alloc (.cells #[.slice a1 s0.b.length c1, .int .i64 (s0.err : Int)] 57)) w1.heap.size (.slice a1 s0.b.length c1) s0.err := heap_alloc_new _ _
  have hs4 : Stay (fun k => w.heap.size ≤ k) w1 (w1.alloc (.cells #[.slice a1 s0.b.length c1, .int .i64 (s0.err : Int)] 57)) := Stay.alloc _ _
  have hz4 : (w1.alloc (.cells #[.slice a1 s0.b.length c1, .int .i64 (s0.err : Int)] 57)).heap.size = w1.heap.size + 1 := by simp
  generalize w1.alloc (.cells #[.slice a1 s0.b.length c1, .int .i64 (s0.err : Int)] 57) = w4 at hr4 hs4 hz4 ⊢
  obtain ⟨B, hB⟩ : ∃ B, B = w1.heap.size := ⟨_, rfl⟩
  rw [← hB] at hr4 hz4 ⊢
  have HR4 := Lib.hid hr4
  have HS4 := Lib.hid ((HS1.out.mono (Y := fun k => w.heap.size ≤ k) (fun _ x => x.elim)).trans hs4)
  have HIN4 := Lib.hid (HIN1.out.stay hs4)
  have hwB : w.heap.size ≤ B := by omega
  clear hr4 hs4 hB
  go_loopw [6, 7] (fun v i wr => ∃ k : Nat, k ≤ n ∧ i = .int .i64 (k : Int) ∧ (∃ L : List Po, L.map Po.p = (takesN s0 k).1 ∧ L.length = k ∧ PsOwn 60 (B + 1) wr v L ∧ ∀ q ∈ L, 0 < q.p.b.length → ∀ j, q.x.ownBlock = some j → j < w.heap.size) ∧ (∃ y, RAt wr B y (takesN s0 k).2.err ∧ In0 w.heap.size wr y (takesN s0 k).2.b) ∧ Stay (fun k => w.heap.size ≤ k) w wr ∧ B + 1 ≤ wr.heap.size) (fun _ i _ => n - (intOf i).toNat)
  case atStart => exact ⟨0, Nat.zero_le _, rfl, ⟨[], rfl, rfl, PsOwn.nil _ _ _, fun _ hq => (List.not_mem_nil hq).elim⟩, ⟨_, HR4.out, HIN4.out⟩, HS4.out, by omega⟩
  case round =>
    obtain ⟨k, hk, rfl, ⟨L, hL, hLk, ho, hbl⟩, ⟨y, hr, hy⟩, hst, hzr⟩ := hrel
    have HT := Lib.hid hst
    have HO := Lib.hid ho
    have HL := Lib.hid hL
    have HLK := Lib.hid hLk
    have HBL := Lib.hid hbl
    obtain ⟨va, vc, rfl⟩ := ho.form
    obtain ⟨ya, yc, rfl⟩ := Slc.form hy.slc
    rw [hLk] at HO ⊢
    obtain ⟨c40, c41, f40, f41⟩ := two_cells hr
    have HRr := Lib.hid hr
    have HY := Lib.hid hy
    have HSU := Lib.hid (show takesN s0 (k + 1) = ((takesN s0 k).1 ++ [(takeP (takesN s0 k).2).1], (takeP (takesN s0 k).2).2) from rfl)
    clear hst ho hL hLk hbl hr hy
    by_cases hlt : k < n
    · have HI := Lib.hid (takeP_i64 (takesN s0 k).2)
      generalize (takesN s0 k).2 = s at *
      have hq1 := PoAt.new wr 60 ⟨tellP [], .slice none 0 0⟩
      have hs1' : Stay (fun _ => False) wr (wr.alloc (.cells (poC ⟨tellP [], .slice none 0 0⟩).toArray 60)) := Stay.alloc _ _
      obtain ⟨w5, hw5⟩ : ∃ w5, wr.alloc (.cells #[.bool false, .int .i64 0, .int .i64 0, .slice none 0 0] 60) = w5 := ⟨_, rfl⟩
      rw [show wr.alloc (.cells (poC ⟨tellP [], .slice none 0 0⟩).toArray 60) = w5 from hw5] at hq1 hs1'
      have hz5 : w5.heap.size = wr.heap.size + 1 := by rw [← hw5]; simp
      have HQ5 := Lib.hid hq1
      have HR5 := Lib.hid (HRr.out.stay hs1' (fun x => x))
      have HY5 := Lib.hid (HY.out.stay (hs1'.mono (fun _ x => x.elim)))
      have HO5 := Lib.hid (HO.out.stay0 hs1')
      have HT5 := Lib.hid (HT.out.trans (hs1'.mono (fun _ x => x.elim)))
      have W5 := Lib.hid hw5
      obtain ⟨c50, c51, f50, f51⟩ := two_cells HR5.out
      have hcall := rrbool_any s.b s.err w5 _ HY5.out.slc
      have htl := take_len (zero := false) truB_len s
      rw [show (⟨s.b, s.err⟩ : RS) = s from rfl] at hcall
      obtain ⟨T, hT⟩ : ∃ T, T = takeP s := ⟨_, rfl⟩
      rw [← hT] at HSU HI
      unfold takeP at hT
      have HTT := Lib.hid hT
      have HCALL := Lib.hid hcall
      clear hq1 hs1' hw5 hcall hT
      generalize takeB truB false s = t at *
      obtain ⟨tb, ts⟩ := t
      dsimp only at htl
      have HLD5 := Lib.hid HR5.out.run
      clear c40 c41 f40 f41 c50 c51 f50 f51
      go_wp2_with (rw [W5.out]; refine wpList_load_run rfl 57 (.tmp 4) rfl ⟨B, 0, none⟩ rfl _ HLD5.out ?_)
      refine HCALL.out.mono ?_
      rintro e w6 ⟨⟨x6, rfl, hsub⟩, hs6⟩
      dsimp only at hsub ⊢
      have hin6 := HY5.out.sub hsub htl
      obtain ⟨a6, c6, rfl⟩ := Slc.form hin6.slc
      have HY6 := Lib.hid hin6
      have HR6 := Lib.hid (HR5.out.stay hs6 (fun x => x))
      have HQ6 := Lib.hid (HQ5.out.stay0 hs6)
      have HO6 := Lib.hid (HO5.out.stay0 hs6)
      have HT6 := Lib.hid (HT5.out.trans (hs6.mono (fun _ x => x.elim)))
      have hz6 := hs6.size
      clear hsub hin6 hs6
      unfold rdV boolV
      cases tb
      rotate_left
      · have h64a := take_num_le ts
        have hla := take_len (rule := numB 64) (zero := 0) (fun b v r h => numB_len h) ts
        go_wp2_with (first
          | (refine HR6.out.store rfl (.tmp 4) (.tmp 26) rfl rfl a6 ts.b.length c6 ts.err rfl ?_
             intro w7 h7 s7
             have q7 := HQ6.out.stay s7 (by omega)
             have f7 := q7.fr 0
             have c7 : w7.cell? ⟨wr.heap.size, 0, none⟩ = some (.bool false) := q7.c 0
             have s78 : Stay (fun j => w.heap.size ≤ j) w6 (w7.setCell ⟨wr.heap.size, 0, none⟩ (.bool true)) := (s7.mono (fun j e => by omega)).trans (Stay.setCell _ _ _ (by show w.heap.size ≤ wr.heap.size; omega))
             have s8 : Stay (fun j => j = wr.heap.size) w7 (w7.setCell ⟨wr.heap.size, 0, none⟩ (.bool true)) := Stay.setCell _ _ _ rfl
             have r8 := h7.stay s8 (by omega)
             have z8 : wr.heap.size < (w7.setCell ⟨wr.heap.size, 0, none⟩ (.bool true)).heap.size := by have := s78.size; omega
             have q8 := q7.set0 true
             obtain ⟨w8, hw8⟩ : ∃ w8, w7.setCell ⟨wr.heap.size, 0, none⟩ (.bool true) = w8 := ⟨_, rfl⟩
             rw [hw8] at s78 s8 r8 z8 q8
             have E8 := Lib.hid hw8
             have HQ8 := Lib.hid q8
             have HLD8 := Lib.hid r8.run
             have HR8 := Lib.hid r8
             have HY8 := Lib.hid (HY6.out.stay s78)
             have HT8 := Lib.hid (HT6.out.trans s78)
             have HO8 := Lib.hid (HO6.out.stay (s7.trans' s8) (fun j hj e => by have := (HO.out.lt j hj); omega) (fun z hz h0 j hj e => by have := HBL.out z hz h0 j hj; omega))
             have HQ7 := Lib.hid q7
             clear h7 s7 q7 s78 s8 r8 q8 hw8)
          | (rw [E8.out]; refine wpList_load_run rfl 57 (.tmp 4) rfl ⟨B, 0, none⟩ rfl _ HLD8.out ?_))
        refine (rruint_any ts.b ts.err 64 _ _ HY8.out.slc (by decide)).mono ?_
        rintro e w9 ⟨⟨x9, rfl, hsub⟩, hs9⟩
        rw [show (⟨ts.b, ts.err⟩ : RS) = ts from rfl] at hsub ⊢
        have hin9 := HY8.out.sub hsub hla
        have hn1 := Lib.hid (show (takeB (numB 64) 0 ts).1 ≤ 64 from h64a)
        generalize takeB (numB 64) 0 ts = u at *
        obtain ⟨u1, us⟩ := u
        dsimp only at hin9 h64a hla ⊢
        obtain ⟨a9, c9, rfl⟩ := Slc.form hin9.slc
        have HY9 := Lib.hid hin9
        have HR9 := Lib.hid (HR8.out.stay hs9 (fun x => x))
        have HQ9 := Lib.hid (HQ8.out.stay0 hs9)
        have HO9 := Lib.hid (HO8.out.stay0 hs9)
        have HT9 := Lib.hid (HT8.out.trans (hs9.mono (fun _ x => x.elim)))
        have hz9 := hs9.size
        have h64b := take_num_le us
        have hlb := take_len (rule := numB 64) (zero := 0) (fun b v r h => numB_len h) us
        have hw1 := i64_small h64a
        clear hsub hin9 hs9 hn1
        unfold rdV u64V
        go_wp2_with (first
          | (refine HR9.out.store rfl (.tmp 4) (.tmp 34) rfl rfl a9 us.b.length c9 us.err rfl ?_
             intro w10 h10 s10
             have HR10 := Lib.hid h10
             have HLD10 := Lib.hid h10.run
             have HY10 := Lib.hid (HY9.out.stay (s10.mono (fun j e => by omega)))
             have HQ10 := Lib.hid (HQ9.out.stay s10 (by omega))
             have HO10 := Lib.hid (HO9.out.stay s10 (fun j hj e => by have := (HO.out.lt j hj); omega) (fun z hz h0 j hj e => by have := HBL.out z hz h0 j hj; omega))
             have HT10 := Lib.hid (HT9.out.trans (s10.mono (fun j e => by omega)))
             have hz10 := s10.size
             clear h10 s10)
          | (refine wpList_load_run rfl 57 (.tmp 4) rfl ⟨B, 0, none⟩ rfl _ HLD10.out ?_))
        refine (rruint_any us.b us.err 64 _ _ HY10.out.slc (by decide)).mono ?_
        rintro e w11 ⟨⟨x11, rfl, hsub⟩, hs11⟩
        rw [show (⟨us.b, us.err⟩ : RS) = us from rfl] at hsub ⊢
        have hin11 := HY10.out.sub hsub hlb
        generalize takeB (numB 64) 0 us = v at *
        obtain ⟨v1, vs⟩ := v
        dsimp only at hin11 h64b hlb ⊢
        obtain ⟨a11, c11, rfl⟩ := Slc.form hin11.slc
        have HY11 := Lib.hid hin11
        have HR11 := Lib.hid (HR10.out.stay hs11 (fun x => x))
        have HQ11 := Lib.hid (HQ10.out.stay0 hs11)
        have HO11 := Lib.hid (HO10.out.stay0 hs11)
        have HT11 := Lib.hid (HT10.out.trans (hs11.mono (fun _ x => x.elim)))
        have hz11 := hs11.size
        have hw2 := i64_small h64b
        clear hsub hin11 hs11
        unfold rdV u64V
        go_wp2_with (first
          | (refine HR11.out.store rfl (.tmp 4) (.tmp 39) rfl rfl a11 vs.b.length c11 vs.err rfl ?_
             intro w12 h12 s12
             have q12 := HQ11.out.stay s12 (by omega)
             have f12 := q12.fr 1
             have f122 := q12.fr 2
             have c12 : w12.cell? ⟨wr.heap.size, 1, none⟩ = some (.int .i64 0) := q12.c 1
             have c122 : w12.cell? ⟨wr.heap.size, 2, none⟩ = some (.int .i64 0) := q12.c 2
             have s13 : Stay (fun j => j = wr.heap.size) w12 ((w12.setCell ⟨wr.heap.size, 1, none⟩ (.int .i64 (u1 : Int))).setCell ⟨wr.heap.size, 2, none⟩ (.int .i64 (v1 : Int))) := (Stay.setCell (X := fun j => j = wr.heap.size) _ _ _ rfl).trans (Stay.setCell (X := fun j => j = wr.heap.size) _ _ _ rfl)
             have q13 := (q12.set1 (u1 : Int)).set2 (v1 : Int)
             obtain ⟨w13, hw13⟩ : ∃ w13, (w12.setCell ⟨wr.heap.size, 1, none⟩ (.int .i64 (u1 : Int))).setCell ⟨wr.heap.size, 2, none⟩ (.int .i64 (v1 : Int)) = w13 := ⟨_, rfl⟩
             rw [hw13] at s13 q13
             have E13 := Lib.hid hw13
             have HR13 := Lib.hid (h12.stay s13 (by omega))
             have HY13 := Lib.hid (HY11.out.stay ((s12.mono (fun j e => by omega)).trans (s13.mono (fun j e => by omega))))
             have HO13 := Lib.hid ((HO11.out.stay s12 (fun j hj e => by have := (HO.out.lt j hj); omega) (fun z hz h0 j hj e => by have := HBL.out z hz h0 j hj; omega)).stay s13 (fun j hj e => by have := (HO.out.lt j hj); omega) (fun z hz h0 j hj e => by have := HBL.out z hz h0 j hj; omega))
             have HT13 := Lib.hid (HT11.out.trans ((s12.mono (fun j e => by omega)).trans (s13.mono (fun j e => by omega))))
             have z13 := (s12.mono (Y := fun _ => True) (fun _ _ => trivial)).size
             have z13' := s13.size
             have HLD13 := Lib.hid (q13.run pt_ref)
             clear h12 s12 q12 s13 q13 hw13)
          | (rw [E13.out]; refine wpList_load_run rfl 60 (.tmp 8) rfl ⟨wr.heap.size, 0, none⟩ rfl _ HLD13.out ?_; unfold poV poC; dsimp only [tellP])
          | (at_builtin
             have hq4 := fun j u (hu : (poC ⟨⟨true, (u1 : Int), (v1 : Int), []⟩, .slice none 0 0⟩)[j]? = some u) => show (w13.alloc (.cells (poC ⟨⟨true, (u1 : Int), (v1 : Int), []⟩, .slice none 0 0⟩).toArray 60)).cell? ⟨w13.heap.size, j, none⟩ = some u by
               rw [cell_of_row _ _ j _ _ _ (heap_alloc_new _ _)]
               simpa using hu
             have hs4 : Stay (fun _ => False) w13 (w13.alloc (.cells (poC ⟨⟨true, (u1 : Int), (v1 : Int), []⟩, .slice none 0 0⟩).toArray 60)) := Stay.alloc _ _
             obtain ⟨w14, hw14⟩ : ∃ w14, w13.alloc (.cells #[.bool true, .int .i64 (u1 : Int), .int .i64 (v1 : Int), .slice none 0 0] 60) = w14 := ⟨_, rfl⟩
             rw [show w13.alloc (.cells (poC ⟨⟨true, (u1 : Int), (v1 : Int), []⟩, .slice none 0 0⟩).toArray 60) = w14 from hw14] at hs4 hq4
             rw [hw14]
             refine append_po pt_ref Tryd.underlying24 rfl (.tmp 53) (.tmp 55) rfl rfl w13.heap.size rfl ⟨⟨true, (u1 : Int), (v1 : Int), []⟩, .slice none 0 0⟩ (HO13.out.stay0 hs4) hq4 ⟨none, 0, rfl, fun h => absurd h (Nat.lt_irrefl 0), fun _ => rfl, Nat.le_refl _, by decide⟩ (I64q.mk (by dsimp only; omega) (by dsimp only; omega) (by dsimp only; omega) (by dsimp only; omega)) (fun h => absurd h (Nat.lt_irrefl 0)) (one_po _ _ _ _ rfl) (by rw [HLK.out]; omega) (Nat.le_trans (by omega : B + 1 ≤ w13.heap.size) hs4.size) ?_
             intro v5 w5 ho5 hs5 hn5
             obtain ⟨a5, c5, rfl⟩ := ho5.form
             rw [List.length_append, List.length_singleton] at ho5
             have HO15 := Lib.hid ho5
             have HS5 := Lib.hid (hs4.trans'' hs5)
             have hz15 := (hs4.trans'' hs5).size
             clear ho5 hs5 hn5 hq4 hs4 hw14))
        have hst5 : Stay (fun j => B + 1 ≤ j ∧ j < wr.heap.size) _ _ := HS5.out.mono (fun j e => HO.out.lt j e)
        refine ⟨⟨k + 1, by omega, by go_num, ⟨L ++ [⟨⟨true, (u1 : Int), (v1 : Int), []⟩, .slice none 0 0⟩], ?_, by rw [List.length_append, List.length_singleton, HLK.out], HO15.out, ?_⟩, ⟨.slice a11 vs.b.length c11, ?_, ?_⟩, HT13.out.trans (hst5.mono (fun j hj => by omega)), by omega⟩, by simp [intOf]; omega⟩
        · rw [List.map_append, HL.out, HSU.out, HTT.out]
          rfl
        · intro z hz h0 j hj
          rcases List.mem_append.1 hz with hz | hz
          · exact HBL.out z hz h0 j hj
          · obtain rfl := List.mem_singleton.1 hz
            exact absurd h0 (Nat.lt_irrefl 0)
        · rw [HSU.out, HTT.out]
          exact HR13.out.stay hst5 (by omega)
        · rw [HSU.out, HTT.out]
          exact HY13.out.stay (hst5.mono (fun j hj => by omega))
      · have hlt2 := text_le ts
        have hla := take_len (rule := textB 64) (zero := []) (textB_len 64) ts
        go_wp2_with (first
          | (refine HR6.out.store rfl (.tmp 4) (.tmp 26) rfl rfl a6 ts.b.length c6 ts.err rfl ?_
             intro w7 h7 s7
             have q7 := HQ6.out.stay s7 (by omega)
             have f7 := q7.fr 0
             have c7 : w7.cell? ⟨wr.heap.size, 0, none⟩ = some (.bool false) := q7.c 0
             have s78 : Stay (fun j => w.heap.size ≤ j) w6 (w7.setCell ⟨wr.heap.size, 0, none⟩ (.bool false)) := (s7.mono (fun j e => by omega)).trans (Stay.setCell _ _ _ (by show w.heap.size ≤ wr.heap.size; omega))
             have s8 : Stay (fun j => j = wr.heap.size) w7 (w7.setCell ⟨wr.heap.size, 0, none⟩ (.bool false)) := Stay.setCell _ _ _ rfl
             have r8 := h7.stay s8 (by omega)
             have z8 : wr.heap.size < (w7.setCell ⟨wr.heap.size, 0, none⟩ (.bool false)).heap.size := by have := s78.size; omega
             have q8 := q7.set0 false
             obtain ⟨w8, hw8⟩ : ∃ w8, w7.setCell ⟨wr.heap.size, 0, none⟩ (.bool false) = w8 := ⟨_, rfl⟩
             rw [hw8] at s78 s8 r8 z8 q8
             have E8 := Lib.hid hw8
             have HQ8 := Lib.hid q8
             have HLD8 := Lib.hid r8.run
             have HR8 := Lib.hid r8
             have HY8 := Lib.hid (HY6.out.stay s78)
             have HT8 := Lib.hid (HT6.out.trans s78)
             have HO8 := Lib.hid (HO6.out.stay (s7.trans' s8) (fun j hj e => by have := (HO.out.lt j hj); omega) (fun z hz h0 j hj e => by have := HBL.out z hz h0 j hj; omega))
             have HQ7 := Lib.hid q7
             clear h7 s7 q7 s78 s8 r8 q8 hw8)
          | (rw [E8.out]; refine wpList_load_run rfl 57 (.tmp 4) rfl ⟨B, 0, none⟩ rfl _ HLD8.out ?_))
        refine (rrbytes_any ts.b ts.err 64 _ _ HY8.out.slc (by decide)).mono ?_
        rintro e w9 ⟨⟨x9, y9, rfl, hsub, hsub2⟩, hs9⟩
        rw [show (⟨ts.b, ts.err⟩ : RS) = ts from rfl] at hsub hsub2 ⊢
        have hin9 := HY8.out.sub hsub hla
        have hin92 := HY8.out.sub hsub2 hlt2
        generalize takeB (textB 64) [] ts = u at *
        obtain ⟨ub, us⟩ := u
        dsimp only at hin9 hin92 hla hlt2 ⊢
        obtain ⟨a9, c9, rfl⟩ := Slc.form hin9.slc
        obtain ⟨b9, d9, rfl⟩ := Slc.form hin92.slc
        have HY9 := Lib.hid hin9
        have HV9 := Lib.hid hin92
        have HR9 := Lib.hid (HR8.out.stay hs9 (fun x => x))
        have HQ9 := Lib.hid (HQ8.out.stay0 hs9)
        have HO9 := Lib.hid (HO8.out.stay0 hs9)
        have HT9 := Lib.hid (HT8.out.trans (hs9.mono (fun _ x => x.elim)))
        have hz9 := hs9.size
        clear hsub hsub2 hin9 hin92 hs9
        unfold rdV
        go_wp2_with (first
          | (refine HR9.out.store rfl (.tmp 4) (.tmp 50) rfl rfl a9 us.b.length c9 us.err rfl ?_
             intro w12 h12 s12
             have q12 := HQ9.out.stay s12 (by omega)
             have f12 := q12.fr 3
             have c12 : w12.cell? ⟨wr.heap.size, 3, none⟩ = some (.slice none 0 0) := q12.c 3
             have s13 : Stay (fun j => j = wr.heap.size) w12 (w12.setCell ⟨wr.heap.size, 3, none⟩ (.slice b9 ub.length d9)) := Stay.setCell (X := fun j => j = wr.heap.size) _ _ _ rfl
             have q13 := q12.set3 (.slice b9 ub.length d9) ub
             obtain ⟨w13, hw13⟩ : ∃ w13, w12.setCell ⟨wr.heap.size, 3, none⟩ (.slice b9 ub.length d9) = w13 := ⟨_, rfl⟩
             rw [hw13] at s13 q13
             have E13 := Lib.hid hw13
             have HR13 := Lib.hid (h12.stay s13 (by omega))
             have HY13 := Lib.hid (HY9.out.stay ((s12.mono (fun j e => by omega)).trans (s13.mono (fun j e => by omega))))
             have HV13 := Lib.hid (HV9.out.stay ((s12.mono (fun j e => by omega)).trans (s13.mono (fun j e => by omega))))
             have HO13 := Lib.hid ((HO9.out.stay s12 (fun j hj e => by have := (HO.out.lt j hj); omega) (fun z hz h0 j hj e => by have := HBL.out z hz h0 j hj; omega)).stay s13 (fun j hj e => by have := (HO.out.lt j hj); omega) (fun z hz h0 j hj e => by have := HBL.out z hz h0 j hj; omega))
             have HT13 := Lib.hid (HT9.out.trans ((s12.mono (fun j e => by omega)).trans (s13.mono (fun j e => by omega))))
             have z13 := s12.size
             have z13' := s13.size
             have HLD13 := Lib.hid (q13.run pt_ref)
             clear h12 s12 q12 s13 q13 hw13)
          | (rw [E13.out]; refine wpList_load_run rfl 60 (.tmp 8) rfl ⟨wr.heap.size, 0, none⟩ rfl _ HLD13.out ?_; unfold poV poC; dsimp only [tellP])
          | (at_builtin
             have hq4 := fun j u (hu : (poC ⟨tellP ub, .slice b9 ub.length d9⟩)[j]? = some u) => show (w13.alloc (.cells (poC ⟨tellP ub, .slice b9 ub.length d9⟩).toArray 60)).cell? ⟨w13.heap.size, j, none⟩ = some u by
               rw [cell_of_row _ _ j _ _ _ (heap_alloc_new _ _)]
               simpa using hu
             have hs4 : Stay (fun _ => False) w13 (w13.alloc (.cells (poC ⟨tellP ub, .slice b9 ub.length d9⟩).toArray 60)) := Stay.alloc _ _
             obtain ⟨w14, hw14⟩ : ∃ w14, w13.alloc (.cells #[.bool false, .int .i64 0, .int .i64 0, .slice b9 ub.length d9] 60) = w14 := ⟨_, rfl⟩
             rw [show w13.alloc (.cells (poC ⟨tellP ub, .slice b9 ub.length d9⟩).toArray 60) = w14 from hw14] at hs4 hq4
             rw [hw14]
             refine append_po pt_ref Tryd.underlying24 rfl (.tmp 53) (.tmp 55) rfl rfl w13.heap.size rfl ⟨tellP ub, .slice b9 ub.length d9⟩ (HO13.out.stay0 hs4) hq4 (HV13.out.slc.stay0 hs4) (I64q.tell _) (fun h0 => HV13.out.ne (fun j hj => by have := (HO.out.lt j hj).1; omega) h0) (one_po _ _ _ _ rfl) (by rw [HLK.out]; omega) (Nat.le_trans (by omega : B + 1 ≤ w13.heap.size) hs4.size) ?_
             intro v5 w5 ho5 hs5 hn5
             obtain ⟨a5, c5, rfl⟩ := ho5.form
             rw [List.length_append, List.length_singleton] at ho5
             have HO15 := Lib.hid ho5
             have HS5 := Lib.hid (hs4.trans'' hs5)
             have hz15 := (hs4.trans'' hs5).size
             clear ho5 hs5 hn5 hq4 hs4 hw14))
        have hst5 : Stay (fun j => B + 1 ≤ j ∧ j < wr.heap.size) _ _ := HS5.out.mono (fun j e => HO.out.lt j e)
        refine ⟨⟨k + 1, by omega, by go_num, ⟨L ++ [⟨tellP ub, .slice b9 ub.length d9⟩], ?_, by rw [List.length_append, List.length_singleton, HLK.out], HO15.out, ?_⟩, ⟨.slice a9 us.b.length c9, ?_, ?_⟩, HT13.out.trans (hst5.mono (fun j hj => by omega)), by omega⟩, by simp [intOf]; omega⟩
        · rw [List.map_append, HL.out, HSU.out, HTT.out]
          rfl
        · intro z hz h0 j hj
          rcases List.mem_append.1 hz with hz | hz
          · exact HBL.out z hz h0 j hj
          · obtain rfl := List.mem_singleton.1 hz
            exact HV13.out.lt h0 j hj
        · rw [HSU.out, HTT.out]
          exact HR13.out.stay hst5 (by omega)
        · rw [HSU.out, HTT.out]
          exact HY13.out.stay (hst5.mono (fun j hj => by omega))
    · obtain rfl : k = n := by omega
      have HLD := Lib.hid HRr.out.run
      have hcall := rdone_ref (takesN s0 k).2.b (takesN s0 k).2.err wr _ HY.out.slc
      rw [show (⟨(takesN s0 k).2.b, (takesN s0 k).2.err⟩ : RS) = (takesN s0 k).2 from rfl] at hcall
      have HCALL := Lib.hid hcall
      have HS := Lib.hid (stay_seal HT.out (fun j hj => hj))
      clear hcall c40 c41 f40 f41
      go_wp2_with (refine wpList_load_run rfl 57 (.tmp 4) rfl ⟨B, 0, none⟩ rfl _ HLD.out ?_)
      refine HCALL.out.mono ?_
      rintro e w5 ⟨rfl, hs5⟩
      have HO5 := Lib.hid (HO.out.stay0 hs5)
      have HS5 := Lib.hid (HS.out.trans hs5)
      clear hs5
      by_cases hd : doneB (takesN s0 k).2 = 0
      · rw [if_pos hd] at HDN
        rw [hd]
        go_wp2
        go_ret2
        rw [HDN.out]
        exact ⟨⟨_, rfl, L, HL.out, HO5.out.at⟩, HS5.out⟩
      · rw [if_neg hd] at HDN
        have hz : ((doneB (takesN s0 k).2 : Int) == 0) = false := beq_eq_false_iff_ne.2 (by omega)
        generalize doneB (takesN s0 k).2 = d at *
        go_wp2
        go_ret2
        rw [HDN.out]
        exact ⟨⟨_, rfl, [], rfl, PsAt.nil _⟩, HS5.out⟩
end Go.Proofs.YtnlknnhibnfhcaaDoor.De
