/-
  The document's answer (chapter 10): the block that parts make of a base.
-/
import Derived.Test.YtnlknnhibnfhcaaDoorDeK
namespace Go.Proofs.YtnlknnhibnfhcaaDoor.De
open Go.RowKit Pk
set_option maxRecDepth 100000

theorem run_copy_blk (w : World) (g : Nat) (z : List UInt8) (hz : z.length = 64) (hg : BAt w g 23 z) (x : Value) (b : List UInt8) (hx : Slc w x b) (hb : b.length = 64) (ty : TypeId) :
    ∃ w2, (Builtin.copy_ #[25, 25] ty #[.slice (some ⟨g, 0, none⟩) 64 64, x]).run Tryd.prog w = .ok (.int .i64 64) w2 ∧ BAt w2 g 23 b ∧ Stay (fun k => k = g) w w2 := by
  obtain ⟨a0, c, rfl, hr, hn, hc, hm⟩ := hx
  have hu := Tryd.underlying25
  have hsz : (Tryd.prog.info? 5).map (·.size) = some 1 := by kernel_rfl
  obtain ⟨ad, rfl, hcell⟩ := hr (by omega)
  have hcs : (cellsB b).length = Nat.min b.length 64 := by rw [length_cellsB, hb]; rfl
  have hrun := run_copy_row (P := Tryd.prog) w 25 25 ty 5 g 0 64 64 ad b.length c (cellsB z).toArray 23 (cellsB b) hu hsz hg hcs (fun j v hv => hcell j v hv) (by rw [length_cellsB]; simp [cellsB]; omega) (oneCell_cellsB _)
  have he : (cellsB z).toArray.toList.take 0 ++ cellsB b ++ (cellsB z).toArray.toList.drop (0 + (cellsB b).length) = cellsB b := by
    rw [List.take_zero, List.nil_append, List.drop_eq_nil_of_le (by simp [cellsB]; omega), List.append_nil]
  rw [he] at hrun
  exact ⟨_, hrun.trans (by rw [length_cellsB, hb]; rfl), setRow_heap w g _ _ _ _ hg, Stay.setRow w g _ rfl⟩

theorem run_all (w : World) (g : Nat) : (Instr.sliceAt 23 (.pointer (some ⟨g, 0, none⟩)) none none none).run Tryd.prog w = .ok (.slice (some ⟨g, 0, none⟩) 64 64) w := by
  rw [run_sliceAt_array_all w 23 ⟨g, 0, none⟩ under_64, size_64, len_64]
  simp only [Result.andThen, slicedAt, Nat.mul_one]
  rfl

set_option maxHeartbeats 2000000 in
theorem rapply_any (w : World) (a : List UInt8) (v : Value) (L : List Po) (ha : a.length = 64) (hv : PsAt w v L) (hmx : ∀ q ∈ L, q.p.b.length ≤ 140737488355328) :
    Calls Tryd.prog 10 #[arrV a, v] w fun e w' => e = .returned (.tuple #[arrV (resB (applyN a (L.map Po.p) [])), .int .i64 (resE (applyN a (L.map Po.p) []) : Int)]) ∧ Stay (fun _ => False) w w' := by
  obtain ⟨i0, hi, hz0, hz1, hz2⟩ := info_parts info5
  have HI := Lib.hid hi
  have HZ0 := Lib.hid hz0
  have HZ1 := Lib.hid hz1
  have HZ2 := Lib.hid hz2
  have hx0 := BAt.new w 23 a
  generalize hw0 : w.alloc (.cells (cellsB a).toArray 23) = w0 at hx0
  have hs0 : Stay (fun _ => False) w w0 := hw0 ▸ Stay.alloc _ _
  have n0 : w0.heap.size = w.heap.size + 1 := by rw [← hw0]; simp
  have hx1 := BAt.new w0 23 z64
  generalize hw1 : w0.alloc (.cells (cellsB z64).toArray 23) = w1 at hx1
  have hs1 : Stay (fun _ => False) w0 w1 := hw1 ▸ Stay.alloc _ _
  have n1 : w1.heap.size = w.heap.size + 2 := by rw [← hw1]; simp [n0]
  rw [n0] at hx1
  have H0 := Lib.hid (hx0.stay0 hs1)
  have H1 := Lib.hid hx1
  have HS1 := Lib.hid (hs0.trans hs1)
  have W0 := Lib.hid hw0
  have W1 := Lib.hid hw1
  have N0 := Lib.hid n0
  have N1 := Lib.hid n1
  have HV := Lib.hid hv
  have HMX := Lib.hid hmx
  have HA := Lib.hid ha
  obtain ⟨R, hR⟩ : ∃ R, R = applyN a (L.map Po.p) [] := ⟨_, rfl⟩
  rw [← hR]
  have HR := Lib.hid hR
  obtain ⟨a0, c0, rfl, hc1, hc2, hcell⟩ := hv.ex
  have HC := Lib.hid hcell
  clear hi hz0 hz1 hz2 hx0 hx1 hs0 hs1 hw0 hw1 n0 n1 hv ha hR hcell hmx
  unfold arrV
  go_enter Tryd.func10, Tryd.ntmps10
  go_wp2_with (with_reducible refine arr_64.alloc rfl rfl ?_; rw [show List.replicate 64 0 = z64 from rfl, W0.out, N0.out, W1.out])
  clear W0 W1 N0
  go_loopw [6, 7] (fun m i wr => ∃ k : Nat, k ≤ L.length ∧ i = .int .i64 (k : Int) ∧ (∃ acc, applyN a ((L.map Po.p).drop k) acc = R ∧ acc.length ≤ 64 ∧ Owns (w.heap.size + 2) wr m acc) ∧ BAt wr w.heap.size 23 a ∧ BAt wr (w.heap.size + 1) 23 z64 ∧ Stay (fun _ => False) w wr ∧ w.heap.size + 2 ≤ wr.heap.size) (fun _ i _ => L.length - (intOf i).toNat)
  case atStart => exact ⟨0, Nat.zero_le _, rfl, ⟨[], by rw [List.drop_zero]; exact HR.out.symm, by simp, Owns.nil _ _⟩, H0.out, H1.out, HS1.out, by rw [N1.out]; omega⟩
  case round =>
    obtain ⟨k, hk, rfl, ⟨acc, hacc, hal, how⟩, h0, h1, hst, hzr⟩ := hrel
    have HT := Lib.hid hst
    have HO := Lib.hid how
    have K0 := Lib.hid h0
    have K1 := Lib.hid h1
    have HAC := Lib.hid hacc
    obtain ⟨ma, mc, rfl⟩ := how.form
    clear hst how h0 h1 hacc
    by_cases hlt : k < L.length
    · obtain ⟨⟨q, x⟩, hq⟩ : ∃ q, L[k]? = some q := ⟨_, List.getElem?_eq_getElem hlt⟩
      obtain ⟨g, o, rfl, hcl⟩ := HC.out (by omega)
      have hsl : Slc w x q.b := HV.out.slc _ (List.mem_of_getElem? hq)
      have hi64 : I64q q := HV.out.i64 _ (List.mem_of_getElem? hq)
      have hqm : q.b.length ≤ 140737488355328 := HMX.out _ (List.mem_of_getElem? hq)
      obtain ⟨xa, xc, rfl⟩ := Slc.form hsl
      have ks := Lib.hid (pt_ref.run_load (w := wr) (g := g) (o := o + k * 4) (q := ⟨q, .slice xa q.b.length xc⟩) (fun j u hu => HT.out.cell (hcl k _ hq j u hu) (fun x => x)))
      have hap := HAC.out
      rw [drop_at (map_at hq)] at hap
      unfold applyN at hap
      have HAP := Lib.hid hap
      have hs4 : Stay (fun _ => False) wr (wr.alloc (.cells (poC ⟨q, .slice xa q.b.length xc⟩).toArray 60)) := Stay.alloc _ _
      obtain ⟨w4, hw4⟩ : ∃ w4, wr.alloc (.cells #[.bool q.cp, .int .i64 q.f, .int .i64 q.n, .slice xa q.b.length xc] 60) = w4 := ⟨_, rfl⟩
      rw [show wr.alloc (.cells (poC ⟨q, .slice xa q.b.length xc⟩).toArray 60) = w4 from hw4] at hs4
      have HSL4 := Lib.hid ((hsl.stay0 HT.out).stay0 hs4)
      have K04 := Lib.hid (K0.out.stay0 hs4)
      have K14 := Lib.hid (K1.out.stay0 hs4)
      have HO4 := Lib.hid (HO.out.stay0 hs4)
      have HT4 := Lib.hid (HT.out.trans hs4)
      have hz4 := hs4.size
      have W4 := Lib.hid hw4
      obtain ⟨f1, f2, n1, n2⟩ := hi64
      clear hq hcl hsl hap hs4 hw4
      obtain ⟨cp, f, n, b⟩ := q
      dsimp only at *
      cases cp
      · have hE : partE ⟨false, f, n, b⟩ = if b = [] then 3 else 0 := by simp [partE]
        have hB : ptBytes a ⟨false, f, n, b⟩ = b := rfl
        rw [hE, hB] at HAP
        by_cases hb : b = []
        · rw [if_pos hb, if_pos (by decide)] at HAP
          have HE := Lib.hid HAP.out
          have hz : ((b.length : Int) == 0) = true := by rw [hb]; rfl
          clear hb
          go_wp2_with (first
            | (refine wpList_load_run rfl 60 (.tmp 19) rfl ⟨g, o + k * 4, none⟩ rfl _ ks.out ?_; unfold poV poC)
            | (rw [W4.out]; refine arr_64.store rfl (.tmp 4) (.tmp 58) rfl (w.heap.size + 1) rfl z64 z64 rfl len_z64 len_z64 K14.out ?_; intro w6 h6 s6; have H6 := Lib.hid h6; clear h6))
          have hld := arr_64.run_load len_z64 H6.out
          refine bodyPost_ret (v := .tuple #[arrV z64, .int .i64 3]) (by simp [results, Tryd.results10, asAddr, hld]) rfl ⟨by rw [← HE.out]; rfl, ?_⟩
          exact stay_seal (X := fun j => w.heap.size ≤ j) ((HT4.out.mono (fun _ x => x.elim)).trans (s6.mono (fun j e => by omega))) (fun j hj => hj)
        · rw [if_neg hb, if_neg (by decide)] at HAP
          have hz : ((b.length : Int) == 0) = false := beq_eq_false_iff_ne.2 (by have := List.length_pos_iff.2 hb; omega)
          by_cases hlong : 64 < acc.length + b.length
          · rw [if_pos hlong] at HAP
            have HE := Lib.hid HAP.out
            have hl : 64 < (acc.length : Int) + (b.length : Int) := by omega
            go_wp2_with (first
              | (refine wpList_load_run rfl 60 (.tmp 19) rfl ⟨g, o + k * 4, none⟩ rfl _ ks.out ?_; unfold poV poC)
              | (rw [W4.out]; refine arr_64.store rfl (.tmp 4) (.tmp 65) rfl (w.heap.size + 1) rfl z64 z64 rfl len_z64 len_z64 K14.out ?_; intro w6 h6 s6; have H6 := Lib.hid h6; clear h6))
            have hld := arr_64.run_load len_z64 H6.out
            refine bodyPost_ret (v := .tuple #[arrV z64, .int .i64 2]) (by simp [results, Tryd.results10, asAddr, hld]) rfl ⟨by rw [← HE.out]; rfl, ?_⟩
            exact stay_seal (X := fun j => w.heap.size ≤ j) ((HT4.out.mono (fun _ x => x.elim)).trans (s6.mono (fun j e => by omega))) (fun j hj => hj)
          · rw [if_neg hlong] at HAP
            have hl : ¬ (64 < (acc.length : Int) + (b.length : Int)) := by omega
            go_wp2_with (first
              | (refine wpList_load_run rfl 60 (.tmp 19) rfl ⟨g, o + k * 4, none⟩ rfl _ ks.out ?_; unfold poV poC)
              | (at_builtin; rw [W4.out]; refine wpList_append_slc rfl (.tmp 66) (.tmp 67) 25 rfl (w.heap.size + 2) i0 Tryd.underlying25 HI.out HZ0.out HZ1.out HZ2.out (.slice ma acc.length mc) _ acc b rfl rfl HO4.out HSL4.out (by omega) (by omega) ?_; intro v6 w6 hown hgr hnn; have hst6 := Stay.grown (X := fun j => w.heap.size + 2 ≤ j) hgr (fun j hj => (HO4.out.lt j hj).1); have HS6 := Lib.hid hst6; have hz6 := hst6.size; obtain ⟨a6, c6, rfl⟩ := hown.form; rw [List.length_append] at hown; have HO6 := Lib.hid hown; clear hown hgr hnn hst6))
            refine ⟨⟨k + 1, by omega, by go_num, ⟨acc ++ b, HAP.out, by rw [List.length_append]; omega, HO6.out⟩, K04.out.stay HS6.out (by omega), K14.out.stay HS6.out (by omega), stay_seal (X := fun j => w.heap.size ≤ j) ((HT4.out.mono (fun _ x => x.elim)).trans (HS6.out.mono (fun j hj => by omega))) (fun j hj => hj), by omega⟩, by simp [intOf]; omega⟩
      · have hB : ptBytes a ⟨true, f, n, b⟩ = (a.drop f.toNat).take n.toNat := rfl
        by_cases hbad : f < 0 ∨ n < 1 ∨ 64 - f < n
        · have hE : partE ⟨true, f, n, b⟩ = 4 := by simp [partE, hbad]
          rw [hE, if_pos (by decide)] at HAP
          have HE := Lib.hid HAP.out
          by_cases hf : f < 0
          · go_wp2_with (first
              | (refine wpList_load_run rfl 60 (.tmp 19) rfl ⟨g, o + k * 4, none⟩ rfl _ ks.out ?_; unfold poV poC)
              | (rw [W4.out]; refine arr_64.store rfl (.tmp 4) (.tmp 46) rfl (w.heap.size + 1) rfl z64 z64 rfl len_z64 len_z64 K14.out ?_; intro w6 h6 s6; have H6 := Lib.hid h6; clear h6))
            have hld := arr_64.run_load len_z64 H6.out
            refine bodyPost_ret (v := .tuple #[arrV z64, .int .i64 4]) (by simp [results, Tryd.results10, asAddr, hld]) rfl ⟨by rw [← HE.out]; rfl, ?_⟩
            exact stay_seal (X := fun j => w.heap.size ≤ j) ((HT4.out.mono (fun _ x => x.elim)).trans (s6.mono (fun j e => by omega))) (fun j hj => hj)
          · by_cases hf63 : 63 < f
            · go_wp2_with (first
                | (refine wpList_load_run rfl 60 (.tmp 19) rfl ⟨g, o + k * 4, none⟩ rfl _ ks.out ?_; unfold poV poC)
                | (rw [W4.out]; refine arr_64.store rfl (.tmp 4) (.tmp 46) rfl (w.heap.size + 1) rfl z64 z64 rfl len_z64 len_z64 K14.out ?_; intro w6 h6 s6; have H6 := Lib.hid h6; clear h6))
              have hld := arr_64.run_load len_z64 H6.out
              refine bodyPost_ret (v := .tuple #[arrV z64, .int .i64 4]) (by simp [results, Tryd.results10, asAddr, hld]) rfl ⟨by rw [← HE.out]; rfl, ?_⟩
              exact stay_seal (X := fun j => w.heap.size ≤ j) ((HT4.out.mono (fun _ x => x.elim)).trans (s6.mono (fun j e => by omega))) (fun j hj => hj)
            · by_cases hn : n < 1
              · go_wp2_with (first
                  | (refine wpList_load_run rfl 60 (.tmp 19) rfl ⟨g, o + k * 4, none⟩ rfl _ ks.out ?_; unfold poV poC)
                  | (rw [W4.out]; refine arr_64.store rfl (.tmp 4) (.tmp 46) rfl (w.heap.size + 1) rfl z64 z64 rfl len_z64 len_z64 K14.out ?_; intro w6 h6 s6; have H6 := Lib.hid h6; clear h6))
                have hld := arr_64.run_load len_z64 H6.out
                refine bodyPost_ret (v := .tuple #[arrV z64, .int .i64 4]) (by simp [results, Tryd.results10, asAddr, hld]) rfl ⟨by rw [← HE.out]; rfl, ?_⟩
                exact stay_seal (X := fun j => w.heap.size ≤ j) ((HT4.out.mono (fun _ x => x.elim)).trans (s6.mono (fun j e => by omega))) (fun j hj => hj)
              · have hl : 64 - f < n := by omega
                go_wp2_with (first
                  | (refine wpList_load_run rfl 60 (.tmp 19) rfl ⟨g, o + k * 4, none⟩ rfl _ ks.out ?_; unfold poV poC)
                  | (rw [W4.out]; refine arr_64.store rfl (.tmp 4) (.tmp 46) rfl (w.heap.size + 1) rfl z64 z64 rfl len_z64 len_z64 K14.out ?_; intro w6 h6 s6; have H6 := Lib.hid h6; clear h6))
                have hld := arr_64.run_load len_z64 H6.out
                refine bodyPost_ret (v := .tuple #[arrV z64, .int .i64 4]) (by simp [results, Tryd.results10, asAddr, hld]) rfl ⟨by rw [← HE.out]; rfl, ?_⟩
                exact stay_seal (X := fun j => w.heap.size ≤ j) ((HT4.out.mono (fun _ x => x.elim)).trans (s6.mono (fun j e => by omega))) (fun j hj => hj)
        · have hE : partE ⟨true, f, n, b⟩ = 0 := by simp [partE, hbad]
          obtain ⟨f', rfl⟩ : ∃ f' : Nat, f = (f' : Int) := ⟨f.toNat, by omega⟩
          obtain ⟨n', rfl⟩ : ∃ n' : Nat, n = (n' : Int) := ⟨n.toNat, by omega⟩
          have e0 : ¬ ((f' : Int) < 0) := by omega
          have e1 : ¬ (63 < (f' : Int)) := by omega
          have e2 : ¬ ((n' : Int) < 1) := by omega
          have e3 : ¬ (64 - (f' : Int) < (n' : Int)) := by omega
          rw [hE, hB, if_neg (by decide), show ((f' : Int)).toNat = f' by omega, show ((n' : Int)).toNat = n' by omega] at HAP
          have kp := fun W => run_partN W w.heap.size f' n' (by omega) (by omega)
          have hpl : ((a.drop f').take n').length = n' := by rw [List.length_take, List.length_drop, HA.out]; omega
          have HPS := Lib.hid (K04.out.part (i := f') (n := n') (c := 64 - f') (by rw [HA.out]; omega) (by omega) (by omega))
          generalize (a.drop f').take n' = pb at *
          obtain rfl := hpl
          by_cases hlong : 64 < acc.length + pb.length
          · rw [if_pos hlong] at HAP
            have HE := Lib.hid HAP.out
            have hl : 64 < (acc.length : Int) + (pb.length : Int) := by omega
            go_wp2_with (first
              | (refine wpList_load_run rfl 60 (.tmp 19) rfl ⟨g, o + k * 4, none⟩ rfl _ ks.out ?_; unfold poV poC)
              | (rw [W4.out]; refine arr_64.store rfl (.tmp 4) (.tmp 65) rfl (w.heap.size + 1) rfl z64 z64 rfl len_z64 len_z64 K14.out ?_; intro w6 h6 s6; have H6 := Lib.hid h6; clear h6))
            have hld := arr_64.run_load len_z64 H6.out
            refine bodyPost_ret (v := .tuple #[arrV z64, .int .i64 2]) (by simp [results, Tryd.results10, asAddr, hld]) rfl ⟨by rw [← HE.out]; rfl, ?_⟩
            exact stay_seal (X := fun j => w.heap.size ≤ j) ((HT4.out.mono (fun _ x => x.elim)).trans (s6.mono (fun j e => by omega))) (fun j hj => hj)
          · rw [if_neg hlong] at HAP
            have hl : ¬ (64 < (acc.length : Int) + (pb.length : Int)) := by omega
            go_wp2_with (first
              | (refine wpList_load_run rfl 60 (.tmp 19) rfl ⟨g, o + k * 4, none⟩ rfl _ ks.out ?_; unfold poV poC)
              | (at_builtin; rw [W4.out]; refine wpList_append_slc rfl (.tmp 66) (.tmp 67) 25 rfl (w.heap.size + 2) i0 Tryd.underlying25 HI.out HZ0.out HZ1.out HZ2.out (.slice ma acc.length mc) _ acc pb rfl rfl HO4.out HPS.out (by omega) (by omega) ?_; intro v6 w6 hown hgr hnn; have hst6 := Stay.grown (X := fun j => w.heap.size + 2 ≤ j) hgr (fun j hj => (HO4.out.lt j hj).1); have HS6 := Lib.hid hst6; have hz6 := hst6.size; obtain ⟨a6, c6, rfl⟩ := hown.form; rw [List.length_append] at hown; have HO6 := Lib.hid hown; clear hown hgr hnn hst6))
            refine ⟨⟨k + 1, by omega, by go_num, ⟨acc ++ pb, HAP.out, by rw [List.length_append]; omega, HO6.out⟩, K04.out.stay HS6.out (by omega), K14.out.stay HS6.out (by omega), stay_seal (X := fun j => w.heap.size ≤ j) ((HT4.out.mono (fun _ x => x.elim)).trans (HS6.out.mono (fun j hj => by omega))) (fun j hj => hj), by omega⟩, by simp [intOf]; omega⟩
    · obtain rfl : k = L.length := by omega
      have hap := HAC.out
      rw [List.drop_eq_nil_of_le (by simp)] at hap
      unfold applyN at hap
      by_cases hshort : acc.length < 64
      · rw [if_pos hshort] at hap
        have HE := Lib.hid hap
        clear hap
        go_wp2_with (refine arr_64.store rfl (.tmp 4) (.tmp 72) rfl (w.heap.size + 1) rfl z64 z64 rfl len_z64 len_z64 K1.out ?_; intro w6 h6 s6; have H6 := Lib.hid h6; clear h6)
        have hld := arr_64.run_load len_z64 H6.out
        refine bodyPost_ret (v := .tuple #[arrV z64, .int .i64 2]) (by simp [results, Tryd.results10, asAddr, hld]) rfl ⟨by rw [← HE.out]; rfl, ?_⟩
        exact stay_seal (X := fun j => w.heap.size ≤ j) ((HT.out.mono (fun _ x => x.elim)).trans (s6.mono (fun j e => by omega))) (fun j hj => hj)
      · rw [if_neg hshort] at hap
        have hacl : acc.length = 64 := by omega
        have hge : ¬ ((acc.length : Int) < 64) := by omega
        have HE := Lib.hid hap
        have hq10 := BAt.new wr 23 z64
        have hs10 : Stay (fun _ => False) wr (wr.alloc (.cells (cellsB z64).toArray 23)) := Stay.alloc _ _
        obtain ⟨w10, hw10⟩ : ∃ w10, wr.alloc (.cells (cellsB z64).toArray 23) = w10 := ⟨_, rfl⟩
        rw [hw10] at hq10 hs10
        have hz10 : wr.heap.size < w10.heap.size := by rw [← hw10]; simp
        have W10 := Lib.hid hw10
        have HQ10 := Lib.hid hq10
        have HO10 := Lib.hid (HO.out.stay0 hs10)
        have K110 := Lib.hid (K1.out.stay0 hs10)
        have HS10 := Lib.hid hs10
        have kall := fun W => run_all W wr.heap.size
        have HAL := Lib.hid hacl
        clear hap hq10 hs10 hw10
        go_wp2_with (first
          | (with_reducible refine arr_64.alloc rfl rfl ?_; rw [show List.replicate 64 0 = z64 from rfl, W10.out])
          | (refine arr_64.store rfl (.tmp 10) (.tmp 73) rfl wr.heap.size rfl z64 z64 rfl len_z64 len_z64 HQ10.out ?_
             intro w11 h11 s11
             obtain ⟨w12, hcp, h12, s12⟩ := run_copy_blk w11 wr.heap.size z64 len_z64 h11 (.slice ma acc.length mc) acc (HO10.out.slc.stay s11 (fun j hj _ e => by have e' : j = wr.heap.size := e; have := (HO.out.lt j hj).2; omega)) HAL.out 3
             rw [HAL.out] at hcp
             have K112 := Lib.hid ((K110.out.stay s11 (by omega)).stay s12 (by omega))
             have HS12 := Lib.hid ((HS10.out.mono (fun _ x => x.elim)).trans ((s11.mono (Y := fun j => w.heap.size + 1 ≤ j) (fun j e => by have e' : j = wr.heap.size := e; omega)).trans (s12.mono (fun j e => by have e' : j = wr.heap.size := e; omega))))
             have H12 := Lib.hid h12
             clear h11 s11 h12 s12)
          | (refine arr_64.load rfl (.tmp 10) rfl wr.heap.size rfl acc HAL.out H12.out ?_)
          | (refine arr_64.store rfl (.tmp 4) (.tmp 77) rfl (w.heap.size + 1) rfl z64 acc rfl len_z64 HAL.out K112.out ?_; intro w6 h6 s6; have H6 := Lib.hid h6; clear h6))
        have hld := arr_64.run_load HAL.out H6.out
        refine bodyPost_ret (v := .tuple #[arrV acc, .int .i64 0]) (by simp [results, Tryd.results10, asAddr, hld]) rfl ⟨by rw [← HE.out]; rfl, ?_⟩
        exact stay_seal (X := fun j => w.heap.size ≤ j) (((HT.out.mono (fun _ x => x.elim)).trans (HS12.out.mono (fun j hj => by omega))).trans (s6.mono (fun j e => by omega))) (fun j hj => hj)
end Go.Proofs.YtnlknnhibnfhcaaDoor.De
