/-
  delta: the block that parts make of a base.
-/
import Derived.Test.YtnlknnhibnfhcaaDoorDeJ
namespace Go.Proofs.YtnlknnhibnfhcaaDoor.De
open Go.RowKit Pk
set_option maxRecDepth 100000

def z64 : List UInt8 := List.replicate 64 0
theorem len_z64 : z64.length = 64 := by decide
/-- What is handed back: a block, and the error (0: none). -/
def resB : Except Nat (List UInt8) → List UInt8
  | .ok b => b
  | .error _ => z64
def resE : Except Nat (List UInt8) → Nat
  | .ok _ => 0
  | .error c => c
theorem applyN_len (base : List UInt8) : ∀ (l : List Pt) (a b : List UInt8), a.length ≤ 64 → applyN base l a = .ok b → b.length = 64
  | [], a, b, h, e => by
    unfold applyN at e
    split at e
    · cases e
    · cases e
      omega
  | q :: r, a, b, h, e => by
    unfold applyN at e
    split at e
    · cases e
    · split at e
      · cases e
      · exact applyN_len base r _ b (by rw [List.length_append]; omega) e
theorem resB_len (base : List UInt8) (l : List Pt) : (resB (applyN base l [])).length = 64 := by
  cases h : applyN base l [] with
  | ok b => exact applyN_len base l [] b (by simp) h
  | error c => exact len_z64
theorem drop_at {L : List Pt} {k : Nat} {q : Pt} (h : L[k]? = some q) : L.drop k = q :: L.drop (k + 1) := by
  obtain ⟨hk, e⟩ := List.getElem?_eq_some_iff.1 h
  rw [List.drop_eq_getElem_cons hk, e]
theorem _root_.Go.Proofs.YtnlknnhibnfhcaaDoor.Pk.Owns.at6 {base : Nat} {w : World} {v : Value} {l : List UInt8} (h : Owns base w v l) (hl : l.length = 64) : ∃ g c, v = .slice (some ⟨g, 0, none⟩) l.length c ∧ l.length ≤ c ∧ (loadVar 23 ⟨g, 0, none⟩).run Tryd.prog w = .ok (arrV l) w := by
  have hc := fun g hg => World.ownsRow.cells (g := g) h hg
  rcases h.2 with ⟨_, e⟩ | ⟨g, cap, cur, rfl, _, _, h1, _, _⟩
  · omega
  · refine ⟨g, cap, rfl, h1, ?_⟩
    obtain ⟨d, hu, hd⟩ := arr_64.under
    exact run_loadVar_at w ⟨g, 0, none⟩ 23 (cellsB l) d hu (by cases d <;> first | rfl | cases hd) (by rw [length_cellsB, hl]; exact arr_64.info) (fun j u hu => hc g rfl j u hu)
theorem array_block (w : World) (a : Option Addr) (c : Nat) : (Instr.arrayAt 23 (.slice a 64 c)).run Tryd.prog w = .ok (.pointer a) w := by
  simp [Instr.arrayAt, Sem.run_bind, run_underlying Tryd.underlying23]
theorem errV_form (c : Nat) (h : c ≠ 0) : errV c = .iface 55 (.int .i64 (c : Int)) := errV_pos h

set_option maxHeartbeats 8000000 in
theorem apply_any (w : World) (a : List UInt8) (v : Value) (L : List Po) (ha : a.length = 64) (hv : PsAt w v L) :
    Calls Tryd.prog 8 #[arrV a, v] w fun e w' => e = .returned (.tuple #[arrV (resB (applyN a (L.map Po.p) [])), errV (resE (applyN a (L.map Po.p) []))]) ∧ Stay (fun _ => False) w w' := by
  obtain ⟨i0, hi, hz0, hz1, hz2⟩ := info_parts info5
  have HI := Lib.hid hi
  have HZ0 := Lib.hid hz0
  have HZ1 := Lib.hid hz1
  have HZ2 := Lib.hid hz2
  have hx0 := BAt.new w 23 a
  generalize hw0 : w.alloc (.cells (cellsB a).toArray 23) = w0 at hx0
  have hs0 : Stay (fun _ => False) w w0 := hw0 ▸ Stay.alloc _ _
  have n0 : w0.heap.size = w.heap.size + 1 := by rw [← hw0]; simp
  have hx1 := BAt.new w0 23 z64
  generalize hw1 : w0.alloc (.cells (cellsB z64).toArray 23) = w1 at hx1
  have hs1 : Stay (fun _ => False) w0 w1 := hw1 ▸ Stay.alloc _ _
  have n1 : w1.heap.size = w.heap.size + 2 := by rw [← hw1]; simp [n0]
  rw [n0] at hx1
  have H0 := Lib.hid (hx0.stay0 hs1)
  have H1 := Lib.hid hx1
  have HS1 := Lib.hid (hs0.trans hs1)
  have W0 := Lib.hid hw0
  have W1 := Lib.hid hw1
  have N0 := Lib.hid n0
  have N1 := Lib.hid n1
  have HV := Lib.hid hv
  have HA := Lib.hid ha
  obtain ⟨R, hR⟩ : ∃ R, R = applyN a (L.map Po.p) [] := ⟨_, rfl⟩
  rw [← hR]
  have HR := Lib.hid hR
  obtain ⟨a0, c0, rfl, hc1, hc2, hcell⟩ := hv.ex
  have HC := Lib.hid hcell
  clear hi hz0 hz1 hz2 hx0 hx1 hs0 hs1 hw0 hw1 n0 n1 hv ha hR hcell
  unfold arrV
  go_enter Tryd.func8, Tryd.ntmps8
  go_wp2_with (with_reducible refine arr_64.alloc rfl rfl ?_; rw [show List.replicate 64 0 = z64 from rfl, W0.out, N0.out, W1.out])
  clear W0 W1 N0
  go_loopw [6, 13] (fun m i wr => ∃ k : Nat, k ≤ L.length ∧ i = .int .i64 (k : Int) ∧ (∃ acc, applyN a ((L.map Po.p).drop k) acc = R ∧ acc.length ≤ 64 ∧ Owns (w.heap.size + 2) wr m acc) ∧ BAt wr w.heap.size 23 a ∧ BAt wr (w.heap.size + 1) 23 z64 ∧ Stay (fun _ => False) w wr ∧ w.heap.size + 2 ≤ wr.heap.size) (fun _ i _ => L.length - (intOf i).toNat)
  case atStart => exact ⟨0, Nat.zero_le _, rfl, ⟨[], by rw [List.drop_zero]; exact HR.out.symm, by simp, Owns.nil _ _⟩, H0.out, H1.out, HS1.out, by rw [N1.out]; omega⟩
  case round =>
    obtain ⟨k, hk, rfl, ⟨acc, hacc, hal, how⟩, h0, h1, hst, hzr⟩ := hrel
    have HT := Lib.hid hst
    have HO := Lib.hid how
    have K0 := Lib.hid h0
    have K1 := Lib.hid h1
    have HAC := Lib.hid hacc
    obtain ⟨ma, mc, rfl⟩ := how.form
    clear hst how h0 h1 hacc
    by_cases hlt : k < L.length
    · obtain ⟨⟨q, x⟩, hq⟩ : ∃ q, L[k]? = some q := ⟨_, List.getElem?_eq_getElem hlt⟩
      obtain ⟨g, o, rfl, hcl⟩ := HC.out (by omega)
      have hsl : Slc w x q.b := HV.out.slc _ (List.mem_of_getElem? hq)
      have hi64 : I64q q := HV.out.i64 _ (List.mem_of_getElem? hq)
      obtain ⟨xa, xc, rfl⟩ := Slc.form hsl
      have ks := Lib.hid (pt_prog.run_load (w := wr) (g := g) (o := o + k * 4) (q := ⟨q, .slice xa q.b.length xc⟩) (fun j u hu => HT.out.cell (hcl k _ hq j u hu) (fun x => x)))
      have hap := HAC.out
      rw [drop_at (map_at hq)] at hap
      unfold applyN at hap
      have HAP := Lib.hid hap
      have hq4 := PoAt.new wr 49 ⟨q, .slice xa q.b.length xc⟩
      have hs4 : Stay (fun _ => False) wr (wr.alloc (.cells (poC ⟨q, .slice xa q.b.length xc⟩).toArray 49)) := Stay.alloc _ _
      obtain ⟨w4, hw4⟩ : ∃ w4, wr.alloc (.cells #[.bool q.cp, .int .i64 q.f, .int .i64 q.n, .slice xa q.b.length xc] 49) = w4 := ⟨_, rfl⟩
      rw [show wr.alloc (.cells (poC ⟨q, .slice xa q.b.length xc⟩).toArray 49) = w4 from hw4] at hs4 hq4
      have HSL4 := Lib.hid ((hsl.stay0 HT.out).stay0 hs4)
      have K04 := Lib.hid (K0.out.stay0 hs4)
      have K14 := Lib.hid (K1.out.stay0 hs4)
      have HO4 := Lib.hid (HO.out.stay0 hs4)
      have HT4 := Lib.hid (HT.out.trans hs4)
      have HQ4 := Lib.hid (hq4.run pt_prog)
      have hz4 := hs4.size
      have HI64 := Lib.hid hi64
      have W4 := Lib.hid hw4
      clear hq hcl hsl hi64 hap hq4 hs4 hw4
      go_wp2_with (first
        | (refine wpList_load_run rfl 49 (.tmp 15) rfl ⟨g, o + k * 4, none⟩ rfl _ ks.out ?_; unfold poV poC)
        | (rw [W4.out]; refine arr_64.load rfl (.tmp 2) rfl w.heap.size rfl a HA.out K04.out ?_)
        | (refine wpList_load_run rfl 49 (.tmp 8) rfl ⟨wr.heap.size, 0, none⟩ rfl _ HQ4.out ?_))
      refine (bytesof_any w4 a ⟨q, .slice xa q.b.length xc⟩ HA.out HSL4.out HI64.out).mono ?_
      rintro e w5 ⟨⟨v5, rfl, hv5⟩, hs5⟩
      dsimp only at hv5 ⊢
      have K15 := Lib.hid (K14.out.stay0 hs5)
      have K05 := Lib.hid (K04.out.stay0 hs5)
      have HO5 := Lib.hid (HO4.out.stay0 hs5)
      have HT5 := Lib.hid (HT4.out.trans hs5)
      have hz5 := hs5.size
      clear hs5
      by_cases hE0 : partE q = 0
      · rw [if_pos hE0] at hv5
        rw [if_neg (fun h => h hE0)] at HAP
        rw [hE0, errV_zero]
        generalize ptBytes a q = pb at *
        obtain ⟨va, vc, rfl⟩ := Slc.form hv5
        have HV5 := Lib.hid hv5
        clear hv5
        by_cases hlong : 64 < acc.length + pb.length
        · rw [if_pos hlong] at HAP
          have HE := Lib.hid HAP.out
          have hl : 64 - (acc.length : Int) < (pb.length : Int) := by omega
          go_wp2_with (refine arr_64.store rfl (.tmp 4) (.tmp 33) rfl (w.heap.size + 1) rfl z64 z64 rfl len_z64 len_z64 K15.out ?_; intro w6 h6 s6; have H6 := Lib.hid h6; clear h6)
          have hld := arr_64.run_load len_z64 H6.out
          refine bodyPost_ret (v := .tuple #[arrV z64, errI 2]) (by simp [results, Tryd.results8, asAddr, hld, errI]) rfl ⟨?_, ?_⟩
          · rw [← HE.out]
            rfl
          · exact stay_seal (X := fun j => w.heap.size ≤ j) ((HT5.out.mono (fun _ x => x.elim)).trans (s6.mono (fun j e => by omega))) (fun j hj => hj)
        · rw [if_neg hlong] at HAP
          have hl : ¬ (64 - (acc.length : Int) < (pb.length : Int)) := by omega
          go_wp2_with (at_builtin; refine wpList_append_slc rfl (.tmp 35) (.tmp 36) 25 rfl (w.heap.size + 2) i0 Tryd.underlying25 HI.out HZ0.out HZ1.out HZ2.out (.slice ma acc.length mc) (.slice va pb.length vc) acc pb rfl rfl HO5.out HV5.out (by omega) (by omega) ?_; intro v6 w6 hown hgr hnn; have hst6 := Stay.grown (X := fun j => w.heap.size + 2 ≤ j) hgr (fun j hj => (HO5.out.lt j hj).1); have HS6 := Lib.hid hst6; have hz6 := hst6.size; obtain ⟨a6, c6, rfl⟩ := hown.form; rw [List.length_append] at hown; have HO6 := Lib.hid hown; clear hown hgr hnn hst6)
          refine ⟨⟨k + 1, by omega, by go_num, ⟨acc ++ pb, HAP.out, by rw [List.length_append]; omega, HO6.out⟩, K05.out.stay HS6.out (by omega), K15.out.stay HS6.out (by omega), stay_seal (X := fun j => w.heap.size ≤ j) ((HT5.out.mono (fun _ x => x.elim)).trans (HS6.out.mono (fun j hj => by omega))) (fun j hj => hj), by omega⟩, by simp [intOf]; omega⟩
      · rw [if_neg hE0] at hv5
        rw [if_pos hE0] at HAP
        obtain ⟨va, vc, rfl⟩ := Slc.form hv5
        have HE := Lib.hid HAP.out
        have HEV := Lib.hid (errV_pos hE0)
        clear hv5
        rw [errV_pos hE0]
        unfold errI
        go_wp2_with (refine arr_64.store rfl (.tmp 4) (.tmp 25) rfl (w.heap.size + 1) rfl z64 z64 rfl len_z64 len_z64 K15.out ?_; intro w6 h6 s6; have H6 := Lib.hid h6; clear h6)
        have hld := arr_64.run_load len_z64 H6.out
        refine bodyPost_ret (v := .tuple #[arrV z64, errI (partE q)]) (by simp [results, Tryd.results8, asAddr, hld, errI]) rfl ⟨?_, ?_⟩
        · rw [← HE.out, show resE (.error (partE q)) = partE q from rfl, errV_pos hE0]
          rfl
        · exact stay_seal (X := fun j => w.heap.size ≤ j) ((HT5.out.mono (fun _ x => x.elim)).trans (s6.mono (fun j e => by omega))) (fun j hj => hj)
    · obtain rfl : k = L.length := by omega
      have hap := HAC.out
      rw [List.drop_eq_nil_of_le (by simp)] at hap
      unfold applyN at hap
      by_cases hshort : acc.length < 64
      · rw [if_pos hshort] at hap
        have HE := Lib.hid hap
        clear hap
        go_wp2_with (refine arr_64.store rfl (.tmp 4) (.tmp 42) rfl (w.heap.size + 1) rfl z64 z64 rfl len_z64 len_z64 K1.out ?_; intro w6 h6 s6; have H6 := Lib.hid h6; clear h6)
        have hld := arr_64.run_load len_z64 H6.out
        refine bodyPost_ret (v := .tuple #[arrV z64, errI 2]) (by simp [results, Tryd.results8, asAddr, hld, errI]) rfl ⟨?_, ?_⟩
        · rw [← HE.out]
          rfl
        · exact stay_seal (X := fun j => w.heap.size ≤ j) ((HT.out.mono (fun _ x => x.elim)).trans (s6.mono (fun j e => by omega))) (fun j hj => hj)
      · rw [if_neg hshort] at hap
        have hacl : acc.length = 64 := by omega
        obtain ⟨g6, c6, e6, hc6, hc7⟩ := HO.out.at6 hacl
        have HE := Lib.hid hap
        clear hap
        obtain ⟨rfl, _, rfl⟩ := Value.slice.inj e6
        have HAL := Lib.hid hacl
        have HCL := Lib.hid hc7
        have hge : ¬ ((acc.length : Int) < 64) := by omega
        clear e6 hc7
        have karr := array_block wr (some ⟨g6, 0, none⟩) mc
        go_wp2_with (first
          | (refine wpList_load_run rfl 23 (.tmp 45) rfl ⟨g6, 0, none⟩ rfl _ HCL.out ?_)
          | (refine arr_64.store rfl (.tmp 4) (.tmp 46) rfl (w.heap.size + 1) rfl z64 acc rfl len_z64 HAL.out K1.out ?_; intro w6 h6 s6; have H6 := Lib.hid h6; clear h6))
        have hld := arr_64.run_load HAL.out H6.out
        refine bodyPost_ret (v := .tuple #[arrV acc, .nilIface]) (by simp [results, Tryd.results8, asAddr, hld]) rfl ⟨?_, ?_⟩
        · rw [← HE.out]
          rfl
        · exact stay_seal (X := fun j => w.heap.size ≤ j) ((HT.out.mono (fun _ x => x.elim)).trans (s6.mono (fun j e => by omega))) (fun j hj => hj)
end Go.Proofs.YtnlknnhibnfhcaaDoor.De
