/-
  delta's laws: parts given to the program.
-/
import Derived.Test.YtnlknnhibnfhcaaDoorDeO
namespace Go.Proofs.YtnlknnhibnfhcaaDoor.De
open Go.RowKit Pk
set_option maxRecDepth 100000

theorem slc_blk {w : World} {x : Value} {b : List UInt8} (h : Slc w x b) (h0 : 0 < b.length) : ∃ j, x.ownBlock = some j := by
  obtain ⟨a9, c9, e9, hr9, _⟩ := h
  obtain ⟨ad, e8, _⟩ := hr9 h0
  exact ⟨ad.block, by rw [e9, e8]; rfl⟩

set_option maxHeartbeats 4000000 in
theorem give_any (w : World) (v : Value) (L : List Po) (hv : PsAt w v L) (hn : L.length ≤ 200) (hb : ∀ q ∈ L, q.p.b.length ≤ 140737488355328) :
    Calls Tryd.prog 9 #[v] w fun e w' => (∃ v1, e = .returned v1 ∧ ∃ L1 : List Po, L1.map Po.p = L.map Po.p ∧ PsAt w' v1 L1) ∧ Stay (fun _ => False) w w' := by
  obtain ⟨i0, hi, hz0, hz1, hz2⟩ := info_parts info5
  have HI := Lib.hid hi
  have HZ0 := Lib.hid hz0
  have HZ1 := Lib.hid hz1
  have HZ2 := Lib.hid hz2
  have HV := Lib.hid hv
  have HB := Lib.hid hb
  obtain ⟨a0, c0, rfl, hc1, hc2, hcell⟩ := hv.ex
  have HC := Lib.hid hcell
  clear hi hz0 hz1 hz2 hv hb hcell
  go_enter Tryd.func9, Tryd.ntmps9
  go_wp2
  go_loopw [3, 4] (fun m i wr => ∃ k : Nat, k ≤ L.length ∧ i = .int .i64 (k : Int) ∧ (∃ L1 : List Po, L1.map Po.p = (L.map Po.p).take k ∧ L1.length = k ∧ PsOwn 49 w.heap.size wr m L1) ∧ Stay (fun _ => False) w wr) (fun _ i _ => L.length - (intOf i).toNat)
  case atStart => exact ⟨0, Nat.zero_le _, rfl, ⟨[], by simp, rfl, PsOwn.nil _ _ _⟩, Stay.refl _ _⟩
  case round =>
    obtain ⟨k, hk, rfl, ⟨L1, hL1, hLk, ho⟩, hst⟩ := hrel
    have HT := Lib.hid hst
    have HO := Lib.hid ho
    have HL1 := Lib.hid hL1
    have HLK := Lib.hid hLk
    obtain ⟨ma, mc, rfl⟩ := ho.form
    rw [hLk] at HO ⊢
    have hzr := hst.size
    clear hst ho hL1 hLk
    by_cases hlt : k < L.length
    · obtain ⟨⟨q, x⟩, hq⟩ : ∃ q, L[k]? = some q := ⟨_, List.getElem?_eq_getElem hlt⟩
      obtain ⟨g, o, rfl, hcl⟩ := HC.out (by omega)
      have hsl : Slc w x q.b := HV.out.slc _ (List.mem_of_getElem? hq)
      have hi64 : I64q q := HV.out.i64 _ (List.mem_of_getElem? hq)
      have hbm : q.b.length ≤ 140737488355328 := HB.out _ (List.mem_of_getElem? hq)
      obtain ⟨xa, xc, rfl⟩ := Slc.form hsl
      have hcl' := fun j u hu => HT.out.cell (hcl k _ hq j u hu) (fun x => x)
      have HCL := Lib.hid hcl'
      have ks := Lib.hid (pt_ref.run_load (w := wr) (g := g) (o := o + k * 4) (q := ⟨q, .slice xa q.b.length xc⟩) hcl')
      have HTK := Lib.hid (show (L.map Po.p).take (k + 1) = (L.map Po.p).take k ++ [q] by rw [List.take_add_one, map_at hq]; rfl)
      have hq4 := PoAt.new wr 49 ⟨q, .slice xa q.b.length xc⟩
      have hs4 : Stay (fun _ => False) wr (wr.alloc (.cells (poC ⟨q, .slice xa q.b.length xc⟩).toArray 49)) := Stay.alloc _ _
      obtain ⟨w4, hw4⟩ : ∃ w4, wr.alloc (.cells #[.bool q.cp, .int .i64 q.f, .int .i64 q.n, .slice xa q.b.length xc] 49) = w4 := ⟨_, rfl⟩
      rw [show wr.alloc (.cells (poC ⟨q, .slice xa q.b.length xc⟩).toArray 49) = w4 from hw4] at hs4 hq4
      have HQ4 := Lib.hid hq4
      have HS4 := Lib.hid hs4
      have HSL4 := Lib.hid ((hsl.stay0 HT.out).stay0 hs4)
      have k3 : wr.cell? ⟨g, o + k * 4 + 3, none⟩ = some (.slice xa q.b.length xc) := hcl' 3 _ rfl
      have hz4 : w4.heap.size = wr.heap.size + 1 := by rw [← hw4]; simp
      have k43 : (wr.alloc (.cells #[.bool q.cp, .int .i64 q.f, .int .i64 q.n, .slice xa q.b.length xc] 49)).cell? ⟨g, o + k * 4 + 3, none⟩ = some (.slice xa q.b.length xc) := (Stay.alloc (X := fun _ => False) wr _).cell k3 (fun x => x)
      have HNIL := Lib.hid (Owns.nil (wr.heap.size + 1) w4)
      have W4 := Lib.hid hw4
      have HI64 := Lib.hid hi64
      clear hq hcl hcl' hsl hi64 hq4 hs4 hw4
      go_wp2_with (first
        | (refine wpList_load_run rfl 60 (.tmp 15) rfl ⟨g, o + k * 4, none⟩ rfl _ ks.out ?_; unfold poV poC)
        | (rw [E6.out]; refine wpList_load_run rfl 49 (.tmp 5) rfl ⟨wr.heap.size, 0, none⟩ rfl _ HLD6.out ?_; unfold poV poC)
        | (at_builtin
           first
             | (rw [W4.out]
                refine wpList_append_slc rfl (.tmp 17) (.tmp 22) 25 rfl (wr.heap.size + 1) i0 Tryd.underlying25 HI.out HZ0.out HZ1.out HZ2.out (.slice none 0 0) (.slice xa q.b.length xc) [] q.b rfl rfl HNIL.out HSL4.out (by simp; exact hbm) (by omega) ?_
                intro v5 w5 hown hgr hnn
                have s5 : Stay (fun _ => False) w4 w5 := Stay.grown hgr (fun k hk => by cases hk)
                rw [List.nil_append] at hown
                obtain ⟨a5, c5, rfl⟩ := hown.form
                have q5 := HQ4.out.stay0 s5
                have f5 := q5.fr 3
                have c53 : w5.cell? ⟨wr.heap.size, 3, none⟩ = some (.slice xa q.b.length xc) := q5.c 3
                have q6 := q5.set3 (.slice a5 q.b.length c5) q.b
                have s6 : Stay (fun j => j = wr.heap.size) w5 (w5.setCell ⟨wr.heap.size, 3, none⟩ (.slice a5 q.b.length c5)) := Stay.setCell (X := fun j => j = wr.heap.size) _ _ _ rfl
                have o6 := hown.stay s6 (fun j hj e => by have := (hown.lt j hj).1; omega)
                obtain ⟨w6, hw6⟩ : ∃ w6, w5.setCell ⟨wr.heap.size, 3, none⟩ (.slice a5 q.b.length c5) = w6 := ⟨_, rfl⟩
                rw [hw6] at q6 s6 o6
                have HS6 := Lib.hid (stay_seal (X := fun j => wr.heap.size ≤ j) (((HS4.out.trans s5).mono (fun _ x => x.elim)).trans (s6.mono (fun j e => by omega))) (fun j hj => hj))
                have E6 := Lib.hid hw6
                have HO6 := Lib.hid o6
                have HLD6 := Lib.hid (q6.run pt_prog)
                clear hown hgr hnn s5 q5 q6 s6 o6 hw6)
             | (have hs7 : Stay (fun _ => False) w6 (w6.alloc (.cells (poC ⟨q, .slice a5 q.b.length c5⟩).toArray 49)) := Stay.alloc _ _
                have hq7 := fun j u (hu : (poC ⟨q, .slice a5 q.b.length c5⟩)[j]? = some u) => show (w6.alloc (.cells (poC ⟨q, .slice a5 q.b.length c5⟩).toArray 49)).cell? ⟨w6.heap.size, j, none⟩ = some u by
                  rw [cell_of_row _ _ j _ _ _ (heap_alloc_new _ _)]
                  simpa using hu
                obtain ⟨w7, hw7⟩ : ∃ w7, w6.alloc (.cells #[.bool q.cp, .int .i64 q.f, .int .i64 q.n, .slice a5 q.b.length c5] 49) = w7 := ⟨_, rfl⟩
                rw [show w6.alloc (.cells (poC ⟨q, .slice a5 q.b.length c5⟩).toArray 49) = w7 from hw7] at hs7 hq7
                rw [hw7]
                have hs67 := HS6.out.trans hs7
                have hz7 := hs67.size
                refine append_po pt_prog Tryd.underlying27 rfl (.tmp 25) (.tmp 27) rfl rfl w6.heap.size rfl ⟨q, .slice a5 q.b.length c5⟩ (HO.out.stay0 hs67) hq7 (HO6.out.slc.stay0 hs7) HI64.out (fun h0 e => by obtain ⟨j, hj⟩ := slc_blk HO6.out.slc h0; have h1 := (HO6.out.lt j hj).1; rw [e] at hj; have h2 := (HO.out.lt j hj).2; omega) (one_po _ _ _ _ rfl) (by rw [HLK.out]; omega) (by omega) ?_
                intro v8 w8 ho8 hs8 hn8
                obtain ⟨a8, c8, rfl⟩ := ho8.form
                rw [List.length_append, List.length_singleton] at ho8
                have HO8 := Lib.hid ho8
                have HS8 := Lib.hid (hs67.trans'' hs8)
                clear ho8 hs8 hn8 hs7 hq7 hw7 hs67)))
      refine ⟨⟨k + 1, by omega, by go_num, ⟨L1 ++ [⟨q, .slice a5 q.b.length c5⟩], by rw [List.map_append, HL1.out, HTK.out]; rfl, by rw [List.length_append, List.length_singleton, HLK.out], HO8.out⟩, stay_seal (X := fun j => w.heap.size ≤ j) ((HT.out.mono (fun _ x => x.elim)).trans (HS8.out.mono (fun j e => (HO.out.lt j e).1))) (fun j hj => hj)⟩, by simp [intOf]; omega⟩
    · obtain rfl : k = L.length := by omega
      go_wp2
      go_ret
      exact ⟨⟨_, rfl, L1, by rw [HL1.out, List.take_of_length_le (by simp)], HO.out.at⟩, HT.out⟩
end Go.Proofs.YtnlknnhibnfhcaaDoor.De
