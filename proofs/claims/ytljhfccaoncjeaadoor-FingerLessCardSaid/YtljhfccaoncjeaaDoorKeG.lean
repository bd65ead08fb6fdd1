/-
  keccak: bend.
-/
import Derived.Test.YtljhfccaoncjeaaDoorKeF
namespace Go.Proofs.YtljhfccaoncjeaaDoor.Ke
open Go.RowKit
set_option maxRecDepth 100000

/-- The first k rows, and of the next one the first j lanes, are done. -/
def chP (f : St) (m : Nat) : St := fun i => if i < m then chiAt f i else f i
theorem chP_put (f : St) (m : Nat) : ∀ i, put (chP f m) m (chiAt f m) i = chP f (m + 1) i := by
  intro i
  unfold put chP
  by_cases h : i = m
  · subst h
    rw [if_pos rfl, if_pos (by omega)]
  · rw [if_neg h]
    by_cases h1 : i < m
    · rw [if_pos h1, if_pos (by omega)]
    · rw [if_neg h1, if_neg (by omega)]
theorem chP_at (f : St) (m : Nat) : chP f m m = f m := if_neg (by omega)

theorem run_tail (w : World) (g i : Nat) (hi : i < 25) : (Instr.sliceAt 73 (.pointer (some ⟨g, 0, none⟩)) (some (.int .i64 (i : Int))) none none).run Tryd.prog w = .ok (.slice (some ⟨g, i, none⟩) (25 - i) (25 - i)) w := by
  have hn : Tryd.prog.arrayLen 73 = 25 := by kernel_rfl
  have he : Tryd.prog.elem 73 = 67 := by kernel_rfl
  have hs : (sizeOf 67).run Tryd.prog w = .ok 1 w := by kernel_rfl
  rw [run_sliceAt_array_l w _ _ (by rw [hn, he]; exact Tryd.underlying73) _ _ (by omega) (by rw [hn]; omega), he, hs, hn]
  simp only [Result.andThen, slicedAt, Int.toNat_natCast]
  rw [if_neg (by omega), add_at, Nat.mul_one, Nat.zero_add]
theorem run_five (w : World) (g i : Nat) (hi : i + 5 ≤ 25) : (Instr.arrayAt 68 (.slice (some ⟨g, i, none⟩) (25 - i) (25 - i))).run Tryd.prog w = .ok (.pointer (some ⟨g, i, none⟩)) w := by
  simp [Instr.arrayAt, Sem.run_bind, run_underlying Tryd.underlying68]
  omega
/-- Five lanes out of a state. -/
theorem run_row {w : World} {g : Nat} {f : St} {t : Nat} (h : StAt w g f t) {i : Nat} (hi : i + 5 ≤ 25) : (loadVar 68 ⟨g, i, none⟩).run Tryd.prog w = .ok (.agg (cellsU (fun j => f (i + j)) 5).toArray) w :=
  run_load_cells (P := Tryd.prog) w ⟨g, i, none⟩ 68 (cellsU (fun j => f (i + j)) 5) _ Tryd.underlying68 rfl (by rw [length_cellsU]; kernel_rfl) (fun j v hv => by
    have hj : j < 5 := by
      have := (List.getElem?_eq_some_iff.1 hv).1
      rwa [length_cellsU] at this
    rw [cellsU_get _ hj] at hv
    rw [add_at, h.c (i := i + j) (by omega), ← hv]
    rfl)

theorem splice_one (S : List Value) (i : Nat) (v : Value) (h : i < S.length) : splice S i [v] = S.set i v := by
  unfold splice
  rw [List.set_eq_take_append_cons_drop, if_pos h]
  simp
theorem run_store_lane {w : World} {g : Nat} {ty : TypeId} {n : Nat} {f : St} {l : List Value} (h : UAt w g ty n f l) {i : Nat} (hi : i < n) (v : U) :
    ∃ w', (storeVar 67 ⟨g, i, none⟩ (.int .u64 (nv v : Int))).run Tryd.prog w = .ok () w' ∧ UAt w' g ty n (put f i v) l ∧ Stay (· = g) w w' := by
  have hlen : i < (cellsU f n ++ l).length := by rw [List.length_append, length_cellsU]; omega
  have hst := run_storeCells_at Tryd.prog g i ty [.int .u64 (nv v : Int)] 0 (cellsU f n ++ l).toArray w h (by simp at hlen ⊢; omega) (fun u hu => by
    rw [List.mem_singleton.1 hu]
    rfl)
  have hs : (sizeOf 67).run Tryd.prog w = .ok 1 w := by kernel_rfl
  refine ⟨w.setRow g (splice (cellsU f n ++ l) i [.int .u64 (nv v : Int)]).toArray, ?_, ?_, Stay.setRow w g _ rfl⟩
  · simp [storeVar, Value.cells, Sem.run_bind, hs, hst, splice]
  · unfold UAt
    rw [setRow_heap w g _ _ ty _ h, splice_one _ _ _ hlen, ← cellsU_put f hi v, List.set_append, if_pos (by rw [length_cellsU]; exact hi)]
    rfl
theorem store_lane {ops : Array Oper} {rest : List Oper} {o : Oper} {a : Act} {w : World} {Q : Exit → Act → World → Prop} (hgd : o.guard = none) (x y : Operand) (ho : o.op = .store 67 x y)
    {g : Nat} {ty : TypeId} {n : Nat} {f : St} {l : List Value} (i : Nat) (v : U) (hx : a.eval x = .pointer (some ⟨g, i, none⟩)) (hy : a.eval y = .int .u64 (nv v : Int)) (h : UAt w g ty n f l) (hi : i < n)
    (hn : ∀ w', UAt w' g ty n (put f i v) l → Stay (· = g) w w' → wpList Tryd.prog ops Q rest (a.put o.dst undef) w') : wpList Tryd.prog ops Q (o :: rest) a w :=
  wpList_plain hgd fun _ hK => by
    obtain ⟨w', hr, h1, h2⟩ := run_store_lane h hi v
    unfold Oper.wp execOp
    simp only [ho, hx, hy, Instr.storeAt, Instr.sureAddr, Sem.run_bind, Sem.run_pure, Result.andThen_ok, hr]
    exact hK _ _ (hn w' h1 h2)

set_option maxHeartbeats 2000000 in
theorem bend_any (w : World) (g : Nat) (f : St) (t : Nat) (h : StAt w g f t) :
    Calls Tryd.prog 46 #[.pointer (some ⟨g, 0, none⟩)] w fun e w' => e = .returned (.tuple #[]) ∧ StAt w' g (chi f) t ∧ Stay (· = g) w w' := by
  have H := Lib.hid h
  have HL := Lib.hid h.lt
  clear h
  go_enter Tryd.func46, Tryd.ntmps46
  go_wp2
  go_loopw [2] (fun i wr => ∃ k : Nat, k ≤ 5 ∧ i = .int .i64 ((5 * k : Nat) : Int) ∧ StAt wr g (chP f (5 * k)) t ∧ Stay (fun k => k = g) w wr) (fun i _ => 25 - (intOf i).toNat)
  case atStart => exact ⟨0, by omega, rfl, H.out, Stay.refl _ _⟩
  case round =>
    obtain ⟨k, hk, rfl, hs, hst⟩ := hrel
    obtain ⟨i, hi⟩ : ∃ i, i = 5 * k := ⟨_, rfl⟩
    rw [← hi] at hs
    rw [← hi]
    by_cases hlt : k < 5
    · have q0 : (i : Int) < 25 := by omega
      have hsl : ∀ W, _ := fun W => run_tail W g i (by omega)
      have har : ∀ W, _ := fun W => run_five W g i (by omega)
      have hld := run_row hs (i := i) (by omega)
      rw [show (fun j => chP f i (i + j)) = fun j => f (i + j) by funext j; exact if_neg (by omega)] at hld
      have HLD := Lib.hid hld
      clear hld
      have HS := Lib.hid hs
      have HI := Lib.hid hi
      have HST := Lib.hid hst
      have HK := Lib.hid hlt
      clear hs hi hst hlt
      go_wp2_with (first
        | (refine load_cells rfl 68 (.tmp 12) rfl ⟨g, i, none⟩ rfl _ HLD.out ?_)
        | (refine wpList_store_mid rfl 68 (.tmp 3) (.tmp 13) rfl wr.heap.size 0 rfl 68 (cellsU zeroSt 5) (cellsU (fun j => f (i + j)) 5) rfl (heap_alloc_new wr _) (by rw [length_cellsU]; kernel_rfl) (by rw [length_cellsU, length_cellsU]; decide) (oneCell_cellsU _ _) ?_
           intro w2 hg2 hs2))
      have hR : UAt w2 wr.heap.size 68 5 (fun j => f (i + j)) [] := by
        unfold UAt
        rw [hg2, List.append_nil]
        rfl
      have hsm := hs2.mono (Y := fun k => k = g ∨ w.heap.size ≤ k) (fun k e => .inr (by have := HST.out.size; omega))
      have ST0 := Lib.hid (((HST.out.mono (fun k e => .inl e)).trans (Stay.alloc wr _)).trans hsm)
      have HS0 := Lib.hid (show StAt w2 g (chP f (i + 0)) t from (HS.out.stay (Stay.alloc (X := fun k => k = wr.heap.size) _ _) (fun (e : g = wr.heap.size) => by have := HL.out; have := HST.out.size; omega)).stay hs2 (fun (e : g = wr.heap.size) => by have := HL.out; have := HST.out.size; omega))
      have HR0 := Lib.hid hR
      clear hR hsm hg2 hs2
      obtain ⟨y1, hy1⟩ : ∃ y, y = i + 1 := ⟨_, rfl⟩
      have e1 : IntKind.i64.wrap ((i : Int) + 1) = (y1 : Int) := by rw [i64_small (by omega) (by omega)]; omega
      have q1 : (y1 : Int) < 25 := by have := HI.out; have := HK.out; omega
      have Y1 := Lib.hid hy1
      clear hy1
      obtain ⟨y2, hy2⟩ : ∃ y, y = i + 2 := ⟨_, rfl⟩
      have e2 : IntKind.i64.wrap ((i : Int) + 2) = (y2 : Int) := by rw [i64_small (by omega) (by omega)]; omega
      have q2 : (y2 : Int) < 25 := by have := HI.out; have := HK.out; omega
      have Y2 := Lib.hid hy2
      clear hy2
      obtain ⟨y3, hy3⟩ : ∃ y, y = i + 3 := ⟨_, rfl⟩
      have e3 : IntKind.i64.wrap ((i : Int) + 3) = (y3 : Int) := by rw [i64_small (by omega) (by omega)]; omega
      have q3 : (y3 : Int) < 25 := by have := HI.out; have := HK.out; omega
      have Y3 := Lib.hid hy3
      clear hy3
      obtain ⟨y4, hy4⟩ : ∃ y, y = i + 4 := ⟨_, rfl⟩
      have e4 : IntKind.i64.wrap ((i : Int) + 4) = (y4 : Int) := by rw [i64_small (by omega) (by omega)]; omega
      have q4 : (y4 : Int) < 25 := by have := HI.out; have := HK.out; omega
      have Y4 := Lib.hid hy4
      clear hy4
      have s0 := HS0.out.c (i := i) (by have := HI.out; have := HK.out; omega)
      have ra0 := HR0.out.c (i := 2) (by omega)
      have rb0 := HR0.out.c (i := 1) (by omega)
      rw [show chP f (i + 0) i = f i by rw [Nat.add_zero, chP_at]] at s0
      refine wp_region_still_tail 13 (by kernel_rfl) (by kernel_rfl) ?_
      simp only [List.take_succ_cons, List.take_zero, List.drop_succ_cons, List.drop_zero]
      repeat still_step
      rw [andNot_nv, xor_nv]
      refine wpStill_nil ?_
      clear s0 ra0 rb0
      refine store_lane (w := w2.drew) rfl (.tmp 26) (.tmp 24) rfl i (f i ^^^ (f (i + 2) &&& ~~~ f (i + 1))) rfl rfl HS0.out (by have := HI.out; have := HK.out; omega) ?_
      intro w3 hs1 st1
      have HS1 := Lib.hid (hs1.congr (f' := chP f (i + 1)) (fun m _ => by
        have e : f i ^^^ (f (i + 2) &&& ~~~ f (i + 1)) = chiAt f (i + 0) := by
          have h1 := HI.out
          unfold chiAt
          rw [show (i + 0) / 5 * 5 + ((i + 0) % 5 + 2) % 5 = i + 2 by omega, show (i + 0) / 5 * 5 + ((i + 0) % 5 + 1) % 5 = i + 1 by omega]
          rfl
        
        rw [e, show i = i + 0 from rfl, chP_put]))
      have HR1 := Lib.hid (HR0.out.stay (X := fun k => k = g) (w' := w3) ((Stay.drew).trans st1) (fun (e : wr.heap.size = g) => by have := HL.out; have := HST.out.size; omega))
      have ST1 := Lib.hid (ST0.out.trans ((Stay.drew (w := w2)).trans (st1.mono (fun k e => .inl e))))
      clear hs1 st1
      go_frame
      go_wp2
      have s1 := HS1.out.c (i := y1) (by have := HI.out; have := HK.out; omega)
      have ra1 := HR1.out.c (i := 3) (by omega)
      have rb1 := HR1.out.c (i := 2) (by omega)
      rw [show chP f (i + 1) y1 = f y1 by rw [← Y1.out, chP_at]] at s1
      refine wp_region_still_tail 14 (by kernel_rfl) (by kernel_rfl) ?_
      simp only [List.take_succ_cons, List.take_zero, List.drop_succ_cons, List.drop_zero]
      repeat still_step
      rw [andNot_nv, xor_nv]
      refine wpStill_nil ?_
      clear s1 ra1 rb1
      refine store_lane (w := w3.drew) rfl (.tmp 40) (.tmp 38) rfl y1 (f y1 ^^^ (f (i + 3) &&& ~~~ f (i + 2))) rfl rfl HS1.out (by have := HI.out; have := HK.out; omega) ?_
      intro w4 hs2 st2
      have HS2 := Lib.hid (hs2.congr (f' := chP f (i + 2)) (fun m _ => by
        have e : f y1 ^^^ (f (i + 3) &&& ~~~ f (i + 2)) = chiAt f (i + 1) := by
          have h1 := HI.out
          unfold chiAt
          rw [show (i + 1) / 5 * 5 + ((i + 1) % 5 + 2) % 5 = i + 3 by omega, show (i + 1) / 5 * 5 + ((i + 1) % 5 + 1) % 5 = i + 2 by omega, ← Y1.out]
        have hy : y1 = i + 1 := Y1.out
        rw [e, hy, chP_put]))
      have HR2 := Lib.hid (HR1.out.stay (X := fun k => k = g) (w' := w4) ((Stay.drew).trans st2) (fun (e : wr.heap.size = g) => by have := HL.out; have := HST.out.size; omega))
      have ST2 := Lib.hid (ST1.out.trans ((Stay.drew (w := w3)).trans (st2.mono (fun k e => .inl e))))
      clear hs2 st2
      go_frame
      go_wp2
      have s2 := HS2.out.c (i := y2) (by have := HI.out; have := HK.out; omega)
      have ra2 := HR2.out.c (i := 4) (by omega)
      have rb2 := HR2.out.c (i := 3) (by omega)
      rw [show chP f (i + 2) y2 = f y2 by rw [← Y2.out, chP_at]] at s2
      refine wp_region_still_tail 14 (by kernel_rfl) (by kernel_rfl) ?_
      simp only [List.take_succ_cons, List.take_zero, List.drop_succ_cons, List.drop_zero]
      repeat still_step
      rw [andNot_nv, xor_nv]
      refine wpStill_nil ?_
      clear s2 ra2 rb2
      refine store_lane (w := w4.drew) rfl (.tmp 54) (.tmp 52) rfl y2 (f y2 ^^^ (f (i + 4) &&& ~~~ f (i + 3))) rfl rfl HS2.out (by have := HI.out; have := HK.out; omega) ?_
      intro w5 hs3 st3
      have HS3 := Lib.hid (hs3.congr (f' := chP f (i + 3)) (fun m _ => by
        have e : f y2 ^^^ (f (i + 4) &&& ~~~ f (i + 3)) = chiAt f (i + 2) := by
          have h1 := HI.out
          unfold chiAt
          rw [show (i + 2) / 5 * 5 + ((i + 2) % 5 + 2) % 5 = i + 4 by omega, show (i + 2) / 5 * 5 + ((i + 2) % 5 + 1) % 5 = i + 3 by omega, ← Y2.out]
        have hy : y2 = i + 2 := Y2.out
        rw [e, hy, chP_put]))
      have HR3 := Lib.hid (HR2.out.stay (X := fun k => k = g) (w' := w5) ((Stay.drew).trans st3) (fun (e : wr.heap.size = g) => by have := HL.out; have := HST.out.size; omega))
      have ST3 := Lib.hid (ST2.out.trans ((Stay.drew (w := w4)).trans (st3.mono (fun k e => .inl e))))
      clear hs3 st3
      go_frame
      go_wp2
      have s3 := HS3.out.c (i := y3) (by have := HI.out; have := HK.out; omega)
      have ra3 := HR3.out.c (i := 0) (by omega)
      have rb3 := HR3.out.c (i := 4) (by omega)
      rw [show chP f (i + 3) y3 = f y3 by rw [← Y3.out, chP_at]] at s3
      refine wp_region_still_tail 14 (by kernel_rfl) (by kernel_rfl) ?_
      simp only [List.take_succ_cons, List.take_zero, List.drop_succ_cons, List.drop_zero]
      repeat still_step
      rw [andNot_nv, xor_nv]
      refine wpStill_nil ?_
      clear s3 ra3 rb3
      refine store_lane (w := w5.drew) rfl (.tmp 68) (.tmp 66) rfl y3 (f y3 ^^^ (f (i + 0) &&& ~~~ f (i + 4))) rfl rfl HS3.out (by have := HI.out; have := HK.out; omega) ?_
      intro w6 hs4 st4
      have HS4 := Lib.hid (hs4.congr (f' := chP f (i + 4)) (fun m _ => by
        have e : f y3 ^^^ (f (i + 0) &&& ~~~ f (i + 4)) = chiAt f (i + 3) := by
          have h1 := HI.out
          unfold chiAt
          rw [show (i + 3) / 5 * 5 + ((i + 3) % 5 + 2) % 5 = i + 0 by omega, show (i + 3) / 5 * 5 + ((i + 3) % 5 + 1) % 5 = i + 4 by omega, ← Y3.out]
        have hy : y3 = i + 3 := Y3.out
        rw [e, hy, chP_put]))
      have HR4 := Lib.hid (HR3.out.stay (X := fun k => k = g) (w' := w6) ((Stay.drew).trans st4) (fun (e : wr.heap.size = g) => by have := HL.out; have := HST.out.size; omega))
      have ST4 := Lib.hid (ST3.out.trans ((Stay.drew (w := w5)).trans (st4.mono (fun k e => .inl e))))
      clear hs4 st4
      go_frame
      go_wp2
      have s4 := HS4.out.c (i := y4) (by have := HI.out; have := HK.out; omega)
      have ra4 := HR4.out.c (i := 1) (by omega)
      have rb4 := HR4.out.c (i := 0) (by omega)
      rw [show chP f (i + 4) y4 = f y4 by rw [← Y4.out, chP_at]] at s4
      refine wp_region_still_tail 14 (by kernel_rfl) (by kernel_rfl) ?_
      simp only [List.take_succ_cons, List.take_zero, List.drop_succ_cons, List.drop_zero]
      repeat still_step
      rw [andNot_nv, xor_nv]
      refine wpStill_nil ?_
      clear s4 ra4 rb4
      refine store_lane (w := w6.drew) rfl (.tmp 82) (.tmp 80) rfl y4 (f y4 ^^^ (f (i + 1) &&& ~~~ f (i + 0))) rfl rfl HS4.out (by have := HI.out; have := HK.out; omega) ?_
      intro w7 hs5 st5
      have HS5 := Lib.hid (hs5.congr (f' := chP f (i + 5)) (fun m _ => by
        have e : f y4 ^^^ (f (i + 1) &&& ~~~ f (i + 0)) = chiAt f (i + 4) := by
          have h1 := HI.out
          unfold chiAt
          rw [show (i + 4) / 5 * 5 + ((i + 4) % 5 + 2) % 5 = i + 1 by omega, show (i + 4) / 5 * 5 + ((i + 4) % 5 + 1) % 5 = i + 0 by omega, ← Y4.out]
        have hy : y4 = i + 4 := Y4.out
        rw [e, hy, chP_put]))
      have HR5 := Lib.hid (HR4.out.stay (X := fun k => k = g) (w' := w7) ((Stay.drew).trans st5) (fun (e : wr.heap.size = g) => by have := HL.out; have := HST.out.size; omega))
      have ST5 := Lib.hid (ST4.out.trans ((Stay.drew (w := w6)).trans (st5.mono (fun k e => .inl e))))
      clear hs5 st5
      go_frame
      go_wp2
      have hi := HI.out
      have hk' := HK.out
      refine ⟨⟨k + 1, by omega, (by rw [hi]; go_num), ?_, ?_⟩, by simp [intOf]; omega⟩
      · rw [show 5 * (k + 1) = i + 5 by omega]
        exact HS5.out
      · exact Stay.andThen (X := fun k => k = g) (Stay.refl _ _) ST5.out (fun m hm e => by omega)
    · obtain rfl : k = 5 := by omega
      have q0 : ¬ (i : Int) < 25 := by omega
      have HS := Lib.hid (hs.congr (f' := chi f) (fun m hm => if_pos (by omega)))
      have HST := Lib.hid hst
      clear hs hst hi
      go_wp2
      exact bodyPost_end (results_none rfl _ _ _) rfl ⟨rfl, HS.out, HST.out⟩
end Go.Proofs.YtljhfccaoncjeaaDoor.Ke
