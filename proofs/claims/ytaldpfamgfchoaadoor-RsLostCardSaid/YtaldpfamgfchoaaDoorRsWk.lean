/-
  RsLost, ahead of its walk: blocks of truths; texts of one's own that are set; numbers taken by a bound.
-/
import Derived.Test.YtaldpfamgfchoaaDoorRsWf
import Derived.Test.YtaldpfamgfchoaaDoorRsWg
namespace Go.Proofs.YtaldpfamgfchoaaDoor.Rs
open Go.RowKit Gf
set_option maxRecDepth 100000

/-- A block of truths. -/
def BB (w : World) (g n : Nat) (fl : Nat → Bool) : Prop := w.heap[g]? = some (.cells (cellsF n fl).toArray 4 (0, 0))
def putF (f : Nat → Bool) (k : Nat) (v : Bool) : Nat → Bool := fun i => if i = k then v else f i
section
variable {w w' : World} {g n : Nat} {f : Nat → Bool} {X : Nat → Prop}
theorem BB.lt (h : BB w g n f) : g < w.heap.size := (Array.getElem?_eq_some_iff.1 h).1
theorem BB.fr (h : BB w g n f) (i : Nat) : w.frozen? ⟨g, i, none⟩ = false := frozen_of_row w g i _ _ h
theorem BB.c (h : BB w g n f) {i : Nat} (hi : i < n) : w.cell? ⟨g, i, none⟩ = some (.bool (f i)) := by
  rw [cell_of_row w g i _ _ _ h]
  simp only [List.getElem?_toArray]
  exact cellsF_get f hi
theorem BB.stay (h : BB w g n f) (hs : Stay X w w') (hx : ¬ X g) : BB w' g n f := (hs.block g h.lt hx).trans h
theorem cellsF_put (f : Nat → Bool) {n k : Nat} (hk : k < n) (v : Bool) : (cellsF n f).set k (.bool v) = cellsF n (putF f k v) := by
  apply List.ext_getElem?
  intro j
  rw [List.getElem?_set]
  by_cases e : k = j
  · subst e
    rw [if_pos rfl, if_pos (by rw [length_cellsF]; exact hk), cellsF_get _ hk]
    simp [putF]
  · rw [if_neg e]
    by_cases hj : j < n
    · rw [cellsF_get _ hj, cellsF_get _ hj]
      unfold putF
      rw [if_neg (fun x => e x.symm)]
    · rw [List.getElem?_eq_none (by rw [length_cellsF]; omega), List.getElem?_eq_none (by rw [length_cellsF]; omega)]
theorem BB.set (h : BB w g n f) {k : Nat} (hk : k < n) (v : Bool) : BB (w.setCell ⟨g, k, none⟩ (.bool v)) g n (putF f k v) := by
  unfold BB
  rw [heap_setCell_same w g k _ _ _ h]
  congr 2
  rw [← cellsF_put f hk v]
  simp only [List.setIfInBounds_toArray]
theorem BB.congr {f' : Nat → Bool} (h : BB w g n f) (e : ∀ i, i < n → f i = f' i) : BB w g n f' := by
  unfold BB at *
  rw [h]
  congr 3
  exact List.map_congr_left (fun i hi => by rw [e i (List.mem_range.1 hi)])
theorem BB.sb (h : BB w g n f) (hn : n ≤ 9223372036854775807) (hx : ¬ X g) : SB X w (.slice (some ⟨g, 0, none⟩) n n) n f :=
  ⟨_, _, rfl, Nat.le_refl _, hn, fun _ => ⟨g, 0, rfl, fun k hk => SCell.of (by rw [Nat.zero_add]; exact h.c hk) hx⟩⟩
theorem BB.new (w : World) (n : Nat) : BB (w.alloc (.cells (cellsF n (fun _ => false)).toArray 4)) w.heap.size n (fun _ => false) := heap_alloc_new w _
end

theorem made_bools (n : Nat) : madeCells (Value.bool false).cells n = (cellsF n (fun _ => false)).toArray := by
  unfold madeCells
  apply Array.ext
  · simp [cellsF]
  · intro i h1 h2
    simp [cellsF, Value.cells, Nat.mod_one]
theorem run_make_f (w : World) (n : Nat) (hn : n ≤ 4294967296) : (Instr.makeSlice 25 (.int .i64 (n : Int)) (.int .i64 (n : Int))).run Tryd.prog w = .ok (.slice (some ⟨w.heap.size, 0, none⟩) n n) (w.alloc (.cells (cellsF n (fun _ => false)).toArray 4)) := by
  obtain ⟨i0, hi, hz0, hz1, hz2⟩ := info_parts infoB
  have hm := run_make (P := Tryd.prog) w 25 4 i0 (.bool false) Tryd.underlying25 hi hz0 .i64 .i64 n n (by omega) (Int.le_refl _) (by rw [hz2]; omega) (by omega)
  rw [hz1, Int.toNat_natCast, Nat.mul_one, made_bools] at hm
  exact hm
section
variable {ops : Array Oper} {rest : List Oper} {o : Oper} {a : Act} {w : World} {Q : Exit → Act → World → Prop}
theorem make_f (hgd : o.guard = none) (x y : Operand) (ho : o.op = .makeSlice 25 x y) (n : Nat) (hx : a.eval x = .int .i64 (n : Int)) (hy : a.eval y = .int .i64 (n : Int)) (hn : n ≤ 4294967296)
    (h : ∀ w1, BB w1 w.heap.size n (fun _ => false) → Stay (fun _ => False) w w1 → w.heap.size < w1.heap.size → wpList Tryd.prog ops Q rest (a.put o.dst (.slice (some ⟨w.heap.size, 0, none⟩) n n)) w1) : wpList Tryd.prog ops Q (o :: rest) a w :=
  wpList_plain hgd fun _ hK => by
    unfold Oper.wp execOp
    simp only [ho, hx, hy, Sem.run_bind, Sem.run_pure, run_make_f w n hn, Result.andThen_ok]
    exact hK _ _ (h _ (BB.new w n) (Stay.alloc _ _) (by simp))
theorem run_store_f {g n : Nat} {f : Nat → Bool} (h : BB w g n f) {k : Nat} (hk : k < n) (v : Bool) : ∃ w', (storeVar 4 ⟨g, k, none⟩ (.bool v)).run Tryd.prog w = .ok () w' ∧ BB w' g n (putF f k v) ∧ Stay (· = g) w w' := by
  have hlen : k < (cellsF n f).length := by rw [length_cellsF]; exact hk
  have hst := run_storeCells_at Tryd.prog g k 4 [.bool v] 0 (cellsF n f).toArray w h (by simp at hlen ⊢; omega) (fun u hu => by
    rw [List.mem_singleton.1 hu]
    rfl)
  have hs : (sizeOf 4).run Tryd.prog w = .ok 1 w := by kernel_rfl
  refine ⟨w.setRow g (splice (cellsF n f) k [.bool v]).toArray, ?_, ?_, Stay.setRow w g _ rfl⟩
  · simp [storeVar, Value.cells, Sem.run_bind, hs, hst, splice]
  · unfold BB
    rw [setRow_heap w g _ _ 4 _ h, splice_one _ _ _ hlen, ← cellsF_put f hk v]
theorem store_f (hgd : o.guard = none) (x y : Operand) (ho : o.op = .store 4 x y)
    {g n : Nat} {f : Nat → Bool} (k : Nat) (v : Bool) (hx : a.eval x = .pointer (some ⟨g, k, none⟩)) (hy : a.eval y = .bool v) (h : BB w g n f) (hk : k < n)
    (hn : ∀ w', BB w' g n (putF f k v) → Stay (· = g) w w' → wpList Tryd.prog ops Q rest (a.put o.dst undef) w') : wpList Tryd.prog ops Q (o :: rest) a w :=
  wpList_plain hgd fun _ hK => by
    obtain ⟨w', hr, h1, h2⟩ := run_store_f h hk v
    unfold Oper.wp execOp
    simp only [ho, hx, hy, Instr.storeAt, Instr.sureAddr, Sem.run_bind, Sem.run_pure, Result.andThen_ok, hr]
    exact hK _ _ (hn w' h1 h2)
end

theorem sel_len_congr {f h : Nat → Bool} : ∀ {N : Nat}, (∀ i, i < N → f i = h i) → (sel f N).length = (sel h N).length
  | 0, _ => rfl
  | N + 1, e => by
    have ih := sel_len_congr (f := f) (h := h) (N := N) (fun i hi => e i (by omega))
    rw [sel_succ, sel_succ, List.length_append, List.length_append, ih, e N (by omega)]
/-- One more lost: one fewer is there. -/
theorem sel_put {fl : Nat → Bool} {i : Nat} (h : fl i = true) : ∀ {N : Nat}, i < N → (sel (putF fl i false) N).length + 1 = (sel fl N).length
  | 0, hi => by omega
  | N + 1, hi => by
    by_cases e : i = N
    · subst e
      rw [sel_true h, sel_false (by simp [putF]), sel_len_congr (f := putF fl i false) (h := fl) (fun j hj => by unfold putF; rw [if_neg (by omega)])]
    · have ih := sel_put h (N := N) (by omega)
      rw [sel_succ, sel_succ, List.length_append, List.length_append, show putF fl i false N = fl N from by unfold putF; rw [if_neg (fun x => e x.symm)]]
      omega
theorem sel_all (N : Nat) : (sel (fun _ => true) N).length = N := by
  unfold sel
  rw [List.filter_eq_self.2 (fun _ _ => rfl), List.length_range]
theorem wrap_small (x : Int) (h0 : 0 ≤ x) (h1 : x ≤ 4611686018427387904) : IntKind.i64.wrap x = x := by
  simp [IntKind.wrap, IntKind.bits, IntKind.signed]; omega

set_option maxHeartbeats 2000000 in
theorem twins_al (w : World) (x : Value) (n : Nat) (L : Nat → Nat) (M : Nat → Nat → UInt8) (hx : SM (fun _ => False) w x n L M) (hn : n ≤ 65535) (hL : ∀ k, k < n → L k ≤ 140737488355328) :
    Calls Tryd.prog 21 #[x] w fun e w' => ∃ v, e = .returned v ∧ AL (fun i => i < w.heap.size) w.heap.size w' v n L M ∧ Stay (fun _ => False) w w' := by
  obtain ⟨a0, c, rfl, _⟩ := hx.form
  obtain ⟨i0, hi, hz0, hz1, hz2⟩ := info_parts info5
  have HI := Lib.hid hi
  have HZ0 := Lib.hid hz0
  have HZ1 := Lib.hid hz1
  have HZ2 := Lib.hid hz2
  have q0 : (n : Int) ≤ 65535 := by omega
  have HX := Lib.hid hx
  have HL := Lib.hid hL
  have HN := Lib.hid hn
  clear hx hL hn hi hz0 hz1 hz2
  go_enter Tryd.func21, Tryd.ntmps21
  go_wp2
  go_loopw [3, 4] (fun v i wr => ∃ t : Nat, t ≤ n ∧ i = .int .i64 (t : Int) ∧ AL (fun i => i < w.heap.size) w.heap.size wr v t L M ∧ Stay (fun _ => False) w wr) (fun _ i _ => n - (intOf i).toNat)
  case atStart => exact ⟨0, by omega, rfl, AL.nil _ _ _ _ _, Stay.refl _ _⟩
  case round =>
    obtain ⟨t, ht, rfl, hal, hst⟩ := hrel
    by_cases hlt : t < n
    · have q1 : (t : Int) < (n : Int) := by omega
      obtain ⟨b, o, ak, ck, rfl, cR, sR, _⟩ := HX.out.row hlt
      have k1 := (cR.stay hst).now
      have HS := Lib.hid ((sR.stay hst).now)
      have HAL := Lib.hid hal
      have HLO := Lib.hid hal.lt
      have HST := Lib.hid hst
      have HT := Lib.hid hlt
      clear hal hst hlt cR sR
      go_wp2_with (first
        | (at_builtin
           refine wpList_append_slc rfl (.tmp 13) (.tmp 17) 38 rfl wr.heap.size i0 Tryd.underlying38 HI.out HZ0.out HZ1.out HZ2.out (.slice none 0 0) (.slice ak (L t) ck) [] (lf (L t) (M t)) rfl rfl (Owns.nil _ _) HS.out (by rw [length_lf]; have := HL.out t HT.out; simp; omega) (Nat.le_refl _) ?_
           intro v2 w2 o2 g2 _
           have S2 := Lib.hid (show Stay (fun _ => False) wr w2 from Stay.grown g2 (fun k e => by cases e))
           rw [List.nil_append] at o2
           obtain ⟨a2, c2, rfl⟩ := o2.form
           rw [length_lf] at o2 ⊢
           have O2 := Lib.hid o2
           have AL2 := Lib.hid (HAL.out.stay0 S2.out)
           clear o2 g2)
        | (at_builtin
           refine append_l (w := w2) rfl (.tmp 12) (.tmp 19) rfl rfl rfl AL2.out ⟨_, _, _, rfl⟩ (Owns.ss O2.out (fun i e => by
             rcases e with e | e
             · have := HST.out.size; omega
             · exact (HLO.out i e).2)) (fun i e => by have := HST.out.size; have := S2.out.size; omega) ((HST.out.trans S2.out).size) (by have := HT.out; have := HN.out; omega) ?_
           intro v4 w4 h4 s4 o4
           have H4 := Lib.hid h4
           have S4 := Lib.hid (stay_grow (HST.out.trans S2.out) s4 (fun i e => (HLO.out i e).1))
           clear h4 s4 o4))
      have ht := HT.out
      first
        | exact ⟨⟨t + 1, by omega, by go_num, H4.out, S4.out⟩, by simp [intOf]; omega⟩
        | (go_round
           case rel => exact ⟨t + 1, by omega, by go_num, H4.out, S4.out⟩
           case measure => simp [intOf]; omega)
    · obtain rfl : t = n := by omega
      have HAL := Lib.hid hal
      have HST := Lib.hid hst
      clear hal hst
      go_wp2
      go_ret
      exact ⟨_, rfl, HAL.out, HST.out⟩


/-- A number of any size, taken by a bound. -/
theorem mod_nat (x : Int) (n : Nat) (h0 : 0 < n) : ∃ k : Nat, k < n ∧ (IntKind.u64.wrap x).tmod (n : Int) = (k : Int) := by
  have h1 : 0 ≤ IntKind.u64.wrap x := wrap_u64_nonneg x
  rw [Int.tmod_eq_emod_of_nonneg h1]
  have h2 : 0 ≤ IntKind.u64.wrap x % (n : Int) := Int.emod_nonneg _ (by omega)
  have h3 : IntKind.u64.wrap x % (n : Int) < (n : Int) := Int.emod_lt_of_pos _ (by omega)
  exact ⟨(IntKind.u64.wrap x % (n : Int)).toNat, by omega, by omega⟩
end Go.Proofs.YtaldpfamgfchoaaDoor.Rs
