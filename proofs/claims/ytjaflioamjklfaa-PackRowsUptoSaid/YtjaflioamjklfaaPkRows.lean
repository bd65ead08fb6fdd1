/-
  PackRows, walked.
-/
import Derived.Test.YtjaflioamjklfaaPkLaid
import Derived.Test.YtjaflioamjklfaaPkY
import Derived.Test.YtjaflioamjklfaaClass
namespace Go.Proofs.Ytjaflioamjklfaa.Pk
open Go.RowKit
set_option maxRecDepth 100000

section
variable {P : Program}
theorem step_load_at {ops : Array Oper} {o : Oper} {a : Act} {w : World} {K : Act → World → Prop} {Q : Exit → Act → World → Prop} {E : Prop} (hgd : o.guard = none) (ty : TypeId) (x : Operand) (ho : o.op = .load ty x)
    (ad : Addr) (hx : a.eval x = .pointer (some ad)) (cs : List Value) (d : TypeDesc)
    (hu : P.underlying ty = some d) (hd : (match d with | .struct _ | .array _ _ => true | _ => false) = true) (hi : (P.info? ty).map (·.size) = some cs.length)
    (hcs : ∀ j v, cs[j]? = some v → w.cell? (ad.add j) = some v)
    (h : K (a.put o.dst (.agg cs.toArray)) w) : if Region.wanted o (yielded ops a.tmps) = true then Oper.wp P o a w K Q else E := by
  have hw : Region.wanted o (yielded ops a.tmps) = true := by simp [Region.wanted, hgd]
  rw [if_pos hw]
  unfold Oper.wp execOp
  simp only [ho, hx, Instr.loadAt, Instr.sureAddr, Sem.run_bind, Sem.run_pure, Result.andThen_ok, run_loadVar_at w ad ty cs d hu hd hi hcs]
  exact h
theorem ready_load_at {md : Region.Mode} {ops : Array Oper} {Q : Exit → Act → World → Prop} {fuel : Nat} {listed : Array Bool} {a : Act} {w : World} {i : Nat} {o : Oper} {rs : List Nat} (ho : ops[i]? = some o) (hgd : o.guard = none) (ty : TypeId) (x : Operand) (hop : o.op = .load ty x)
    (ad : Addr) (hx : a.eval x = .pointer (some ad)) (cs : List Value) (d : TypeDesc)
    (hu : P.underlying ty = some d) (hd : (match d with | .struct _ | .array _ _ => true | _ => false) = true) (hi : (P.info? ty).map (·.size) = some cs.length)
    (hcs : ∀ j v, cs[j]? = some v → w.cell? (ad.add j) = some v)
    (h : wpAny P md ops Q fuel (listed.setIfInBounds i true) (a.put o.dst (.agg cs.toArray)) w) (hs : AllReady P md ops Q fuel listed a w rs) : AllReady P md ops Q fuel listed a w (i :: rs) :=
  AllReady.cons ho (fun _ hK => step_load_at hgd ty x hop ad hx cs d hu hd hi hcs (hK _ _ h)) hs
theorem ready_op {md : Region.Mode} {ops : Array Oper} {Q : Exit → Act → World → Prop} {fuel : Nat} {listed : Array Bool} {a : Act} {w : World} {i : Nat} {o : Oper} {rs : List Nat} (ho : ops[i]? = some o) (hgd : o.guard = none)
    (h : Oper.wp P o a w (wpAny P md ops Q fuel (listed.setIfInBounds i true)) Q) (hs : AllReady P md ops Q fuel listed a w rs) : AllReady P md ops Q fuel listed a w (i :: rs) :=
  AllReady.cons ho (fun _ hK => by
    have hw : Region.wanted o (yielded ops a.tmps) = true := by simp [Region.wanted, hgd]
    rw [if_pos hw]
    exact Oper.wp_mono hK h) hs
end

theorem Th.Ok.stay0 {w w' : World} {t : Th} (h : t.Ok w) (hs : Stay (fun _ => False) w w') : t.Ok w' := ⟨h.n1, h.n2, h.slc.stay0 hs, h.pr⟩
theorem Th.Ok.stay2 {Y : Nat → Prop} {w w' : World} {t : Th} (h : t.Ok w) (hs : Stay Y w w') (hY : 0 < t.b.length → ∀ k, t.x.ownBlock = some k → ¬ Y k) : t.Ok w' := ⟨h.n1, h.n2, h.slc.stay' hs hY, h.pr⟩

theorem lay_th (Y : Nat → Prop) (w : World) (p : Nat) (l : List UInt8) (t : Th) (h : WrAt Y w p l) (hY : Cl Y w) (ht : t.Ok w) (hxb : 0 < t.b.length → ∀ k, t.x.ownBlock = some k → ¬ Y k) (hlen : l.length + t.b.length + 41 ≤ 140737488355328) :
    Calls Try.prog 7 #[.pointer (some ⟨p, 0, none⟩), .agg t.cells.toArray] w fun e w' => e = .returned (.pointer (some ⟨p, 0, none⟩)) ∧ WrAt Y w' p (l ++ t.laid) ∧ Stay Y w w' :=
  lay_thingY Y w p l t.k t.n t.x t.b t.pr h hY ht.slc hxb ht.pr ht.n1 ht.n2 hlen
theorem laid_th (w : World) (y : Value) (l : List UInt8) (t : Th) (hy : Slc w y l) (ht : t.Ok w) (hlen : l.length + t.b.length + 41 ≤ 140737488355328) :
    Calls Try.prog 8 #[y, .agg t.cells.toArray] w fun e w' => ∃ v, e = .returned v ∧ Owns w.heap.size w' v (l ++ t.laid) ∧ Stay (fun _ => False) w w' :=
  laid_thing w y l t.k t.n t.x t.b t.pr hy ht.slc ht.pr ht.n1 ht.n2 hlen

/-- The writer and the document's bytes, apart. -/
def RowsInv (w wr : World) (bv : Value) (l : List UInt8) : Prop := ∃ X : Nat → Prop, WrAt X wr w.heap.size l ∧ (∀ k, X k → w.heap.size ≤ k) ∧ Slc wr bv l ∧ ∀ k, bv.ownBlock = some k → ¬ X k ∧ k < wr.heap.size
theorem rows_stay {Y : Nat → Prop} {w wr w2 w9 : World} (h1 : Stay (fun k => w.heap.size ≤ k) w wr) (h2 : Stay Y wr w2) (hY : ∀ k, Y k → w.heap.size ≤ k) (h3 : Stay (fun _ => False) w2 w9) : Stay (fun k => w.heap.size ≤ k) w w9 :=
  (h1.trans (h2.mono hY)).trans (h3.mono (fun _ x => x.elim))
theorem rows_next {Y : Nat → Prop} {w w2 w3 w9 : World} {L : List Th} {i : Nat} {t : Th} {v : Value} {l : List UInt8} (hl : laidB (L.take (i + 1)) = l ++ t.laid) (hw : WrAt Y w2 w.heap.size (l ++ t.laid)) (ho : Owns w2.heap.size w3 v (l ++ t.laid)) (hY : ∀ k, Y k → w.heap.size ≤ k) (hs : Stay (fun _ => False) w2 w9) (hs3 : Stay (fun _ => False) w3 w9) :
    RowsInv w w9 v (laidB (L.take (i + 1))) := by
  rw [hl]
  refine ⟨fun k => Y k ∧ k < w2.heap.size, hw.tight.stay0 hs, fun k hk => hY k hk.1, ho.slc.stay0 hs3, fun k hk => ?_⟩
  have h1 := ho.lt k hk
  exact ⟨fun h => by omega, Nat.lt_of_lt_of_le h1.2 hs3.size⟩

set_option maxHeartbeats 10000000 in
theorem rows_walk (w : World) (L : List Th) (a0 : Option Addr) (c : Nat) (hok : ∀ t ∈ L, t.Ok w) (hat : ThsAt w a0 L) (hsz : L.length ≤ 9223372036854775806) (hb : ∀ t ∈ L, t.b.length ≤ 1048576) :
    Calls Try.prog 3 #[.slice a0 L.length c] w fun e w' => e = .returned (.bool true) ∧ Stay (fun _ => False) w w' := by
  have hlen : ∀ i, i ≤ 200 → (laidB (L.take i)).length ≤ 209721600 := fun i hi => by
    have := laidB_len (fun t h => (hok t h).pr) hb i
    omega
  have HOK := Lib.hid hok
  have HAT := Lib.hid hat
  have HLEN := Lib.hid hlen
  have HB := Lib.hid hb
  clear hok hat hlen hb
  go_enter Try.func3, Try.ntmps3
  go_wp2_with fail
  refine (new_any w).mono ?_
  rintro e w1 ⟨rfl, rfl⟩
  go_wp2
  go_loopw [4, 5, 6] (fun pv bv k wr => ∃ i : Nat, i ≤ L.length ∧ i ≤ 200 ∧ pv = .pointer (some ⟨w.heap.size, 0, none⟩) ∧ k = .int .i64 (i : Int) ∧ RowsInv w wr bv (laidB (L.take i)) ∧ Stay (fun k => w.heap.size ≤ k) w wr) (fun _ _ k _ => 200 - (intOf k).toNat)
  case atStart => exact ⟨0, by omega, by omega, rfl, rfl, ⟨_, by simpa [laidB] using WrAt.new w, fun k h => h, by simpa [laidB] using (Owns.nil 0 _).slc, fun k h => by cases h⟩, Stay.alloc _ _⟩
  case round =>
    obtain ⟨i, hi1, hi2, rfl, rfl, ⟨X, hwr, hXb, hbv, hbk⟩, hst⟩ := hrel
    obtain ⟨ab, cb, rfl, _⟩ := id hbv
    by_cases hi : i < L.length ∧ i < 200
    · obtain ⟨hil, hi200⟩ := hi
      obtain ⟨ad, rfl, hcells⟩ := HAT.out (by omega)
      obtain ⟨t, ht⟩ : ∃ t, L[i]? = some t := ⟨_, List.getElem?_eq_getElem hil⟩
      have hcs := hcells i t ht
      have hI1 : (i : Int) < (L.length : Int) := by omega
      have hI2 : (i : Int) < 200 := by omega
      obtain ⟨Y, hYd⟩ : ∃ Y : Nat → Prop, Y = fun k => (X k ∧ k < wr.heap.size) ∨ wr.heap.size ≤ k := ⟨_, rfl⟩
      have HCL := Lib.hid (show Cl Y wr by rw [hYd]; exact fun k hk => .inr hk)
      have HWY := Lib.hid (show WrAt Y wr w.heap.size (laidB (L.take i)) by rw [hYd]; exact hwr.tight.mono (fun k hk => .inl hk))
      have hsz0 := hst.size
      have HYB := Lib.hid (show ∀ k, Y k → w.heap.size ≤ k by rw [hYd]; exact fun k hk => hk.elim (fun h => hXb k h.1) (fun h => by omega))
      have HBV := Lib.hid hbv
      have HBY := Lib.hid (show ∀ k, (Value.slice ab (laidB (L.take i)).length cb).ownBlock = some k → k < wr.heap.size → ¬ Y k by
        intro k hk h1 h2
        rw [hYd] at h2
        rcases h2 with h2 | h2
        · exact (hbk k hk).1 h2.1
        · omega)
      have HST := Lib.hid hst
      have HOLD := Lib.hid (show ∀ W, Stay (fun k => w.heap.size ≤ k) w W → ∀ j v, t.cells[j]? = some v → W.cell? ((ad.add (i * 35)).add j) = some v from fun W hW j v hv => by
        have h1 := hcs j v hv
        have h2 := World.block_lt_of_cell? w _ h1
        exact hW.cell h1 (by omega))
      have hmem := List.mem_of_getElem? ht
      have hto := HOK.out t hmem
      have HIN := Lib.hid (info_cells hto.pr)
      have HTO := Lib.hid (hto.stay hst (fun k h => h))
      have HTW := Lib.hid hto
      have HTY := Lib.hid (show 0 < t.b.length → ∀ k, t.x.ownBlock = some k → ¬ Y k from fun h0 k hk hYk => by
        have h1 := hto.slc.blk_lt h0 k hk
        have h2 := HYB.out k hYk
        omega)
      have HTB := Lib.hid (laidB_succ ht)
      have hbt := HB.out t hmem
      have hle := HLEN.out i hi2
      have hle5 : (laidB (L.take i)).length + t.b.length + 41 ≤ 140737488355328 := by omega
      clear hwr hXb hbv hbk hst ht hcs hcells hmem hto hYd
      go_wp2_with fail
      refine wp_region_any (by kernel_rfl) ?_
      change wpAny _ _ _ _ _ _ _ (World.drew _)
      refine wpAny_takeL (i := 0) (v := ?_) #[true, false, false, false, false, false, false, false, false, false, false, false, false, false] rfl (by kernel_rfl) (by kernel_rfl) (by kernel_rfl) (fun _ _ _ h => h) (by kernel_rfl) (Or.inl ⟨by rfl, ?_⟩) ?_
      rotate_left
      · intro w
        go_simp
        with_reducible rfl
      conv =>
        arg 7
        simp [Act.put]
      refine wpAny_takeL (i := 1) (v := ?_) #[true, true, false, false, false, false, false, false, false, false, false, false, false, false] rfl (by kernel_rfl) (by kernel_rfl) (by kernel_rfl) (fun _ _ _ h => h) (by kernel_rfl) (Or.inl ⟨by rfl, ?_⟩) ?_
      rotate_left
      · intro w
        go_simp
        with_reducible rfl
      conv =>
        arg 7
        simp [Act.put]
      refine wpAny_takeL (i := 2) (v := ?_) #[true, true, true, false, false, false, false, false, false, false, false, false, false, false] rfl (by kernel_rfl) (by kernel_rfl) (by kernel_rfl) (fun _ _ _ h => h) (by kernel_rfl) (Or.inl ⟨by rfl, ?_⟩) ?_
      rotate_left
      · intro w
        go_simp
        with_reducible rfl
      conv =>
        arg 7
        simp [Act.put]
      refine wpAny_takeL (i := 3) (v := ?_) #[true, true, true, true, false, false, false, false, false, false, false, false, false, false] rfl (by kernel_rfl) (by kernel_rfl) (by kernel_rfl) (fun _ _ _ h => h) (by kernel_rfl) (Or.inl ⟨by rfl, ?_⟩) ?_
      rotate_left
      · intro w
        go_simp
        with_reducible rfl
      conv =>
        arg 7
        simp [Act.put]
      refine wpAny_takeL (i := 6) (v := ?_) #[true, true, true, true, false, false, true, false, false, false, false, false, false, false] rfl (by kernel_rfl) (by kernel_rfl) (by kernel_rfl) (fun _ _ _ h => h) (by kernel_rfl) (Or.inl ⟨by rfl, ?_⟩) ?_
      rotate_left
      · intro w
        go_simp
        with_reducible rfl
      conv =>
        arg 7
        simp [Act.put]
      refine wpAny_takeL (i := 7) (v := ?_) #[true, true, true, true, false, false, true, true, false, false, false, false, false, false] rfl (by kernel_rfl) (by kernel_rfl) (by kernel_rfl) (fun _ _ _ h => h) (by kernel_rfl) (Or.inl ⟨by rfl, ?_⟩) ?_
      rotate_left
      · intro w
        go_simp
        with_reducible rfl
      conv =>
        arg 7
        simp [Act.put]
      refine wpAny_takeL (i := 8) (v := ?_) #[true, true, true, true, false, false, true, true, true, false, false, false, false, false] rfl (by kernel_rfl) (by kernel_rfl) (by kernel_rfl) (fun _ _ _ h => h) (by kernel_rfl) (Or.inl ⟨by rfl, ?_⟩) ?_
      rotate_left
      · intro w
        go_simp
        with_reducible rfl
      conv =>
        arg 7
        simp [Act.put]
      refine wpAny_takeL (i := 9) (v := ?_) #[true, true, true, true, false, false, true, true, true, true, false, false, false, false] rfl (by kernel_rfl) (by kernel_rfl) (by kernel_rfl) (fun _ _ _ h => h) (by kernel_rfl) (Or.inl ⟨by rfl, ?_⟩) ?_
      rotate_left
      · intro w
        go_simp
        with_reducible rfl
      conv =>
        arg 7
        simp [Act.put]
      have HDW := Lib.hid (show Stay (fun k => w.heap.size ≤ k) w wr.drew from HST.out.trans Stay.drew)
      refine wpAny_ready (rs := [4, 10]) (by kernel_rfl) (by simp) ?_
      refine ready_load_at rfl rfl 30 (.tmp 21) rfl (ad.add (i * 35)) rfl t.cells _ Try.underlying30 rfl HIN.out (HOLD.out _ HDW.out) ?_ ?_
      · conv =>
          arg 7
          simp [Act.put]
        refine wpAny_listed #[true, true, true, true, true, false, true, true, true, true, false, false, false, false] (by kernel_rfl) ?_
        refine wpAny_ready (rs := [5, 10]) (by kernel_rfl) (by simp) ?_
        refine ready_op rfl rfl ?_ ?_
        · generalize hKd : (wpAny _ _ _ _ _ _ : Act → World → Prop) = K
          have HKD := Lib.hid hKd
          clear hKd
          go_simp
          go_wp2_with (go_at_call 7; refine (lay_th Y _ _ _ t (HWY.out.stay0 Stay.drew) (HCL.out.stay (X := fun _ => False) Stay.drew) (HTO.out.stay0 Stay.drew) HTY.out hle5).mono ?_; rintro e w2 ⟨rfl, hw2, hst2⟩; have HW2 := Lib.hid hw2; have HS2 := Lib.hid ((Stay.drew (X := Y) (w := wr)).trans hst2); clear hw2 hst2)
          have hKd := HKD.out
          clear HKD
          subst hKd
          conv =>
            arg 7
            simp [Act.put]
          refine wpAny_listed #[true, true, true, true, true, true, true, true, true, true, false, false, false, false] (by kernel_rfl) ?_
          refine wpAny_ready (rs := [10]) (by kernel_rfl) (by simp) ?_
          refine ready_load_at rfl rfl 30 (.tmp 27) rfl (ad.add (i * 35)) rfl t.cells _ Try.underlying30 rfl HIN.out (HOLD.out _ (HST.out.trans (HS2.out.mono HYB.out))) ?_ AllReady.nil
          conv =>
            arg 7
            simp [Act.put]
          refine wpAny_listed #[true, true, true, true, true, true, true, true, true, true, true, false, false, false] (by kernel_rfl) ?_
          refine wpAny_ready (rs := [11]) (by kernel_rfl) (by simp) ?_
          refine ready_op rfl rfl ?_ AllReady.nil
          generalize hKd : (wpAny _ _ _ _ _ _ : Act → World → Prop) = K
          have HKD := Lib.hid hKd
          clear hKd
          go_simp
          go_wp2_with (go_at_call 8; refine (laid_th _ _ _ t (HBV.out.stay HS2.out HBY.out) (HTO.out.stay2 HS2.out HTY.out) hle5).mono ?_; rintro e w3 ⟨v3, rfl, how3, hst3⟩; have HO3 := Lib.hid how3; have HS3 := Lib.hid hst3; clear how3 hst3)
          have hKd := HKD.out
          clear HKD
          subst hKd
          conv =>
            arg 7
            simp [Act.put]
          refine wpAny_listed #[true, true, true, true, true, true, true, true, true, true, true, true, false, false] (by kernel_rfl) ?_
          obtain ⟨D, hDd⟩ : ∃ D : World → Prop, D = Stay (fun _ => False) w3 := ⟨_, rfl⟩
          have HD := Lib.hid (show ∀ W, D W → Stay (fun _ => False) w3 W by intro W h; rw [hDd] at h; exact h)
          have HN0 := Lib.hid (show D w3 by rw [hDd]; exact Stay.refl _ _)
          clear hDd
          haveI : Nonempty (InC D) := ⟨⟨_, HN0.out⟩⟩
          refine wpAny_ord D [12, 13] (.cons rfl (.cons rfl .nil)) rfl (by kernel_rfl) (by kernel_rfl) HN0.out ?_
          simp only [List.getElem_toArray, List.getElem_cons_succ, List.getElem_cons_zero]
          repeat (go_big_quiet_step (fail))
          refine wpQuiet_nil ?_
          rintro W ⟨ic, rfl⟩
          have HF := Lib.hid (HD.out _ ic.h)
          generalize ic.w = w9 at *
          clear HD HN0
          have HSW := Lib.hid (rows_stay HST.out HS2.out HYB.out (HS3.out.trans HF.out))
          go_wp2_with (refine wpList_load_at rfl 30 (.tmp 33) rfl (ad.add (i * 35)) rfl t.cells _ Try.underlying30 rfl HIN.out (HOLD.out _ HSW.out) ?_)
          refine (lay_thing_nil w9 t ((HTW.out.stay HSW.out (fun k h => h))) (by omega)).mono ?_
          rintro e w10 ⟨rfl, hs10⟩
          have HS10 := Lib.hid hs10
          clear hs10
          go_wp2
          go_roundw
          case rel => exact ⟨i + 1, by omega, by omega, rfl, by go_num, rows_next HTB.out HW2.out HO3.out HYB.out ((HS3.out.trans HF.out).trans HS10.out) (HF.out.trans HS10.out), HSW.out.trans (HS10.out.mono (fun _ x => x.elim))⟩
          case measure => simp [intOf]; omega
        · refine ready_load_at rfl rfl 30 (.tmp 27) rfl (ad.add (i * 35)) rfl t.cells _ Try.underlying30 rfl HIN.out (HOLD.out _ HDW.out) ?_ AllReady.nil
          conv =>
            arg 7
            simp [Act.put]
          refine wpAny_listed #[true, true, true, true, true, false, true, true, true, true, true, false, false, false] (by kernel_rfl) ?_
          refine wpAny_ready (rs := [5]) (by kernel_rfl) (by simp) ?_
          refine ready_op rfl rfl ?_ AllReady.nil
          generalize hKd : (wpAny _ _ _ _ _ _ : Act → World → Prop) = K
          have HKD := Lib.hid hKd
          clear hKd
          go_simp
          go_wp2_with (go_at_call 7; refine (lay_th Y _ _ _ t (HWY.out.stay0 Stay.drew) (HCL.out.stay (X := fun _ => False) Stay.drew) (HTO.out.stay0 Stay.drew) HTY.out hle5).mono ?_; rintro e w2 ⟨rfl, hw2, hst2⟩; have HW2 := Lib.hid hw2; have HS2 := Lib.hid ((Stay.drew (X := Y) (w := wr)).trans hst2); clear hw2 hst2)
          have hKd := HKD.out
          clear HKD
          subst hKd
          conv =>
            arg 7
            simp [Act.put]
          refine wpAny_listed #[true, true, true, true, true, true, true, true, true, true, true, false, false, false] (by kernel_rfl) ?_
          refine wpAny_ready (rs := [11]) (by kernel_rfl) (by simp) ?_
          refine ready_op rfl rfl ?_ AllReady.nil
          generalize hKd : (wpAny _ _ _ _ _ _ : Act → World → Prop) = K
          have HKD := Lib.hid hKd
          clear hKd
          go_simp
          go_wp2_with (go_at_call 8; refine (laid_th _ _ _ t (HBV.out.stay HS2.out HBY.out) (HTO.out.stay2 HS2.out HTY.out) hle5).mono ?_; rintro e w3 ⟨v3, rfl, how3, hst3⟩; have HO3 := Lib.hid how3; have HS3 := Lib.hid hst3; clear how3 hst3)
          have hKd := HKD.out
          clear HKD
          subst hKd
          conv =>
            arg 7
            simp [Act.put]
          refine wpAny_listed #[true, true, true, true, true, true, true, true, true, true, true, true, false, false] (by kernel_rfl) ?_
          obtain ⟨D, hDd⟩ : ∃ D : World → Prop, D = Stay (fun _ => False) w3 := ⟨_, rfl⟩
          have HD := Lib.hid (show ∀ W, D W → Stay (fun _ => False) w3 W by intro W h; rw [hDd] at h; exact h)
          have HN0 := Lib.hid (show D w3 by rw [hDd]; exact Stay.refl _ _)
          clear hDd
          haveI : Nonempty (InC D) := ⟨⟨_, HN0.out⟩⟩
          refine wpAny_ord D [12, 13] (.cons rfl (.cons rfl .nil)) rfl (by kernel_rfl) (by kernel_rfl) HN0.out ?_
          simp only [List.getElem_toArray, List.getElem_cons_succ, List.getElem_cons_zero]
          repeat (go_big_quiet_step (fail))
          refine wpQuiet_nil ?_
          rintro W ⟨ic, rfl⟩
          have HF := Lib.hid (HD.out _ ic.h)
          generalize ic.w = w9 at *
          clear HD HN0
          have HSW := Lib.hid (rows_stay HST.out HS2.out HYB.out (HS3.out.trans HF.out))
          go_wp2_with (refine wpList_load_at rfl 30 (.tmp 33) rfl (ad.add (i * 35)) rfl t.cells _ Try.underlying30 rfl HIN.out (HOLD.out _ HSW.out) ?_)
          refine (lay_thing_nil w9 t ((HTW.out.stay HSW.out (fun k h => h))) (by omega)).mono ?_
          rintro e w10 ⟨rfl, hs10⟩
          have HS10 := Lib.hid hs10
          clear hs10
          go_wp2
          go_roundw
          case rel => exact ⟨i + 1, by omega, by omega, rfl, by go_num, rows_next HTB.out HW2.out HO3.out HYB.out ((HS3.out.trans HF.out).trans HS10.out) (HF.out.trans HS10.out), HSW.out.trans (HS10.out.mono (fun _ x => x.elim))⟩
          case measure => simp [intOf]; omega
      · refine ready_load_at rfl rfl 30 (.tmp 27) rfl (ad.add (i * 35)) rfl t.cells _ Try.underlying30 rfl HIN.out (HOLD.out _ HDW.out) ?_ AllReady.nil
        conv =>
          arg 7
          simp [Act.put]
        refine wpAny_listed #[true, true, true, true, false, false, true, true, true, true, true, false, false, false] (by kernel_rfl) ?_
        refine wpAny_ready (rs := [4]) (by kernel_rfl) (by simp) ?_
        refine ready_load_at rfl rfl 30 (.tmp 21) rfl (ad.add (i * 35)) rfl t.cells _ Try.underlying30 rfl HIN.out (HOLD.out _ HDW.out) ?_ AllReady.nil
        conv =>
          arg 7
          simp [Act.put]
        refine wpAny_listed #[true, true, true, true, true, false, true, true, true, true, true, false, false, false] (by kernel_rfl) ?_
        refine wpAny_ready (rs := [5]) (by kernel_rfl) (by simp) ?_
        refine ready_op rfl rfl ?_ AllReady.nil
        generalize hKd : (wpAny _ _ _ _ _ _ : Act → World → Prop) = K
        have HKD := Lib.hid hKd
        clear hKd
        go_simp
        go_wp2_with (go_at_call 7; refine (lay_th Y _ _ _ t (HWY.out.stay0 Stay.drew) (HCL.out.stay (X := fun _ => False) Stay.drew) (HTO.out.stay0 Stay.drew) HTY.out hle5).mono ?_; rintro e w2 ⟨rfl, hw2, hst2⟩; have HW2 := Lib.hid hw2; have HS2 := Lib.hid ((Stay.drew (X := Y) (w := wr)).trans hst2); clear hw2 hst2)
        have hKd := HKD.out
        clear HKD
        subst hKd
        conv =>
          arg 7
          simp [Act.put]
        refine wpAny_listed #[true, true, true, true, true, true, true, true, true, true, true, false, false, false] (by kernel_rfl) ?_
        refine wpAny_ready (rs := [11]) (by kernel_rfl) (by simp) ?_
        refine ready_op rfl rfl ?_ AllReady.nil
        generalize hKd : (wpAny _ _ _ _ _ _ : Act → World → Prop) = K
        have HKD := Lib.hid hKd
        clear hKd
        go_simp
        go_wp2_with (go_at_call 8; refine (laid_th _ _ _ t (HBV.out.stay HS2.out HBY.out) (HTO.out.stay2 HS2.out HTY.out) hle5).mono ?_; rintro e w3 ⟨v3, rfl, how3, hst3⟩; have HO3 := Lib.hid how3; have HS3 := Lib.hid hst3; clear how3 hst3)
        have hKd := HKD.out
        clear HKD
        subst hKd
        conv =>
          arg 7
          simp [Act.put]
        refine wpAny_listed #[true, true, true, true, true, true, true, true, true, true, true, true, false, false] (by kernel_rfl) ?_
        obtain ⟨D, hDd⟩ : ∃ D : World → Prop, D = Stay (fun _ => False) w3 := ⟨_, rfl⟩
        have HD := Lib.hid (show ∀ W, D W → Stay (fun _ => False) w3 W by intro W h; rw [hDd] at h; exact h)
        have HN0 := Lib.hid (show D w3 by rw [hDd]; exact Stay.refl _ _)
        clear hDd
        haveI : Nonempty (InC D) := ⟨⟨_, HN0.out⟩⟩
        refine wpAny_ord D [12, 13] (.cons rfl (.cons rfl .nil)) rfl (by kernel_rfl) (by kernel_rfl) HN0.out ?_
        simp only [List.getElem_toArray, List.getElem_cons_succ, List.getElem_cons_zero]
        repeat (go_big_quiet_step (fail))
        refine wpQuiet_nil ?_
        rintro W ⟨ic, rfl⟩
        have HF := Lib.hid (HD.out _ ic.h)
        generalize ic.w = w9 at *
        clear HD HN0
        have HSW := Lib.hid (rows_stay HST.out HS2.out HYB.out (HS3.out.trans HF.out))
        go_wp2_with (refine wpList_load_at rfl 30 (.tmp 33) rfl (ad.add (i * 35)) rfl t.cells _ Try.underlying30 rfl HIN.out (HOLD.out _ HSW.out) ?_)
        refine (lay_thing_nil w9 t ((HTW.out.stay HSW.out (fun k h => h))) (by omega)).mono ?_
        rintro e w10 ⟨rfl, hs10⟩
        have HS10 := Lib.hid hs10
        clear hs10
        go_wp2
        go_roundw
        case rel => exact ⟨i + 1, by omega, by omega, rfl, by go_num, rows_next HTB.out HW2.out HO3.out HYB.out ((HS3.out.trans HF.out).trans HS10.out) (HF.out.trans HS10.out), HSW.out.trans (HS10.out.mono (fun _ x => x.elim))⟩
        case measure => simp [intOf]; omega
    · have hend : ¬ ((i : Int) < (L.length : Int)) ∨ ((i : Int) < (L.length : Int) ∧ ¬ ((i : Int) < 200)) := by
        by_cases h : i < L.length
        · exact .inr ⟨by omega, by omega⟩
        · exact .inl (by omega)
      have hle := HLEN.out i hi2
      have HWR := Lib.hid hwr
      have HST := Lib.hid hst
      have HBV := Lib.hid hbv
      clear hwr hst hbv hbk hXb
      rcases hend with hd | ⟨hd, hd2⟩
      all_goals
        go_wp2_with fail
        have hcb := conv_slc (HBV.out.stay0 (Stay.drew (w := wr)))
        unfold strV at hcb
        refine wp_region_any (by kernel_rfl) ?_
        change wpAny _ _ _ _ _ _ _ (World.drew _)
        refine wpAny_takeL (i := 0) (v := ?_) #[true, false, false, false, false, false, false, false, false, false, false, false, false, false, false, false] rfl (by kernel_rfl) (by kernel_rfl) (by kernel_rfl) (fun _ _ _ h => h) (by kernel_rfl) (Or.inl ⟨by rfl, ?_⟩) ?_
        rotate_left
        · intro w
          go_simp
          with_reducible rfl
        conv =>
          arg 7
          simp [Act.put]
        refine wpAny_takeL (i := 3) (v := ?_) #[true, false, false, true, false, false, false, false, false, false, false, false, false, false, false, false] rfl (by kernel_rfl) (by kernel_rfl) (by kernel_rfl) (fun _ _ _ h => h) (by kernel_rfl) (Or.inl ⟨by rfl, ?_⟩) ?_
        rotate_left
        · intro w
          go_simp
          with_reducible rfl
        conv =>
          arg 7
          simp [Act.put]
        refine wpAny_ready (rs := [1, 4]) (by kernel_rfl) (by simp) ?_
        refine ready_op rfl rfl ?_ ?_
        · generalize hKd : (wpAny _ _ _ _ _ _ : Act → World → Prop) = K
          have HKD := Lib.hid hKd
          clear hKd
          go_simp
          go_wp2_with (go_at_call 9; refine (done_any _ _ _ _ (HWR.out.stay0 Stay.drew) (by omega)).mono ?_; rintro e w2 ⟨v2, rfl, how2, hs2⟩; have HV2 := Lib.hid how2.slc; have HS2 := Lib.hid ((Stay.drew (X := fun _ => False) (w := wr)).trans hs2); clear how2 hs2)
          clear hcb
          have hKd := HKD.out
          clear HKD
          subst hKd
          conv =>
            arg 7
            simp [Act.put]
          refine wpAny_listed #[true, true, false, true, false, false, false, false, false, false, false, false, false, false, false, false] (by kernel_rfl) ?_
          obtain ⟨D, hDd⟩ : ∃ D : World → Prop, D = Stay (fun _ => False) w2 := ⟨_, rfl⟩
          have HD := Lib.hid (show ∀ W, D W → Stay (fun _ => False) w2 W by intro W h; rw [hDd] at h; exact h)
          have HDm := Lib.hid (show ∀ W, Stay (fun _ => False) w2 W → D W by intro W h; rw [hDd]; exact h)
          clear hDd
          have HN0 := Lib.hid (HDm.out _ (Stay.refl _ _))
          have kv := fun i : InC D => conv_slc (HV2.out.stay0 (HD.out _ i.h))
          have kb := fun i : InC D => conv_slc (HBV.out.stay0 (HS2.out.trans (HD.out _ i.h)))
          unfold strV at kv kb
          have H1 := Lib.hid (show ∀ W, D W → Calls Try.prog 9 #[.pointer none] W fun e w' => e = .returned (.slice none 0 0) ∧ D w' from fun W h => (done_nil W).mono fun e w' ⟨h1, h2⟩ => ⟨h1, h2 ▸ h⟩)
          have H2 := Lib.hid (show ∀ W, D W → Calls Try.prog 10 #[] W fun e w' => e = .returned (.bool true) ∧ D w' from fun W h => (sure_any W).mono fun e w' ⟨h1, h2⟩ => ⟨h1, HDm.out _ ((HD.out W h).trans h2)⟩)
          haveI : Nonempty (InC D) := ⟨⟨_, HN0.out⟩⟩
          refine wpAny_ord D [2, 4, 5, 6, 7, 8, 9, 10, 11, 12, 13, 14, 15] (.cons rfl (.cons rfl (.cons rfl (.cons rfl (.cons rfl (.cons rfl (.cons rfl (.cons rfl (.cons rfl (.cons rfl (.cons rfl (.cons rfl (.cons rfl .nil))))))))))))) rfl (by kernel_rfl) (by kernel_rfl) HN0.out ?_
          simp only [List.getElem_toArray, List.getElem_cons_succ, List.getElem_cons_zero]
          repeat (go_big_quiet_step ((first
            | with_reducible exact calls_class H1.out
            | with_reducible exact calls_class H2.out)))
          refine wpQuiet_nil ?_
          rintro W ⟨ic, rfl⟩
          have hfin := HD.out _ ic.h
          clear kv kb
          generalize ic.w = w9 at *
          go_wp2
          go_ret
          exact ⟨rfl, stay_seal (X := fun k => w.heap.size ≤ k) (HST.out.trans ((HS2.out.trans hfin).mono (fun _ x => x.elim))) (fun k hk => hk)⟩
        · refine ready_op rfl rfl ?_ AllReady.nil
          generalize hKd : (wpAny _ _ _ _ _ _ : Act → World → Prop) = K
          have HKD := Lib.hid hKd
          clear hKd
          go_simp
          clear hcb
          have hKd := HKD.out
          clear HKD
          subst hKd
          conv =>
            arg 7
            simp [Act.put]
          refine wpAny_listed #[true, false, false, true, true, false, false, false, false, false, false, false, false, false, false, false] (by kernel_rfl) ?_
          refine wpAny_ready (rs := [1]) (by kernel_rfl) (by simp) ?_
          refine ready_op rfl rfl ?_ AllReady.nil
          generalize hKd : (wpAny _ _ _ _ _ _ : Act → World → Prop) = K
          have HKD := Lib.hid hKd
          clear hKd
          go_simp
          go_wp2_with (go_at_call 9; refine (done_any _ _ _ _ (HWR.out.stay0 Stay.drew) (by omega)).mono ?_; rintro e w2 ⟨v2, rfl, how2, hs2⟩; have HV2 := Lib.hid how2.slc; have HS2 := Lib.hid ((Stay.drew (X := fun _ => False) (w := wr)).trans hs2); clear how2 hs2)
          have hKd := HKD.out
          clear HKD
          subst hKd
          conv =>
            arg 7
            simp [Act.put]
          refine wpAny_listed #[true, true, false, true, true, false, false, false, false, false, false, false, false, false, false, false] (by kernel_rfl) ?_
          obtain ⟨D, hDd⟩ : ∃ D : World → Prop, D = Stay (fun _ => False) w2 := ⟨_, rfl⟩
          have HD := Lib.hid (show ∀ W, D W → Stay (fun _ => False) w2 W by intro W h; rw [hDd] at h; exact h)
          have HDm := Lib.hid (show ∀ W, Stay (fun _ => False) w2 W → D W by intro W h; rw [hDd]; exact h)
          clear hDd
          have HN0 := Lib.hid (HDm.out _ (Stay.refl _ _))
          have kv := fun i : InC D => conv_slc (HV2.out.stay0 (HD.out _ i.h))
          have kb := fun i : InC D => conv_slc (HBV.out.stay0 (HS2.out.trans (HD.out _ i.h)))
          unfold strV at kv kb
          have H1 := Lib.hid (show ∀ W, D W → Calls Try.prog 9 #[.pointer none] W fun e w' => e = .returned (.slice none 0 0) ∧ D w' from fun W h => (done_nil W).mono fun e w' ⟨h1, h2⟩ => ⟨h1, h2 ▸ h⟩)
          have H2 := Lib.hid (show ∀ W, D W → Calls Try.prog 10 #[] W fun e w' => e = .returned (.bool true) ∧ D w' from fun W h => (sure_any W).mono fun e w' ⟨h1, h2⟩ => ⟨h1, HDm.out _ ((HD.out W h).trans h2)⟩)
          haveI : Nonempty (InC D) := ⟨⟨_, HN0.out⟩⟩
          refine wpAny_ord D [2, 5, 6, 7, 8, 9, 10, 11, 12, 13, 14, 15] (.cons rfl (.cons rfl (.cons rfl (.cons rfl (.cons rfl (.cons rfl (.cons rfl (.cons rfl (.cons rfl (.cons rfl (.cons rfl (.cons rfl .nil)))))))))))) rfl (by kernel_rfl) (by kernel_rfl) HN0.out ?_
          simp only [List.getElem_toArray, List.getElem_cons_succ, List.getElem_cons_zero]
          repeat (go_big_quiet_step ((first
            | with_reducible exact calls_class H1.out
            | with_reducible exact calls_class H2.out)))
          refine wpQuiet_nil ?_
          rintro W ⟨ic, rfl⟩
          have hfin := HD.out _ ic.h
          clear kv kb
          generalize ic.w = w9 at *
          go_wp2
          go_ret
          exact ⟨rfl, stay_seal (X := fun k => w.heap.size ≤ k) (HST.out.trans ((HS2.out.trans hfin).mono (fun _ x => x.elim))) (fun k hk => hk)⟩

end Go.Proofs.Ytjaflioamjklfaa.Pk
