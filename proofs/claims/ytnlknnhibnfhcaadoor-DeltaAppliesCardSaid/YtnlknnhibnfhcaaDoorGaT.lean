import Derived.Test.YtnlknnhibnfhcaaDoorDeT
import Derived.Test.YtnlknnhibnfhcaaDoorDeS
import Derived.Test.YtnlknnhibnfhcaaDoorDeW
import Derived.Test.YtnlknnhibnfhcaaDoorHeldS
import Derived.Test.YtnlknnhibnfhcaaDoorErrPk
import Derived.Test.YtnlknnhibnfhcaaDoorDeA
import Derived.Test.YtnlknnhibnfhcaaDoorPkOpen
import Derived.Laws.IdiomArrays
import Derived.OpenShut
import Derived.Test.YtnlknnhibnfhcaaDoorRows
import Derived.Lib.SmallJoins
import Derived.Test.YtnlknnhibnfhcaaDoorCards
import Derived.Test.YtnlknnhibnfhcaaDoorTie
import Derived.SevenTiedAt
/-
  delta's laws: steps of a region that draws: blocks stored.
-/
namespace Go.Proofs.YtnlknnhibnfhcaaDoor.De
open Go.RowKit Pk
set_option maxRecDepth 100000

theorem step_store_blk {ops : Array Oper} {Q : Exit → Act → World → Prop} {o : Oper} {a : Act} {w : World} {K : Act → World → Prop} {E : Prop} (hw : Region.wanted o (yielded ops a.tmps) = true) (x y : Operand) (ho : o.op = .store 23 x y)
    (g : Nat) (hx : a.eval x = .pointer (some ⟨g, 0, none⟩)) (l0 l : List UInt8) (hl0 : l0.length = 64) (hl : l.length = 64) (hy : a.eval y = arrV l) (hg : BAt w g 23 l0)
    (hn : ∀ w', BAt w' g 23 l → Stay (· = g) w w' → K (a.put o.dst undef) w') : if Region.wanted o (yielded ops a.tmps) = true then Oper.wp Tryd.prog o a w K Q else E := by
  have hsp : splice (cellsB l0) 0 (cellsB l) = cellsB l := splice_full l0 l (by omega)
  refine step_store_run hw 23 x y ho _ hx _ hy _ (run_storeVar_mid (P := Tryd.prog) w g 0 23 23 (cellsB l0) (cellsB l) hg (by rw [length_cellsB, hl]; exact arr_64.info) (by rw [length_cellsB, length_cellsB]; omega) (oneCell_cellsB _)) (hn _ ?_ (Stay.setRow w g _ rfl))
  have h1 := setRow_heap w g _ (splice (cellsB l0) 0 (cellsB l)).toArray 23 _ hg
  rw [hsp] at h1 ⊢
  exact h1
/-- A number of an error. -/
theorem num_res (c : Nat) (w : World) (hg : ErrCell w) : Calls Tryd.prog 15 #[errV c] w fun e w' => e = .returned (.int .i64 (c : Int)) ∧ Stay (fun _ => False) w w' := num_any c w hg (errV c) rfl
end Go.Proofs.YtnlknnhibnfhcaaDoor.De

/-
  delta's laws: DeltaApplies, walked.
-/
namespace Go.Proofs.YtnlknnhibnfhcaaDoor.De
open Go.RowKit Pk
set_option maxRecDepth 100000

set_option maxHeartbeats 4000000 in
theorem applies_walk (w : World) (a : List UInt8) (v : Value) (L : List Po) (hg : ErrCell w) (ha : a.length = 64) (hv : PsAt w v L) (hmx : ∀ q ∈ L, q.p.b.length ≤ 140737488355328) :
    Calls Tryd.prog 4 #[arrV a, v] w fun e w' => e = .returned (.bool true) ∧ Stay (fun _ => False) w w' := by
  have h0 := BAt.new w 23 a
  have hs0 : Stay (fun _ => False) w (w.alloc (.cells (cellsB a).toArray 23)) := Stay.alloc _ _
  obtain ⟨w1, hw1⟩ : ∃ w1, w.alloc (.cells (cellsB a).toArray 23) = w1 := ⟨_, rfl⟩
  rw [hw1] at h0 hs0
  have HA := Lib.hid ha
  have H0 := Lib.hid h0
  have HS0 := Lib.hid hs0
  have W1 := Lib.hid hw1
  have HG := Lib.hid hg
  have HMX := Lib.hid hmx
  obtain ⟨a0, c0, rfl⟩ := hv.form
  have HV := Lib.hid (hv.stay0 hs0)
  clear ha h0 hs0 hw1 hg hmx hv
  unfold arrV
  by_cases h200 : 200 < L.length
  · have h200' : (200 : Int) < (L.length : Int) := by omega
    go_enter Tryd.func4, Tryd.ntmps4
    go_wp2_with fail
    rw [W1.out]
    refine (sure_any w1).mono ?_
    rintro e w2 ⟨rfl, hs2⟩
    go_wp2
    go_ret
    exact ⟨rfl, HS0.out.trans hs2⟩
  · have h200' : ¬ ((200 : Int) < (L.length : Int)) := by omega
    go_enter Tryd.func4, Tryd.ntmps4
    obtain ⟨R, hR⟩ : ∃ R, R = applyN a (L.map Po.p) [] := ⟨_, rfl⟩
    obtain ⟨rb, hrb⟩ : ∃ rb, rb = resB (applyN a (L.map Po.p) []) := ⟨_, rfl⟩
    obtain ⟨ev, hev⟩ : ∃ ev, ev = errV (resE (applyN a (L.map Po.p) [])) := ⟨_, rfl⟩
    have hrl : rb.length = 64 := by rw [hrb]; exact resB_len a _
    have HRB := Lib.hid hrb
    have HEV := Lib.hid hev
    have HRL := Lib.hid hrl
    clear hrb hev hrl hR R
    go_wp2_with (first
      | (rw [W1.out]
         refine Code.wp_mono (Q := fun e a' W => ∃ g x16, e = .normal ∧ a' = { tmps := #[.agg (cellsB a).toArray, .slice a0 L.length c0, .pointer (some ⟨w.heap.size, 0, none⟩), undef, .bool false, .pointer (some ⟨g, 0, none⟩), ev, undef, undef, .slice a0 L.length c0, .int .i64 (L.length : Int), .bool false, undef, .tuple #[arrV rb, ev], arrV a, .slice a0 L.length c0, x16, .tuple #[arrV rb, ev], arrV rb, ev, undef, undef, undef, undef, undef, undef, undef, undef, undef, undef, undef, undef, undef, undef, undef, undef, undef, undef], defers := [] } ∧ BAt W g 23 rb ∧ Stay (fun _ => False) w1 W) ?next ?region))
    case region =>
      clear W1
      refine wp_region_held (S := Stay (fun _ => False) w1) (by kernel_rfl) ?_
      change wpAnyH _ _ _ _ _ _ _ _ (World.drew _)
      have hst : Stay (fun _ => False) w1 w1.drew := Stay.drew
      refine wpAnyH_takeL (i := 0) #[true, false, false, false, false, false, false, false, false, false] rfl (by kernel_rfl) (by kernel_rfl) (by kernel_rfl) (fun _ _ _ h => by obtain ⟨_, _, h, _⟩ := h; cases h) (by kernel_rfl) hst (yieldsIf_load rfl 23 (.tmp 2) rfl ⟨w.heap.size, 0, none⟩ rfl _ (fun W hW => arr_64.run_load HA.out (H0.out.stay0 hW))) ?_
      conv => arg 8; simp [Act.put]
      refine wpAnyH_takeL (i := 1) (v := .slice a0 L.length c0) #[true, true, false, false, false, false, false, false, false, false] rfl (by kernel_rfl) (by kernel_rfl) (by kernel_rfl) (fun _ _ _ h => by obtain ⟨_, _, h, _⟩ := h; cases h) (by kernel_rfl) hst (Or.inl ⟨by rfl, fun W hW => ?_⟩) ?_
      · go_simp
      conv => arg 8; simp [Act.put]
      refine wpAnyH_ready (rs := [2, 7]) (by kernel_rfl) (by simp) ?_
      refine AllReadyH.cons (o := _) rfl (fun K hK => ?_) ?_
      · go_simp
        go_wp2_with (go_at_call 9; refine (give_any w1.drew _ L (HV.out.stay0 hst) (by omega) HMX.out).mono ?_; rintro e v1 ⟨⟨x5, rfl, L5, hL5, hv5⟩, s⟩; obtain ⟨a5, c5, rfl⟩ := hv5.form; have HL5 := Lib.hid hL5; have HV5 := Lib.hid hv5; clear hL5 hv5)
        replace hst := hst.trans s
        clear s
        refine Shut.out hK _ _ hst (fun _ => ?_)
        clear hK
        refine wpAnyH_listedL #[true, true, true, false, false, false, false, false, false, false] (by kernel_rfl) ?_
        conv => arg 8; simp [Act.put]
        refine wpAnyH_ready (rs := [3, 7]) (by kernel_rfl) (by simp) ?_
        refine AllReadyH.cons (o := _) rfl (fun K hK => ?_) ?_
        · go_simp
          go_wp2_with (go_at_call 8; refine (apply_any v1 a _ L5 HA.out HV5.out).mono ?_; rintro e v2 ⟨rfl, s⟩; rw [HL5.out, ← HRB.out, ← HEV.out])
          replace HV5 := Lib.hid (HV5.out.stay0 s)
          replace hst := hst.trans s
          clear s
          refine Shut.out hK _ _ hst (fun _ => ?_)
          clear hK
          refine wpAnyH_listedL #[true, true, true, true, false, false, false, false, false, false] (by kernel_rfl) ?_
          conv => arg 8; simp [Act.put]
          refine wpAnyH_takeL (i := 4) (v := .tuple #[arrV rb, ev]) #[true, true, true, true, true, false, false, false, false, false] rfl (by kernel_rfl) (by kernel_rfl) (by kernel_rfl) (fun _ _ _ h => by obtain ⟨_, _, h, _⟩ := h; cases h) (by kernel_rfl) hst (Or.inl ⟨by rfl, fun W hW => ?_⟩) ?_
          · go_simp
          conv => arg 8; simp [Act.put]
          refine wpAnyH_takeL (i := 5) (v := arrV rb) #[true, true, true, true, true, true, false, false, false, false] rfl (by kernel_rfl) (by kernel_rfl) (by kernel_rfl) (fun _ _ _ h => by obtain ⟨_, _, h, _⟩ := h; cases h) (by kernel_rfl) hst (Or.inl ⟨by rfl, fun W hW => ?_⟩) ?_
          · go_simp
          conv => arg 8; simp [Act.put]
          refine wpAnyH_takeL (i := 6) (v := ev) #[true, true, true, true, true, true, true, false, false, false] rfl (by kernel_rfl) (by kernel_rfl) (by kernel_rfl) (fun _ _ _ h => by obtain ⟨_, _, h, _⟩ := h; cases h) (by kernel_rfl) hst (Or.inl ⟨by rfl, fun W hW => ?_⟩) ?_
          · go_simp
          conv => arg 8; simp [Act.put]
          refine wpAnyH_ready (rs := [7]) (by kernel_rfl) (by simp) ?_
          refine AllReadyH.cons (o := _) rfl (fun K hK => ?_) ?_
          · refine step_alloc_z rfl 23 rfl _ (arr_64.zero _) ?_
            have hg := BAt.new v2 23 z64
            have hsz := hst.size
            have s : Stay (fun _ => False) v2 (v2.alloc (.cells (cellsB z64).toArray 23)) := Stay.alloc _ _
            change K _ (v2.alloc (.cells (cellsB z64).toArray 23))
            generalize v2.alloc (.cells (cellsB z64).toArray 23) = v3 at hg s ⊢
            obtain ⟨g, hge⟩ : ∃ g, g = v2.heap.size := ⟨_, rfl⟩
            rw [← hge] at hg ⊢
            have hbg : w1.heap.size ≤ g := by omega
            clear hge hsz
            replace HV5 := Lib.hid (HV5.out.stay0 s)
            replace hst := hst.trans s
            clear s
            refine Shut.out hK _ _ hst (fun _ => ?_)
            clear hK
            refine wpAnyH_listedL #[true, true, true, true, true, true, true, true, false, false] (by kernel_rfl) ?_
            conv => arg 8; simp [Act.put]
            refine wpAnyH_one #[true, true, true, true, true, true, true, true, true, false] (i := 8) rfl (by kernel_rfl) (by kernel_rfl) (fun K hK => ?_)
            refine step_store_blk rfl (.tmp 5) (.tmp 18) rfl g rfl z64 rb len_z64 HRL.out rfl hg ?_
            intro wz hz s
            replace hst : Stay (fun _ => False) w1 wz := stay_seal (X := fun k => k = g) ((hst.mono (fun _ x => x.elim)).trans s) (fun k e => by have e' : k = g := e; omega)
            clear s hg
            have hg := hz
            clear hz
            refine hK _ _ hst ?_
            clear hK
            conv => arg 8; simp [Act.put]
            refine wpAnyH_takeL (i := 9) (v := ev) #[true, true, true, true, true, true, true, true, true, true] rfl (by kernel_rfl) (by kernel_rfl) (by kernel_rfl) (fun _ _ _ h => by obtain ⟨_, _, h, _⟩ := h; cases h) (by kernel_rfl) hst (Or.inl ⟨by rfl, fun W hW => ?_⟩) ?_
            · go_simp
            conv => arg 8; simp [Act.put]
            refine wpAnyH_done (by kernel_rfl) ?_ _
            exact ⟨g, _, rfl, rfl, hg, hst⟩
          exact AllReadyH.nil
        refine AllReadyH.cons (o := _) rfl (fun K hK => ?_) ?_
        · refine step_alloc_z rfl 23 rfl _ (arr_64.zero _) ?_
          have hg := BAt.new v1 23 z64
          have hsz := hst.size
          have s : Stay (fun _ => False) v1 (v1.alloc (.cells (cellsB z64).toArray 23)) := Stay.alloc _ _
          change K _ (v1.alloc (.cells (cellsB z64).toArray 23))
          generalize v1.alloc (.cells (cellsB z64).toArray 23) = v2 at hg s ⊢
          obtain ⟨g, hge⟩ : ∃ g, g = v1.heap.size := ⟨_, rfl⟩
          rw [← hge] at hg ⊢
          have hbg : w1.heap.size ≤ g := by omega
          clear hge hsz
          replace HV5 := Lib.hid (HV5.out.stay0 s)
          replace hst := hst.trans s
          clear s
          refine Shut.out hK _ _ hst (fun _ => ?_)
          clear hK
          refine wpAnyH_listedL #[true, true, true, false, false, false, false, true, false, false] (by kernel_rfl) ?_
          conv => arg 8; simp [Act.put]
          refine wpAnyH_ready (rs := [3]) (by kernel_rfl) (by simp) ?_
          refine AllReadyH.cons (o := _) rfl (fun K hK => ?_) ?_
          · go_simp
            go_wp2_with (go_at_call 8; refine (apply_any v2 a _ L5 HA.out HV5.out).mono ?_; rintro e v3 ⟨rfl, s⟩; rw [HL5.out, ← HRB.out, ← HEV.out])
            replace hg := hg.stay0 s
            replace HV5 := Lib.hid (HV5.out.stay0 s)
            replace hst := hst.trans s
            clear s
            refine Shut.out hK _ _ hst (fun _ => ?_)
            clear hK
            refine wpAnyH_listedL #[true, true, true, true, false, false, false, true, false, false] (by kernel_rfl) ?_
            conv => arg 8; simp [Act.put]
            refine wpAnyH_takeL (i := 4) (v := .tuple #[arrV rb, ev]) #[true, true, true, true, true, false, false, true, false, false] rfl (by kernel_rfl) (by kernel_rfl) (by kernel_rfl) (fun _ _ _ h => by obtain ⟨_, _, h, _⟩ := h; cases h) (by kernel_rfl) hst (Or.inl ⟨by rfl, fun W hW => ?_⟩) ?_
            · go_simp
            conv => arg 8; simp [Act.put]
            refine wpAnyH_takeL (i := 5) (v := arrV rb) #[true, true, true, true, true, true, false, true, false, false] rfl (by kernel_rfl) (by kernel_rfl) (by kernel_rfl) (fun _ _ _ h => by obtain ⟨_, _, h, _⟩ := h; cases h) (by kernel_rfl) hst (Or.inl ⟨by rfl, fun W hW => ?_⟩) ?_
            · go_simp
            conv => arg 8; simp [Act.put]
            refine wpAnyH_takeL (i := 6) (v := ev) #[true, true, true, true, true, true, true, true, false, false] rfl (by kernel_rfl) (by kernel_rfl) (by kernel_rfl) (fun _ _ _ h => by obtain ⟨_, _, h, _⟩ := h; cases h) (by kernel_rfl) hst (Or.inl ⟨by rfl, fun W hW => ?_⟩) ?_
            · go_simp
            conv => arg 8; simp [Act.put]
            refine wpAnyH_one #[true, true, true, true, true, true, true, true, true, false] (i := 8) rfl (by kernel_rfl) (by kernel_rfl) (fun K hK => ?_)
            refine step_store_blk rfl (.tmp 5) (.tmp 18) rfl g rfl z64 rb len_z64 HRL.out rfl hg ?_
            intro wz hz s
            replace hst : Stay (fun _ => False) w1 wz := stay_seal (X := fun k => k = g) ((hst.mono (fun _ x => x.elim)).trans s) (fun k e => by have e' : k = g := e; omega)
            clear s hg
            have hg := hz
            clear hz
            refine hK _ _ hst ?_
            clear hK
            conv => arg 8; simp [Act.put]
            refine wpAnyH_takeL (i := 9) (v := ev) #[true, true, true, true, true, true, true, true, true, true] rfl (by kernel_rfl) (by kernel_rfl) (by kernel_rfl) (fun _ _ _ h => by obtain ⟨_, _, h, _⟩ := h; cases h) (by kernel_rfl) hst (Or.inl ⟨by rfl, fun W hW => ?_⟩) ?_
            · go_simp
            conv => arg 8; simp [Act.put]
            refine wpAnyH_done (by kernel_rfl) ?_ _
            exact ⟨g, _, rfl, rfl, hg, hst⟩
          exact AllReadyH.nil
        exact AllReadyH.nil
      refine AllReadyH.cons (o := _) rfl (fun K hK => ?_) ?_
      · refine step_alloc_z rfl 23 rfl _ (arr_64.zero _) ?_
        have hg := BAt.new w1.drew 23 z64
        have hsz := hst.size
        have s : Stay (fun _ => False) w1.drew (w1.drew.alloc (.cells (cellsB z64).toArray 23)) := Stay.alloc _ _
        change K _ (w1.drew.alloc (.cells (cellsB z64).toArray 23))
        generalize w1.drew.alloc (.cells (cellsB z64).toArray 23) = v1 at hg s ⊢
        obtain ⟨g, hge⟩ : ∃ g, g = w1.drew.heap.size := ⟨_, rfl⟩
        rw [← hge] at hg ⊢
        have hbg : w1.heap.size ≤ g := by omega
        clear hge hsz
        replace hst := hst.trans s
        clear s
        refine Shut.out hK _ _ hst (fun _ => ?_)
        clear hK
        refine wpAnyH_listedL #[true, true, false, false, false, false, false, true, false, false] (by kernel_rfl) ?_
        conv => arg 8; simp [Act.put]
        refine wpAnyH_ready (rs := [2]) (by kernel_rfl) (by simp) ?_
        refine AllReadyH.cons (o := _) rfl (fun K hK => ?_) ?_
        · go_simp
          go_wp2_with (go_at_call 9; refine (give_any v1 _ L (HV.out.stay0 hst) (by omega) HMX.out).mono ?_; rintro e v2 ⟨⟨x5, rfl, L5, hL5, hv5⟩, s⟩; obtain ⟨a5, c5, rfl⟩ := hv5.form; have HL5 := Lib.hid hL5; have HV5 := Lib.hid hv5; clear hL5 hv5)
          replace hg := hg.stay0 s
          replace hst := hst.trans s
          clear s
          refine Shut.out hK _ _ hst (fun _ => ?_)
          clear hK
          refine wpAnyH_listedL #[true, true, true, false, false, false, false, true, false, false] (by kernel_rfl) ?_
          conv => arg 8; simp [Act.put]
          refine wpAnyH_ready (rs := [3]) (by kernel_rfl) (by simp) ?_
          refine AllReadyH.cons (o := _) rfl (fun K hK => ?_) ?_
          · go_simp
            go_wp2_with (go_at_call 8; refine (apply_any v2 a _ L5 HA.out HV5.out).mono ?_; rintro e v3 ⟨rfl, s⟩; rw [HL5.out, ← HRB.out, ← HEV.out])
            replace hg := hg.stay0 s
            replace HV5 := Lib.hid (HV5.out.stay0 s)
            replace hst := hst.trans s
            clear s
            refine Shut.out hK _ _ hst (fun _ => ?_)
            clear hK
            refine wpAnyH_listedL #[true, true, true, true, false, false, false, true, false, false] (by kernel_rfl) ?_
            conv => arg 8; simp [Act.put]
            refine wpAnyH_takeL (i := 4) (v := .tuple #[arrV rb, ev]) #[true, true, true, true, true, false, false, true, false, false] rfl (by kernel_rfl) (by kernel_rfl) (by kernel_rfl) (fun _ _ _ h => by obtain ⟨_, _, h, _⟩ := h; cases h) (by kernel_rfl) hst (Or.inl ⟨by rfl, fun W hW => ?_⟩) ?_
            · go_simp
            conv => arg 8; simp [Act.put]
            refine wpAnyH_takeL (i := 5) (v := arrV rb) #[true, true, true, true, true, true, false, true, false, false] rfl (by kernel_rfl) (by kernel_rfl) (by kernel_rfl) (fun _ _ _ h => by obtain ⟨_, _, h, _⟩ := h; cases h) (by kernel_rfl) hst (Or.inl ⟨by rfl, fun W hW => ?_⟩) ?_
            · go_simp
            conv => arg 8; simp [Act.put]
            refine wpAnyH_takeL (i := 6) (v := ev) #[true, true, true, true, true, true, true, true, false, false] rfl (by kernel_rfl) (by kernel_rfl) (by kernel_rfl) (fun _ _ _ h => by obtain ⟨_, _, h, _⟩ := h; cases h) (by kernel_rfl) hst (Or.inl ⟨by rfl, fun W hW => ?_⟩) ?_
            · go_simp
            conv => arg 8; simp [Act.put]
            refine wpAnyH_one #[true, true, true, true, true, true, true, true, true, false] (i := 8) rfl (by kernel_rfl) (by kernel_rfl) (fun K hK => ?_)
            refine step_store_blk rfl (.tmp 5) (.tmp 18) rfl g rfl z64 rb len_z64 HRL.out rfl hg ?_
            intro wz hz s
            replace hst : Stay (fun _ => False) w1 wz := stay_seal (X := fun k => k = g) ((hst.mono (fun _ x => x.elim)).trans s) (fun k e => by have e' : k = g := e; omega)
            clear s hg
            have hg := hz
            clear hz
            refine hK _ _ hst ?_
            clear hK
            conv => arg 8; simp [Act.put]
            refine wpAnyH_takeL (i := 9) (v := ev) #[true, true, true, true, true, true, true, true, true, true] rfl (by kernel_rfl) (by kernel_rfl) (by kernel_rfl) (fun _ _ _ h => by obtain ⟨_, _, h, _⟩ := h; cases h) (by kernel_rfl) hst (Or.inl ⟨by rfl, fun W hW => ?_⟩) ?_
            · go_simp
            conv => arg 8; simp [Act.put]
            refine wpAnyH_done (by kernel_rfl) ?_ _
            exact ⟨g, _, rfl, rfl, hg, hst⟩
          exact AllReadyH.nil
        exact AllReadyH.nil
      exact AllReadyH.nil
    case next =>
      rintro e a' W rfl g x16 rfl hgb hst
      have HGB := Lib.hid hgb
      have HS := Lib.hid (HS0.out.trans hst)
      have K0 := Lib.hid (H0.out.stay0 hst)
      have HVW := Lib.hid (HV.out.stay0 hst)
      clear hgb hst W1
      go_wp2_with (refine arr_64.load rfl (.tmp 2) rfl w.heap.size rfl a HA.out K0.out ?_)
      refine (rapply_any W a _ L HA.out HVW.out HMX.out).mono ?_
      rintro e w5 ⟨rfl, hs5⟩
      obtain ⟨ec, hec⟩ : ∃ ec, ec = resE (applyN a (L.map Po.p) []) := ⟨_, rfl⟩
      rw [← HRB.out, ← hec]
      have hev : ev = errV ec := by rw [HEV.out, hec]
      have HEC := Lib.hid hev
      have HGB5 := Lib.hid (HGB.out.stay0 hs5)
      have HS5 := Lib.hid (HS.out.trans hs5)
      have hz5 := HS5.out.size
      have hq := BAt.new w5 23 z64
      have hs6 : Stay (fun _ => False) w5 (w5.alloc (.cells (cellsB z64).toArray 23)) := Stay.alloc _ _
      obtain ⟨w6, hw6⟩ : ∃ w6, w5.alloc (.cells (cellsB z64).toArray 23) = w6 := ⟨_, rfl⟩
      rw [hw6] at hq hs6
      have HQ := Lib.hid hq
      have HGB6 := Lib.hid (HGB5.out.stay0 hs6)
      have HS6 := Lib.hid (HS5.out.trans hs6)
      have hglt := HGB5.out.lt
      have W6 := Lib.hid hw6
      have keq := fun W => eq_blk W rb rb HRL.out HRL.out
      rw [beq_self_eq_true] at keq
      unfold arrV at keq
      have hev := HEC.out
      clear hec hs5 hq hs6 hw6
      subst hev
      unfold arrV
      go_wp2_with (first
        | (with_reducible refine arr_64.alloc rfl rfl ?_; rw [show List.replicate 64 0 = z64 from rfl, W6.out])
        | (refine arr_64.store rfl (.tmp 7) (.tmp 24) rfl w5.heap.size rfl z64 rb rfl len_z64 HRL.out HQ.out ?_
           intro w7 h7 s7
           have HS7 := Lib.hid ((HS6.out.mono (Y := fun j => w.heap.size ≤ j) (fun _ x => x.elim)).trans (s7.mono (fun j e => by have e' : j = w5.heap.size := e; omega)))
           have HLD := Lib.hid (arr_64.run_load HRL.out h7)
           have HLD2 := Lib.hid (arr_64.run_load HRL.out (HGB6.out.stay s7 (fun e => by have e' : g = w5.heap.size := e; omega)))
           have HGE := Lib.hid (ErrCell.stay0 HG.out (stay_seal HS7.out (fun j hj => hj)))
           clear h7 s7)
        | (refine wpList_load_run rfl 23 (.tmp 7) rfl ⟨w5.heap.size, 0, none⟩ rfl _ HLD.out ?_; unfold arrV)
        | (refine wpList_load_run rfl 23 (.tmp 5) rfl ⟨g, 0, none⟩ rfl _ HLD2.out ?_; unfold arrV))
      refine (num_res ec w7 HGE.out).mono ?_
      rintro e w8 ⟨rfl, hs8⟩
      have HS8 := Lib.hid ((stay_seal HS7.out (fun j hj => hj)).trans hs8)
      have heq : ((ec : Int) == (ec : Int)) = true := beq_self_eq_true _
      clear hs8
      go_wp2_with fail
      refine (sure_any w8).mono ?_
      rintro e w9 ⟨rfl, hs9⟩
      go_wp2
      go_ret
      exact ⟨rfl, HS8.out.trans hs9⟩
end Go.Proofs.YtnlknnhibnfhcaaDoor.De

/-
  delta's laws: their arguments opened: blocks.
-/
namespace Go.Proofs.YtnlknnhibnfhcaaDoor
open Go.ChangeShapes Go.WideShapes Go.ChangeAt Go.RowKit Go.Deep Pk
set_option maxRecDepth 100000

theorem De.i64_wf {x : Int} (h : (Lit.int .i64 x).wf = true) : -9223372036854775808 ≤ x ∧ x ≤ 9223372036854775807 := by
  have e1 : IntKind.i64.min = -9223372036854775808 := by decide
  have e2 : IntKind.i64.max = 9223372036854775807 := by decide
  simp only [Lit.wf, e1, e2, Bool.and_eq_true, decide_eq_true_eq] at h
  exact h
theorem cells_b64 : Tryd.prog.cellsOf 23 = 64 := by kernel_rfl
section
variable {H : Type} {enc : TypeId × Value → H}
theorem open_blk {w : World} {base b0 : Nat} {r : Reach} {v : Value} {d : DataW H} {p : List MemPlace} (hv : Value.okWide Tryd.prog w r b0 23 v) (h : DataW.Trod enc Tryd.prog w base (fun _ => true) true 23 v d p) :
    ∃ l : List UInt8, l.length = 64 ∧ v = arrV l := by
  obtain ⟨cs, rfl, hsz⟩ : ∃ cs, v = .agg cs ∧ cs.size = Tryd.prog.cellsOf 23 := by
    have := hv
    simp only [Value.okWide, Tryd.underlying23] at this
    obtain ⟨cs, e, hs, _⟩ := this
    exact ⟨cs, e, hs⟩
  rw [cells_b64] at hsz
  obtain ⟨fuel, hf⟩ := h
  obtain ⟨xs, m, _, hx, hl, hxl, hall⟩ := DataW.trod_array Tryd.underlying23 hf
  obtain ⟨B, hB⟩ := choose_lt (α := UInt8) (n := 64) (p := fun i b => cs[i]? = some (byteV b)) (fun i hi => by
    have hi' := hall i hi
    obtain ⟨b, hb⟩ : ∃ b, xs[i]? = some b := ⟨_, List.getElem?_eq_getElem (by omega)⟩
    rw [hb, Pk.cells5, Nat.mul_one] at hi'
    obtain ⟨z, hcz, _, wz⟩ := DataW.trod_int Tryd.underlying5 hi'
    obtain ⟨c, hc⟩ := Pk.byte_of_wf wz
    refine ⟨c, ?_⟩
    have := congrArg (·[0]?) hcz
    rw [← hc]
    simpa [List.getElem?_take, List.getElem?_drop, Value.cells] using this)
  refine ⟨(List.range 64).map B, by simp, ?_⟩
  unfold arrV
  congr 1
  apply Array.ext_getElem?
  intro i
  by_cases hi : i < 64
  · rw [hB i hi]
    simp [cellsB, hi]
  · rw [Array.getElem?_eq_none (by omega), Array.getElem?_eq_none (by simp [cellsB]; omega)]

end
end Go.Proofs.YtnlknnhibnfhcaaDoor

/-
  delta's laws: their arguments opened: parts.
-/
namespace Go.Proofs.YtnlknnhibnfhcaaDoor.De
open Go.ChangeShapes Go.WideShapes Go.ChangeAt Go.RowKit Go.Deep Pk
set_option maxRecDepth 100000

instance : Inhabited Po := ⟨⟨tellP [], .slice none 0 0⟩⟩
theorem cells_i : Tryd.prog.cellsOf 3 = 1 := by kernel_rfl
theorem cells_b : Tryd.prog.cellsOf 4 = 1 := by kernel_rfl
theorem cells_sb : Tryd.prog.cellsOf 25 = 1 := by kernel_rfl
theorem cells_pt : Tryd.prog.cellsOf 60 = 4 := by kernel_rfl
theorem bulk_one {H : Type} (d : DataW H) : 1 ≤ Rows.uptoBulk d := by
  cases d with
  | lit l => cases l <;> simp [Rows.uptoBulk]
  | nil => simp [Rows.uptoBulk]
  | ptr d => simp [Rows.uptoBulk]
  | slice elems spare => simp [Rows.uptoBulk]
  | agg parts => simp [Rows.uptoBulk]
  | iface t d => simp [Rows.uptoBulk]
  | map entries => simp [Rows.uptoBulk]
  | held h => simp [Rows.uptoBulk]
theorem bulk_part {H : Type} {d : DataW H} {l : List (DataW H)} (h : d ∈ l) : Rows.uptoBulk d ≤ Rows.uptoBulkAll l := by
  induction l with
  | nil => cases h
  | cons x r ih =>
    simp only [Rows.uptoBulkAll]
    cases List.mem_cons.1 h with
    | inl e => subst e; omega
    | inr e => have := ih e; omega
theorem bulk_length {H : Type} (l : List (DataW H)) : l.length ≤ Rows.uptoBulkAll l := by
  induction l with
  | nil => simp [Rows.uptoBulkAll]
  | cons x r ih => have := bulk_one x; simp only [Rows.uptoBulkAll, List.length_cons]; omega

theorem weights_each {H : Type} {ts : List TypeId} {ds : List (DataW H)} {n : Nat} (hsz : (DataW.weightsEach Tryd.prog ts ds).all (· ≤ n) = true) {j : Nat} {t : TypeId} {d : DataW H} (ht : ts[j]? = some t) (hd : ds[j]? = some d) : (d.weights Tryd.prog t).all (· ≤ n) = true := by
  induction ts generalizing ds j with
  | nil => simp at ht
  | cons t0 ts ih =>
    cases ds with
    | nil => simp at hd
    | cons d0 ds =>
      rw [DataW.weightsEach, List.all_append, Bool.and_eq_true] at hsz
      cases j with
      | zero =>
        simp at ht hd
        subst ht hd
        exact hsz.1
      | succ j => exact ih hsz.2 (by simpa using ht) (by simpa using hd)
section
variable {H : Type} {enc : TypeId × Value → H}

theorem pt_weights (d0 d1 d2 d3 : DataW H) : (DataW.agg [d0, d1, d2, d3]).weights Tryd.prog 60 = DataW.weightsEach Tryd.prog [4, 3, 3, 25] [d0, d1, d2, d3] := by
  simp only [DataW.weights, Tryd.underlying60]
  rfl

/-- A part that came in: what it is, how long its bytes are, and how much it holds. -/
theorem open_part {w : World} {fuel : Nat} {cs : List Value} {x : DataW H × List MemPlace} (h : DataW.trod enc Tryd.prog w 0 (fun _ => true) true fuel 60 cs = some x) :
    ∃ q : Po, cs = poC q ∧ Slc w q.x q.p.b ∧ I64q q.p ∧ ((x.1.weights Tryd.prog 60).all (· ≤ reachBytes) = true → q.p.b.length ≤ 140737488355328) ∧ q.p.b.length + 1 ≤ Rows.uptoBulk x.1 := by
  obtain ⟨y0, y1, y2, y3, m, rfl, hl, g0, g1, g2, g3⟩ := Go.Joins.trod_struct4 Tryd.underlying60 h
  rw [cells_pt] at hl
  simp only [cells_i, cells_b, cells_sb] at g0 g1 g2 g3
  obtain ⟨v0, v1, v2, v3, rfl⟩ : ∃ v0 v1 v2 v3, cs = [v0, v1, v2, v3] := by
    match cs, hl with
    | [v0, v1, v2, v3], _ => exact ⟨v0, v1, v2, v3, rfl⟩
  simp at g0 g1 g2 g3
  obtain ⟨k, e0, _⟩ := DataW.trod_bool Tryd.underlying4 g0
  obtain ⟨f, e1, _, hf⟩ := DataW.trod_int Tryd.underlying3 g1
  obtain ⟨n, e2, _, hn⟩ := DataW.trod_int Tryd.underlying3 g2
  obtain ⟨a3, l3, c3, rfl⟩ : ∃ a0 l c, v3 = .slice a0 l c := by
    rcases open_slice1 Tryd.underlying25 Pk.cells5 g3 with ⟨h0, _⟩ | ⟨a, len, cap, _, _, _, _, _, h0, _⟩
    · exact ⟨none, 0, 0, by simpa using h0⟩
    · exact ⟨some a, len, cap, by simpa using h0⟩
  obtain ⟨b, rfl, hsl, hd⟩ := open_slc (d := y3.1) (p := y3.2) ⟨m, g3⟩
  have hfr := i64_wf hf
  have hnr := i64_wf hn
  simp at e0 e1 e2
  subst e0
  subst e1
  subst e2
  have hlb : (DataW.agg [y0.1, y1.1, y2.1, y3.1]).weights Tryd.prog 60 |>.all (· ≤ reachBytes) → b.length ≤ 140737488355328 := fun hw => by
    rw [pt_weights] at hw
    exact len_slc hw (j := 3) rfl rfl hd
  refine ⟨⟨⟨k, f, n, b⟩, _⟩, rfl, hsl, ⟨hfr.1, hfr.2, hnr.1, hnr.2⟩, hlb, ?_⟩
  show b.length + 1 ≤ _
  simp only [Rows.uptoBulk, Rows.uptoBulkAll]
  rcases Nat.eq_zero_or_pos b.length with h0 | h0
  · have := bulk_one y3.1
    omega
  · obtain ⟨e, s, he, hel⟩ := hd h0
    have h1 : b.length + 1 ≤ Rows.uptoBulk y3.1 := by
      rw [he]
      simp only [Rows.uptoBulk]
      have := bulk_length e
      omega
    omega

theorem weights_in {e : TypeId} {l : List (DataW H)} {d : DataW H} (hd : d ∈ l) {n : Nat} (h : (DataW.weightsAll Tryd.prog e l).all (· ≤ n) = true) : (d.weights Tryd.prog e).all (· ≤ n) = true := by
  induction l with
  | nil => cases hd
  | cons x r ih =>
    rw [DataW.weightsAll, List.all_append, Bool.and_eq_true] at h
    rcases List.mem_cons.1 hd with rfl | hd
    · exact h.1
    · exact ih hd h.2

/-- Parts that came in. -/
theorem open_parts {w : World} {d : DataW H} {p : List MemPlace} {a0 : Option Addr} {n c : Nat} (h : DataW.Trod enc Tryd.prog w 0 (fun _ => true) true 24 (.slice a0 n c) d p) :
    ∃ L : List Po, n = L.length ∧ PsAt w (.slice a0 n c) L ∧ ((d.weights Tryd.prog 24).all (· ≤ reachBytes) = true → ∀ q ∈ L, q.p.b.length ≤ 140737488355328) ∧ ∀ q ∈ L, q.p.b.length + 1 ≤ Rows.uptoBulk d := by
  obtain ⟨fuel, hf⟩ := h
  have hf' : DataW.trod enc Tryd.prog w 0 (fun _ => true) true fuel 24 [.slice a0 n c] = some (d, p) := hf
  rcases open_slice Tryd.underlying24 hf' with ⟨h0, _⟩ | ⟨a, len, cap, m, q, D, Pl, h0, _, hl, hm, hmm, hd, hx⟩
  · simp at h0
    obtain ⟨rfl, rfl, rfl⟩ := h0
    exact ⟨[], rfl, PsAt.nil _, fun _ t h => by simp at h, fun t h => by simp at h⟩
  · simp at h0
    obtain ⟨rfl, rfl, rfl⟩ := h0
    simp only [if_true] at hmm
    subst hmm
    rw [cells_pt] at hx
    cases hd
    obtain ⟨T, hT⟩ := choose_lt (α := Po) (n := n) (p := fun i t => (Slc w t.x t.p.b ∧ I64q t.p ∧ (((D i).weights Tryd.prog 60).all (· ≤ reachBytes) = true → t.p.b.length ≤ 140737488355328) ∧ t.p.b.length + 1 ≤ Rows.uptoBulk (D i)) ∧ ∀ j v, (poC t)[j]? = some v → w.cell? ((a.add (i * 4)).add j) = some v) (fun i hi => by
      obtain ⟨cs', h1, h2⟩ := hx i (by omega)
      obtain ⟨t, rfl, hok⟩ := open_part h2
      obtain ⟨_, hlen, hc⟩ := World.cells?_some h1
      exact ⟨t, hok, fun j v hv => by
        have hj := (List.getElem?_eq_some_iff.1 hv).1
        rw [hc j (by omega), hv]⟩)
    have hln : ((List.range n).map T).length = n := by simp
    have hget : ∀ i t, ((List.range n).map T)[i]? = some t → i < n ∧ t = T i := by
      intro i t h
      have hi := (List.getElem?_eq_some_iff.1 h).1
      rw [hln] at hi
      simp [hi] at h
      exact ⟨hi, h.symm⟩
    have hall : ∀ t ∈ (List.range n).map T, ∃ i, i < n ∧ t = T i := by
      intro t ht
      obtain ⟨i, hi, rfl⟩ := List.mem_map.1 ht
      exact ⟨i, List.mem_range.1 hi, rfl⟩
    unfold maxLen at hm
    refine ⟨(List.range n).map T, hln.symm, ⟨⟨some a, _, by rw [hln], by rw [hln]; exact hl, by omega, fun h0 => ?_⟩, fun t ht => ?_, fun t ht => ?_⟩, fun hw t ht => ?_, fun t ht => ?_⟩
    · rw [hln] at h0
      have ha : a = ⟨a.block, a.off, none⟩ := by
        have h1 := (hT 0 h0).2 0 _ rfl
        have e0 : (a.add (0 * 4)).add 0 = a := rfl
        rw [e0] at h1
        obtain ⟨b, o, sp⟩ := a
        cases sp with
        | none => rfl
        | some q =>
          have : w.cell? ⟨b, o, some q⟩ = none := by unfold World.cell?; split <;> simp
          rw [this] at h1; cases h1
      refine ⟨a.block, a.off, by rw [← ha], fun i t ht j u hu => ?_⟩
      obtain ⟨hi, rfl⟩ := hget i t ht
      have := (hT i hi).2 j u hu
      rw [ha, add_at, add_at] at this
      exact this
    · obtain ⟨i, hi, rfl⟩ := hall t ht
      exact (hT i hi).1.1
    · obtain ⟨i, hi, rfl⟩ := hall t ht
      exact (hT i hi).1.2.1
    · obtain ⟨i, hi, rfl⟩ := hall t ht
      simp only [DataW.weights, Tryd.underlying24, List.all_cons, List.all_append, Bool.and_eq_true] at hw
      exact (hT i hi).1.2.2.1 (weights_in (List.mem_map_of_mem (f := D) (List.mem_range.2 hi)) hw.2.1)
    · obtain ⟨i, hi, rfl⟩ := hall t ht
      have h1 := (hT i hi).1.2.2.2
      simp only [Rows.uptoBulk]
      have h2 := bulk_part (List.mem_map_of_mem (f := D) (List.mem_range.2 hi))
      omega
end
end Go.Proofs.YtnlknnhibnfhcaaDoor.De

/-
  DeltaApplies answers true for every input, and each argument reads afterwards as it read before; errors.errorType stands as the program's text lays it (the card ties it).
-/
namespace Go.Proofs.YtnlknnhibnfhcaaDoor
open Go.ChangeShapes Go.WideShapes Go.ChangeAt Go.RowKit
set_option maxRecDepth 100000

theorem deltaApplies_lifted (os : Os) (started : os.Started) (H : Type) (enc : TypeId × Value → H) :
    ReturnsInHanded {} Tryd.checked os 4 .any (fun w args => (Rows.deltaAppliesSpec.pre enc Tryd.prog Tryd.f4 [] false w args ∧ laidMetH Tryd.prog Pk.laidErr w) ∧ sizedMet enc Tryd.prog Tryd.f4 (OpenSpec.ofChange Rows.deltaAppliesSpec) false w args)
      (Rows.deltaAppliesSpec.post enc Tryd.prog Tryd.f4 false true false false) := by
  refine returnsInHanded_of_change_and (C := Tryd.checked) (X := fun w _ => laidMetH Tryd.prog Pk.laidErr w) (fun _ _ _ hh h => h.of_heap hh) Tryd.own started (by kernel_rfl) Tryd.func4
    (ChangeSpec.witness_at (enc := enc) (C := Tryd.checked) (os := os) (X := fun w _ => laidMetH Tryd.prog Pk.laidErr w) false (Pk.laidWorld os) #[.agg (cellsB (List.replicate 64 0)).toArray, .slice none 0 0] 8 rfl (by kernel_rfl) (by kernel_rfl) (by kernel_rfl) (by kernel_rfl) (by kernel_rfl) (Pk.laidWorld_met os _)) ?_
  intro W base args ds gs before hval0 hW _ hsz hL _
  have hval : ∀ (j : Nat) t v, Tryd.f4.params[j]? = some t → args[j]? = some v → Value.okWide Tryd.prog W .any base t v := hval0
  have hW' := hW
  obtain ⟨p, q, hA0, hV0, rfl, hfz, hnd⟩ := hW
  have hA : DataW.TrodAll enc Tryd.prog W 0 (fun _ => true) true Tryd.f4.params.toList args.toList ds p := hA0
  have hAk := hA
  have hV : DataW.TrodVars enc Tryd.prog W (fun _ => true) [] gs q := hV0
  rw [Tryd.params4] at hA hval
  obtain ⟨v0, v1, d0, d1, p0, p1, rfl, rfl, rfl, h0, h1⟩ := trodAll_two hA
  obtain ⟨l0, hl0, rfl⟩ := open_blk (hval 0 23 v0 rfl rfl) h0
  obtain ⟨a1, m1, c1, rfl⟩ := okWide_slice Tryd.underlying24 (hval 1 24 v1 rfl rfl)
  obtain ⟨L1, rfl, hx1, hm1, hb1⟩ := De.open_parts h1
  have hm1 := hm1 (De.weights_each hsz (j := 1) (by rw [Tryd.params4]; rfl) rfl)
  have hg := Pk.err_of_laid hL
  obtain ⟨rfl, rfl⟩ : gs = [] ∧ q = [] := by
    cases gs with
    | nil => exact ⟨rfl, hV⟩
    | cons g r => exact absurd hV (by intro h; cases h)
  simp only [List.append_nil] at hW' hAk
  refine (De.applies_walk W l0 _ L1 hg hl0 hx1 hm1).mono fun e W' ⟨he, hst⟩ => ?_
  subst he
  exact ⟨_, rfl, law_post Tryd.laidOut hW' hAk (fun t ht => by
      rw [Tryd.params4] at ht
      simp at ht
      rcases ht with rfl | rfl <;> exact ⟨by kernel_rfl, of_decide_eq_true (by kernel_rfl)⟩) rfl rfl rfl rfl (by kernel_rfl) Tryd.underlying4 (hst.toBelow (Nat.le_refl _) (fun _ x => x.elim))⟩

theorem deltaApplies_row : Rows.DeltaAppliesSaid :=
  OpenClaim.holds_of_wide 4 Tryd.f4 rfl rfl rfl rfl rfl rfl rfl ⟨rfl, rfl, rfl, rfl, rfl⟩ rfl rfl rfl rfl rfl (by kernel_rfl) Tryd.func4 (by kernel_rfl)
    (of_decide_eq_true (by kernel_rfl)) (by unfold Func.isWrapper; rw [if_neg (of_decide_eq_false (by kernel_rfl))]; exact ⟨rfl, rfl⟩)
    (fun os started H enc _ => deltaApplies_lifted os started H enc)

theorem deltaApplies_holds : Rows.DeltaAppliesCardSaid :=
  Claim7.holds_tied_plain_at .later [] [.handle] true _ true
    deltaApplies_row (fun _ h => by cases h) (by kernel_rfl) (fun _ h => by cases h) deltaApplies_row_tie rfl ⟨rfl, rfl⟩ (by kernel_rfl) rfl
    (fun f fn hf hfn => by
      obtain rfl : f = 4 := Option.some.inj ((show Tryd.prog.funcNamed "drydock/drydocklaw10.DeltaApplies" = some 4 by kernel_rfl).symm.trans hf) |>.symm
      obtain rfl : fn = Tryd.f4 := (Option.some.inj (Tryd.func4.symm.trans hfn)).symm
      exact ⟨by kernel_rfl, fun j t ht => by
        rw [Tryd.params4] at ht
        have h3 : t = 23 ∨ t = 24 := by
          rcases j with _ | _ | j
          · exact .inl (by simpa using ht.symm)
          · exact .inr (by simpa using ht.symm)
          · simp at ht
        rcases h3 with rfl | rfl
        · exact (show Tryd.prog.wantsStandIn 23 = false by kernel_rfl)
        · exact (show Tryd.prog.wantsStandIn 24 = false by kernel_rfl)⟩)
    (by kernel_rfl)

end Go.Proofs.YtnlknnhibnfhcaaDoor

