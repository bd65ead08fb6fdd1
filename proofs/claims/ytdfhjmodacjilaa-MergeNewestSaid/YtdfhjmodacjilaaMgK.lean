/-
  merge: New.
-/
import Derived.Test.YtdfhjmodacjilaaMgJ
import Derived.Test.YtdfhjmodacjilaaMeE
namespace Go.Proofs.Ytdfhjmodacjilaa.Mg
open Go.RowKit Go.Maps Me
set_option maxRecDepth 100000
set_option linter.unusedVariables false

/-- An error by its number, as the walk shows it. -/
def errO (c : Nat) : Value := if c = 0 then .nilIface else .iface 47 (.int .i64 (c : Int))
theorem EnO.ent {base : Nat} {w : World} {v : Value} {L : List En} (h : EnO base w v L) : EnT w v L := by
  refine ⟨h.ens, fun k hk => ?_⟩
  rcases h.2 with ⟨e, _⟩ | ⟨g', cap, cur, e, h4, hg, _⟩
  · rw [e] at hk; cases hk
  · rw [e] at hk
    have hk' : g' = k := Option.some.inj hk
    subst hk'
    exact ⟨_, _, hg⟩

/-- A call of a function, as one step of a region, by its contract. -/
theorem step_call {P : Program} {ops : Array Oper} {o : Oper} {a : Act} {w : World} {K : Act → World → Prop} {Q : Exit → Act → World → Prop} {E : Prop} (hgd : o.guard = none) (f : FuncId) (xs : Array Operand) (ts : Array TypeId)
    (ho : o.op = .call { callee := .value (.func f), args := xs, argTypes := ts }) (vals : Array Value) (hv : xs.map a.eval = vals) (hf : (callFunc f vals).run P w = .ok (.enter f vals) w) (hc : Calls P f vals w fun e w' => ∃ v, e = .returned v ∧ K (a.put o.dst v) w') :
    if Region.wanted o (yielded ops a.tmps) = true then Oper.wp P o a w K Q else E := by
  have hw : Region.wanted o (yielded ops a.tmps) = true := by simp [Region.wanted, hgd]
  rw [if_pos hw]
  unfold Oper.wp
  have hrun : (execOp a.eval o).run P w = .ok (.enter f vals) w := by
    unfold execOp
    simp [ho, resolve, invoke, hv, Act.eval, Deferred.ofValue, hf]
  rw [hrun, Oper.upon_enter]
  refine hc.mono ?_
  rintro e w' ⟨v, rfl, hk⟩
  exact hk

set_option maxHeartbeats 1200000 in
theorem new_any (w : World) (x : Value) (Ls : List (List En)) (hx : ESs w x Ls) (hlen : Ls.length ≤ 1000) (hsz : ∀ L ∈ Ls, L.length ≤ 1000) :
    Calls Try.prog 11 #[x] w fun e w' => Stay (fun _ => False) w w' ∧ ((∃ r, (∀ L ∈ Ls, Sorted L) ∧ e = .returned (.tuple #[.pointer (some ⟨r, 0, none⟩), .nilIface]) ∧ RdS (fun k => w.heap.size ≤ k) w' r (allN Ls) Ls.length) ∨
      ((¬ ∀ L ∈ Ls, Sorted L) ∧ e = .returned (.tuple #[.pointer none, .iface 47 (.int .i64 41)]))) := by
  have HX := Lib.hid hx
  obtain ⟨a0, c, rfl⟩ := hx.form
  have hlc : (Ls.length : Int) ≤ 1000 := by omega
  have HLEN := Lib.hid hlen
  have HSZ := Lib.hid hsz
  clear hx hlen hsz
  go_enter Try.func11, Try.ntmps11
  have HR0 := Lib.hid (show RdAt (fun k => w.heap.size ≤ k) (w.alloc (.cells #[.slice none 0 0] 45)) w.heap.size [] from ⟨⟨_, heap_alloc_new w _, PO.nil _ _, fun k hk => by cases hk⟩, (fun o ho => by cases ho), by simp, Nat.le_refl _⟩)
  have HA := Lib.hid (show Stay (fun _ => False) w (w.alloc (.cells #[.slice none 0 0] 45)) from Stay.alloc _ _)
  obtain ⟨r, hrr⟩ : ∃ r, r = w.heap.size := ⟨_, rfl⟩
  have HRR := Lib.hid hrr
  go_wp2
  rw [← hrr] at HR0 ⊢
  generalize w.alloc (.cells #[.slice none 0 0] 45) = w0 at *
  clear hrr
  go_loopw [11] (fun t wr => ∃ (j : Nat) (H : List Od), t = .int .i64 (j : Int) ∧ j ≤ Ls.length ∧ Hid (∀ L ∈ Ls.take j, Sorted L) ∧ Hid (Sofar Ls j H) ∧ Hid (RdAt (fun k => r ≤ k) wr r H) ∧ Hid (Stay (fun _ => False) w wr)) (fun t _ => Ls.length - (intOf t).toNat)
  case atStart => exact ⟨0, [], rfl, Nat.zero_le _, Lib.hid (by simp), Lib.hid (Sofar.zero Ls), HR0, HA⟩
  case round =>
    obtain ⟨j, H, rfl, hj, HSO, HSF, HR, HS⟩ := hrel
    by_cases hlt : j < Ls.length
    · obtain ⟨L, hL⟩ : ∃ L, Ls[j]? = some L := ⟨_, List.getElem?_eq_getElem hlt⟩
      have HXR := Lib.hid (HX.out.stay0 HS.out)
      obtain ⟨g, o, v, rfl, cv, hv⟩ := HXR.out.at hL
      have HV := Lib.hid hv
      have HL := Lib.hid hL
      have HLS := Lib.hid (HSZ.out L (List.mem_of_getElem? hL))
      have HASC := Lib.hid (asc_any wr v L hv (by have := HLS.out; omega))
      obtain ⟨va, vc, rfl⟩ := hv.form
      clear hv hL
      by_cases hs : Sorted L
      · have HSL := Lib.hid hs
        by_cases hL0 : L.length = 0
        · have HL0 := Lib.hid (show L = [] from List.eq_nil_of_length_eq_zero hL0)
          rw [hL0] at HASC
          have hdec := decide_eq_true hs
          clear hs
          go_wp2_with fail
          refine HASC.out.mono ?_
          rintro e w1 ⟨rfl, hs1⟩
          rw [hdec]
          have HS1 := Lib.hid hs1
          clear hs1
          go_wp2
          refine ⟨⟨j + 1, H, by go_num, hlt, Lib.hid (fun q hq => ?_), Lib.hid (HSF.out.skip (by rw [← HL0.out]; exact HL.out)), Lib.hid (HR.out.stay0 HS1.out), Lib.hid (HS.out.trans HS1.out)⟩, by simp [intOf]; omega⟩
          rw [List.take_add_one, HL.out] at hq
          rcases List.mem_append.1 hq with hq | hq
          · exact HSO.out q hq
          · simp at hq; rw [hq]; exact HSL.out
        · have hL0I : (0 : Int) < (L.length : Int) := by omega
          have hL0N : 0 < L.length := by omega
          have hdec := decide_eq_true hs
          clear hs
          go_wp2_with fail
          refine HASC.out.mono ?_
          rintro e w1 ⟨rfl, hs1⟩
          rw [hdec]
          have HS1 := Lib.hid hs1
          obtain ⟨v1, hr1, hP1, _⟩ := (HR.out.stay0 hs1).ex
          obtain ⟨a1, c1, rfl⟩ := hP1.form
          have d0 : w1.cell? ⟨r, 0, none⟩ = some (.slice a1 H.length c1) := by rw [cell_of_row w1 r 0 _ _ _ hr1]; rfl
          have f0 := frozen_of_row w1 r 0 _ _ hr1
          have HP1 := Lib.hid hP1
          have HR1 := Lib.hid hr1
          have HCL := Lib.hid (fun W (hs : Stay (fun _ => False) w1 W) => clone_en W _ L (HV.out.stay0 (HS1.out.trans hs)) (by have := HLS.out; omega))
          have hrl := (Array.getElem?_eq_some_iff.1 hr1).1
          clear hs1 hP1 hr1 hdec
          go_wp2
          have hrn : ∀ W : World, w1.heap.size ≤ W.heap.size → r < W.heap.size ∧ ¬ r = W.heap.size ∧ ¬ r = W.heap.size + 1 := fun W h => by omega
          have HSW1 := Lib.hid (show Stay (fun _ => False) w w1 from HS.out.trans HS1.out)
          have HRD1 := Lib.hid (show RdAt (fun k => r ≤ k) w1 r H from HR.out.stay0 HS1.out)
          go_region_law (first
            | (refine step_call rfl 15 #[.tmp 28] #[25] rfl #[.slice va L.length vc] (by simp [Act.eval, Act.put]) (by kernel_rfl) ((HCL.out _ Stay.drew).mono ?_); rintro e w2 ⟨v2, rfl, ho2, hs2⟩; refine ⟨v2, rfl, ?_⟩; have d2 := (Stay.drew.trans hs2).cell d0 (fun x => x); have HO2 := Lib.hid ho2; have HS2 := Lib.hid (Stay.drew.trans hs2); obtain ⟨hr2, hr3, hr4⟩ := hrn w2 HS2.out.size; obtain ⟨a2, c2, rfl⟩ := ho2.form; clear hs2 ho2)
            | (refine step_append_po rfl (.tmp 27) (.tmp 33) 43 rfl Try.underlying43 (w2.heap.size + 1) 0 1 (Od.mk w2.heap.size (.slice a2 L.length c2) j L) (by simp [Act.eval]) (by simp [Act.eval]) (((HP1.out.stay0 HS2.out).stay0 (Stay.alloc _ _)).stay0 (Stay.alloc _ _)) (by simp) (by have := HSF.out.len; have := HLEN.out; omega) (by simp) ?_; intro v4 w4 hown4 hs4 hb4; have HS4 := Lib.hid hs4; have HO4 := Lib.hid hown4; have HB4 := Lib.hid hb4; have HS14 := Lib.hid (((HS2.out.mono (fun _ x => x.elim)).trans ((Stay.alloc _ _).trans (Stay.alloc _ _))).trans hs4); have hr4 := (HS14.out.block r hrl (fun hk => by obtain ⟨cs, fr, hg⟩ := HP1.out.tyb _ hk; exact ne_ty HR1.out hg (by decide) rfl)).trans HR1.out; have d4 : w4.cell? ⟨r, 0, none⟩ = some (.slice a1 H.length c1) := (cell_of_row w4 r 0 _ _ _ hr4).trans rfl; have f4 := frozen_of_row w4 r 0 _ _ hr4; obtain ⟨b4, c4, rfl⟩ := hown4.form; clear hown4 hs4 hb4 hr4))
          all_goals
            have hE : Value.slice b4 (H.length + 1) c4 = Value.slice b4 (H ++ [(Od.mk w2.heap.size (.slice a2 L.length c2) j L)]).length c4 := by rw [List.length_append, List.length_singleton]
            rw [hE]
            have hst3 : Stay (fun _ => False) w1 ((w2.alloc (.cells #[.slice a2 L.length c2, .int .i64 (j : Int)] 50)).alloc (.cells #[.pointer (some ⟨w2.heap.size, 0, none⟩)] 48)) := HS2.out.trans ((Stay.alloc _ _).trans (Stay.alloc _ _))
            have hod : OdAt ((w2.alloc (.cells #[.slice a2 L.length c2, .int .i64 (j : Int)] 50)).alloc (.cells #[.pointer (some ⟨w2.heap.size, 0, none⟩)] 48)) (Od.mk w2.heap.size (.slice a2 L.length c2) j L) := ⟨by
              show ((w2.alloc (.cells #[.slice a2 L.length c2, .int .i64 (j : Int)] 50)).alloc (.cells #[.pointer (some ⟨w2.heap.size, 0, none⟩)] 48)).heap[w2.heap.size]? = _
              rw [(Stay.alloc (X := fun _ => False) _ _).block w2.heap.size (by simp) (fun x => x)]
              exact heap_alloc_new w2 _, (Mg.EnO.ent HO2.out).stay ((Stay.alloc (X := fun _ => False) _ _).trans (Stay.alloc _ _)) (fun _ _ x => x)⟩
            have hsz1 : w1.heap.size ≤ w2.heap.size := HS2.out.size
            obtain ⟨k1, k2⟩ := (HRD1.out.stay0 hst3).reset ((hst3.block r hrl (fun x => x)).trans HR1.out) (HP1.out.stay0 hst3) (fun k hk => by have h1 := (HP1.out.lt k hk).2; obtain ⟨v9, h2, h3, h4⟩ := HRD1.out.ex; rw [HR1.out] at h2; cases h2; exact h4 k hk) HS4.out HO4.out (HB4.out.imp (fun e => e) (fun e k hk => by rw [e] at hk; simp at hk; simp; omega)) (fun q hq => by
              rcases List.mem_append.1 hq with hq | hq
              · exact (HRD1.out.stay0 hst3).od q hq
              · rw [List.mem_singleton.1 hq]; exact ⟨hod, by show r ≤ w2.heap.size; omega, fun h => hL0 (by rw [show L = [] from h]; rfl), fun k hk => by have h1 := (HO2.out.lt k hk).1; show r ≤ k; have h2 : w1.drew.heap.size = w1.heap.size := rfl; omega⟩) (by
              rw [List.map_append, List.nodup_append]
              refine ⟨HRD1.out.nd, by simp, fun a ha b hb' => ?_⟩
              obtain ⟨q, hq, rfl⟩ := List.mem_map.1 ha
              simp at hb'
              have h1 := (HRD1.out.od q hq).1.lt
              omega)
            have hk1 := k1.mono (A' := fun k => r ≤ k) (fun k _ hk => by
              rcases hk with hk | hk
              · exact hk
              · have h1 : w2.heap.size ≤ k := Nat.le_trans (by simp; omega) hk
                omega)
            have hk2 := stay_seal (((HSW1.out.trans hst3).mono (Y := fun k => r ≤ k) (fun _ x => x.elim)).trans k2) (fun k hk => by rw [← HRR.out]; exact hk)
            clear k1 k2 hst3 hod hrn
            rw [← hE] at hk1 hk2 ⊢
            have HK1 := Lib.hid hk1
            have HK2 := Lib.hid hk2
            clear hk1 hk2 d4 f4 hE d2
            go_wp2
            refine ⟨⟨j + 1, H ++ [Od.mk w2.heap.size (.slice a2 L.length c2) j L], by go_num, hlt, Lib.hid (fun q hq => ?_), Lib.hid (HSF.out.put HL.out rfl rfl (fun h => hL0 (by rw [h]; rfl)) HSL.out), HK1, HK2⟩, by simp [intOf]; omega⟩
            rw [List.take_add_one, HL.out] at hq
            rcases List.mem_append.1 hq with hq | hq
            · exact HSO.out q hq
            · simp at hq; rw [hq]; exact HSL.out
      · have hdec := decide_eq_false hs
        have HNS := Lib.hid (show ¬ ∀ L ∈ Ls, Sorted L from fun h => hs (h L (List.mem_of_getElem? HL.out)))
        clear hs
        go_wp2_with fail
        refine HASC.out.mono ?_
        rintro e w1 ⟨rfl, hs1⟩
        rw [hdec]
        have HS1 := Lib.hid hs1
        clear hs1
        go_wp2
        refine bodyPost_ret (v := .tuple #[.pointer none, .iface 47 (.int .i64 41)]) (by simp [results, Try.results11]) rfl ?_
        exact ⟨HS.out.trans HS1.out, .inr ⟨HNS.out, rfl⟩⟩
    · obtain rfl : j = Ls.length := by omega
      have HALL := Lib.hid (show ∀ L ∈ Ls, Sorted L from by have h1 := HSO.out; rwa [List.take_length] at h1)
      have HIN := Lib.hid (init_any (fun k => r ≤ k) wr r H HR.out (by have := HSF.out.len; have := HLEN.out; omega))
      unfold hv at HIN
      go_wp2_with fail
      refine HIN.out.mono ?_
      rintro e w1 ⟨H', rfl, hr', hp', hf', hs'⟩
      have HR' := Lib.hid hr'
      have HP' := Lib.hid hp'
      have HF' := Lib.hid hf'
      have HS' := Lib.hid hs'
      clear hr' hp' hf' hs'
      go_wp2
      refine bodyPost_ret (v := .tuple #[.pointer (some ⟨r, 0, none⟩), .nilIface]) (by simp [results, Try.results11]) rfl ?_
      refine ⟨?_, .inl ⟨r, HALL.out, rfl, ⟨H', HR'.out.mono (fun k _ hk => by rw [← HRR.out]; exact hk), HF'.out, HSF.out.g.perm HP'.out, ?_, ?_⟩⟩⟩
      · exact stay_seal ((HS.out.mono (Y := fun k => r ≤ k) (fun _ x => x.elim)).trans HS'.out) (fun k hk => by rw [← HRR.out]; exact hk)
      · rw [has_perm HP'.out]
        have h1 : hasO H = hasL 0 Ls := by
          funext n x
          have := HSF.out.h n x
          rw [List.take_length] at this
          exact propext this
        rw [h1]
        exact allN_tells Ls 0 HALL.out
      · rw [HP'.out.length_eq]
        exact HSF.out.len
end Go.Proofs.Ytdfhjmodacjilaa.Mg
