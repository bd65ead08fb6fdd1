/-
  index: a view.
-/
import Derived.Test.YtljlfdhjolcnaaaGreatIxTz
namespace Go.Proofs.YtljlfdhjolcnaaaGreat.Ix
open Go.RowKit Go.Maps Me Mg
set_option maxRecDepth 100000
set_option linter.unusedVariables false
set_option linter.unnecessarySimpa false

/-- Several tables held. -/
def Im.holds (I : Im) (ss : List Nat) : Im := ss.foldl Im.hold I
theorem holds_snoc (I : Im) (ss : List Nat) (s : Nat) : I.holds (ss ++ [s]) = (I.holds ss).hold s := by unfold Im.holds; rw [List.foldl_append]; rfl
theorem holds_same : ∀ (ss : List Nat) (I : Im), (I.holds ss).T = I.T ∧ (I.holds ss).LS = I.LS ∧ (I.holds ss).A = I.A ∧ (I.holds ss).g = I.g ∧ (I.holds ss).m = I.m ∧ (I.holds ss).f = I.f ∧ (I.holds ss).p = I.p ∧ (I.holds ss).q = I.q ∧ (I.holds ss).mg = I.mg
  | [], I => ⟨rfl, rfl, rfl, rfl, rfl, rfl, rfl, rfl, rfl⟩
  | s :: r, I => holds_same r (I.hold s)
theorem holds_hc : ∀ (ss : List Nat) (I : Im) (k : Nat), (I.holds ss).hc k = I.hc k + ss.count k
  | [], I, k => rfl
  | s :: r, I, k => by
    rw [show (I.holds (s :: r)).hc k = ((I.hold s).holds r).hc k from rfl, holds_hc r (I.hold s) k, List.count_cons]
    show (if k = s then I.hc k + 1 else I.hc k) + r.count k = _
    by_cases h : k = s
    · rw [if_pos h, if_pos (by simp [h])]
      omega
    · rw [if_neg h, if_neg (by simpa using fun e => h e.symm)]
      omega
theorem holds_hd : ∀ (ss : List Nat) (I : Im), I.hd ≤ (I.holds ss).hd ∧ (I.holds ss).hd ≤ I.hd + ss.length
  | [], I => ⟨Nat.le_refl _, Nat.le_refl _⟩
  | s :: r, I => by
    obtain ⟨h1, h2⟩ := holds_hd r (I.hold s)
    have h3 : I.hd ≤ (I.hold s).hd ∧ (I.hold s).hd ≤ I.hd + 1 := by
      show I.hd ≤ (if I.hc s = 0 then I.hd + 1 else I.hd) ∧ (if I.hc s = 0 then I.hd + 1 else I.hd) ≤ I.hd + 1
      split <;> omega
    rw [show (I.holds (s :: r)).hd = ((I.hold s).holds r).hd from rfl, List.length_cons]
    omega
/-- What a view has. -/
structure Vw where
  A : List En
  Q : List Sh
/-- A view in memory, all of its own blocks among B. -/
structure VAt (B : Nat → Prop) (w : World) (p : Nat) (V : Vw) : Prop where
  ex : ∃ (av tv : Value), w.heap[p]? = some (.cells #[av, tv] 119 (0, 0)) ∧ ((av = .pointer none ∧ V.A = []) ∨ ∃ a, av = ptrV a ∧ MAt B w a V.A) ∧ CO 0 81 w tv (ptrs (V.Q.map (·.s))) ∧ ∀ k, tv.ownBlock = some k → B k
  bp : B p
  srt : Sorted V.A
  nrm : Nrm V.A
section
variable {B B' X : Nat → Prop} {w w' : World} {p : Nat} {V : Vw}
theorem VAt.lt (h : VAt B w p V) : p < w.heap.size := by
  obtain ⟨av, tv, h1, _⟩ := h.ex
  exact (Array.getElem?_eq_some_iff.1 h1).1
theorem VAt.stay (h : VAt B w p V) (hs : Stay X w w') (hX : ∀ k, B k → ¬ X k) : VAt B w' p V := by
  obtain ⟨av, tv, h1, h2, h3, h4⟩ := h.ex
  refine ⟨⟨av, tv, (hs.block p h.lt (hX p h.bp)).trans h1, h2.imp id (fun ⟨a, e, hm⟩ => ⟨a, e, hm.stay hs hX⟩), h3.stay hs (fun k hk => hX k (h4 k hk)), h4⟩, h.bp, h.srt, h.nrm⟩
/-- Other views turn. -/
theorem VAt.keep (h : VAt B w p V) (hs : Stay X w w') (hX : ∀ k, B k → X k → Ty w k 119 ∧ k ≠ p) : VAt B w' p V := by
  obtain ⟨av, tv, h1, h2, h3, h4⟩ := h.ex
  refine ⟨⟨av, tv, (hs.block p h.lt (fun hx => (hX p h.bp hx).2 rfl)).trans h1, h2.imp id (fun ⟨a, e, hm⟩ => ⟨a, e, ?_⟩), h3.stay hs (fun k hk hx => absurd ((hX k (h4 k hk) hx).1.uniq (h3.ty k hk)) (by decide)), h4⟩, h.bp, h.srt, h.nrm⟩
  obtain ⟨hm1, hm2⟩ := Ix.MAt.own hm
  refine (hm1.stay hs (fun k hk hx => ?_)).mono (fun k _ hk => (hm2 k hk).1)
  obtain ⟨hb, _, ht⟩ := hm2 k hk
  rcases ht with ht | ht
  · exact absurd ((hX k hb hx).1.uniq ht) (by decide)
  · exact absurd ((hX k hb hx).1.uniq ht) (by decide)
theorem VAt.stay0 (h : VAt B w p V) (hs : Stay (fun _ => False) w w') : VAt B w' p V := h.stay hs (fun _ _ x => x)
theorem VAt.mono (h : VAt B w p V) (hB : ∀ k, k < w.heap.size → B k → B' k) : VAt B' w p V := by
  obtain ⟨av, tv, h1, h2, h3, h4⟩ := h.ex
  refine ⟨⟨av, tv, h1, h2.imp id (fun ⟨a, e, hm⟩ => ⟨a, e, ?_⟩), h3, fun k hk => hB k (h3.lt k hk).2 (h4 k hk)⟩, hB p h.lt h.bp, h.srt, h.nrm⟩
  obtain ⟨hm1, hm2⟩ := Ix.MAt.own hm
  exact hm1.mono (fun k _ hk => hB k (hm2 k hk).2.1 (hm2 k hk).1)
theorem VAt.mr (h : VAt B w p V) : ∃ av tv, w.heap[p]? = some (.cells #[av, tv] 119 (0, 0)) ∧ MR w av V.A ∧ CS w tv (ptrs (V.Q.map (·.s))) := by
  obtain ⟨av, tv, h1, h2, h3, h4⟩ := h.ex
  refine ⟨av, tv, h1, ?_, h3.cs⟩
  rcases h2 with ⟨rfl, h2⟩ | ⟨a, rfl, hm⟩
  · rw [h2]
    exact MR.nil w
  · exact hm.mr
theorem IxAt.stk {A : Nat → Prop} {x : Nat} {I : Im} (h : IxAt A w x I) (hv : VAt B w p V) (hq : ∀ q ∈ V.Q, q ∈ I.T) : ∃ av tv, w.heap[p]? = some (.cells #[av, tv] 119 (0, 0)) ∧ Stk I.g w av tv V.A V.Q := by
  obtain ⟨av, tv, h1, h2, h3⟩ := hv.mr
  obtain ⟨B, F, a, v, vs, hB, hF, hl, k1, k2⟩ := h.ex
  exact ⟨av, tv, h1, h2, hv.srt, hv.nrm, h3, fun q hq' => (k1.sh q (hq q hq')).r, fun q hq' => k1.ok q (hq q hq')⟩
end
set_option maxHeartbeats 1000000 in
theorem vall_any (w : World) (p : Nat) (pa ta : Option Addr) (n c : Nat) (h : w.heap[p]? = some (.cells #[.pointer pa, .slice ta n c] 119 (0, 0))) :
    Calls Tryz.prog 61 #[.pointer (some ⟨p, 0, none⟩)] w fun e w' => e = .returned (.agg #[.pointer pa, .slice ta n c]) ∧ Stay (fun _ => False) w w' := by
  have hs0 : Stay (fun _ => False) w (w.alloc (.cells #[.pointer none, .slice none 0 0] 98)) := Stay.alloc _ _
  have h0 := (hs0.block p (Array.getElem?_eq_some_iff.1 h).1 (fun x => x)).trans h
  have d0 : (w.alloc (.cells #[.pointer none, .slice none 0 0] 98)).cell? ⟨p, 0, none⟩ = some (.pointer pa) := by rw [cell_of_row _ p 0 _ _ _ h0]; rfl
  have d1 : (w.alloc (.cells #[.pointer none, .slice none 0 0] 98)).cell? ⟨p, 1, none⟩ = some (.slice ta n c) := by rw [cell_of_row _ p 1 _ _ _ h0]; rfl
  have HS1 := Lib.hid (show Stay (fun _ => False) w (w.alloc (.cells #[.pointer pa, .slice ta n c] 98)) from Stay.alloc _ _)
  have HB1 := Lib.hid (show SBox (w.alloc (.cells #[.pointer pa, .slice ta n c] 98)) w.heap.size (.pointer pa) (.slice ta n c) from heap_alloc_new w _)
  clear h h0 hs0
  go_enter Tryz.func61, Tryz.ntmps61
  go_wp2
  generalize w.alloc (.cells #[.pointer pa, .slice ta n c] 98) = w3 at *
  have hld := HB1.out.load
  refine bodyPost_ret (v := .agg #[.pointer pa, .slice ta n c]) (by simp [results, Tryz.results61, asAddr, hld]) rfl ⟨rfl, HS1.out⟩
theorem vrange_any {A BV : Nat → Prop} (w : World) (x p : Nat) (I : Im) (V : Vw) (a b : List UInt8) (h : IxAt A w x I) (hv : VAt BV w p V) (hq : ∀ q ∈ V.Q, q ∈ I.T) (h1 : V.Q.length ≤ 900) (h2 : sumL (listsS V.A V.Q) ≤ 1000) :
    Calls Tryz.prog 24 #[.pointer (some ⟨p, 0, none⟩), strV a, strV b] w fun e w' => ∃ v, e = .returned v ∧ EnO w.heap.size w' v (askL (listsS V.A V.Q) a b) ∧ Stay (fun _ => False) w w' := by
  obtain ⟨av, tv, hb, hst⟩ := h.stk hv hq
  obtain ⟨ta, tc, rfl⟩ := hst.ps.form
  obtain ⟨pa, rfl⟩ : ∃ pa, av = .pointer pa := by
    obtain ⟨av', tv', hb', hc, _⟩ := hv.ex
    rw [hb] at hb'
    have e : av = av' := by
      simp only [Option.some.injEq, Obj.cells.injEq, Array.mk.injEq, List.cons.injEq] at hb'
      exact hb'.1.1
    rcases hc with ⟨e2, _⟩ | ⟨a, e2, _⟩
    · exact ⟨none, e.trans e2⟩
    · exact ⟨_, e.trans e2⟩
  have HAL := Lib.hid (vall_any w p pa ta _ tc hb)
  have HG := Lib.hid (fun W (hW : Stay (fun _ => False) w W) => range_st W _ _ V.A V.Q a b (hst.stay0 hW) h1 h2)
  clear h hv hq h1 h2 hb hst
  go_enter Tryz.func24, Tryz.ntmps24
  go_wp2_with fail
  refine HAL.out.mono ?_
  rintro e w1 ⟨rfl, hs1⟩
  have HS1 := Lib.hid hs1
  clear hs1 HAL
  go_wp2_with fail
  refine (HG.out _ HS1.out).mono ?_
  rintro e w2 ⟨v2, rfl, ho2, hs2⟩
  have HO2 := Lib.hid ho2
  have HS2 := Lib.hid (HS1.out.trans hs2)
  clear hs2 ho2
  go_wp2
  go_ret
  exact ⟨_, rfl, HO2.out.rebase (fun k hk => Nat.le_trans HS1.out.size (HO2.out.lt k hk).1), HS2.out⟩
end Go.Proofs.YtljlfdhjolcnaaaGreat.Ix
