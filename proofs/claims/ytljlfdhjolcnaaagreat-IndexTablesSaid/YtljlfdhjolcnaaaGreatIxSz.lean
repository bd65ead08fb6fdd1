/-
  index: rows of pointers: Index, Contains, IndexFunc, DeleteFunc.
-/
import Derived.Test.YtljlfdhjolcnaaaGreatIxRz
import Derived.LaidEqlPtr
import Derived.Lib.SliceRun
namespace Go.Proofs.YtljlfdhjolcnaaaGreat.Ix
open Go.RowKit Go.Maps Me Mg
set_option maxRecDepth 100000
set_option linter.unusedVariables false
set_option linter.unnecessarySimpa false

/-- A block of a shared table. -/
def ShB (w : World) (k : Nat) : Prop := ∃ cs, w.heap[k]? = some (.cells cs 111 (0, 0))
theorem ShB.stay {X : Nat → Prop} {w w' : World} {k : Nat} (h : ShB w k) (hs : Stay X w w') (hx : ¬ X k) : ShB w' k := by
  obtain ⟨cs, h⟩ := h
  exact ⟨cs, (hs.block k (Array.getElem?_eq_some_iff.1 h).1 hx).trans h⟩
theorem ShAt.b {G : Prop} {B F : Nat → Prop} {w : World} {x n : Nat} {q : Sh} (h : ShAt G B F w x n q) : ShB w q.s := by
  obtain ⟨t, bv, h1, _⟩ := h
  exact ⟨_, h1⟩
theorem size_sh : (Tryz.prog.info? 111).map (·.size) = some 4 := by kernel_rfl
theorem eql_p {w : World} {s q : Nat} (h : ShB w s) (h' : ShB w q) : (binOp .eql 81 (.pointer (some ⟨s, 0, none⟩)) (.pointer (some ⟨q, 0, none⟩))).run Tryz.prog w = .ok (.bool (decide (s = q))) w := by
  obtain ⟨i, hi, hz⟩ := Option.map_eq_some_iff.1 size_sh
  by_cases hsq : s = q
  · subst hsq
    rw [decide_eq_true rfl]
    exact run_eql_ptr_same w _ Tryz.underlying81 hi
  · obtain ⟨c1, h1⟩ := h
    obtain ⟨c2, h2⟩ := h'
    rw [decide_eq_false hsq]
    exact run_eql_ptr_other w Tryz.underlying81 hi (by rw [hz]; decide) (fun e => hsq (by cases e; rfl)) h1 h2
set_option maxHeartbeats 1200000 in
theorem index_p (w : World) (iv : Value) (Q : List Nat) (s : Nat) (h : CS w iv (ptrs Q)) (hn : Q.length ≤ 1000000) (hs : ShB w s) (hq : ∀ q ∈ Q, ShB w q) :
    Calls Tryz.prog 148 #[iv, .pointer (some ⟨s, 0, none⟩)] w fun e w' => ∃ r, e = .returned (.int .i64 (outI r)) ∧ FirstI Q.length (fun i => Q[i]? == some s) r ∧ Stay (fun _ => False) w w' := by
  have HH := Lib.hid h
  obtain ⟨a, c, rfl⟩ := h.form
  rw [len_ptrs] at HH ⊢
  have hni : (Q.length : Int) ≤ 1000000 := by omega
  have HS := Lib.hid hs
  have HQB := Lib.hid hq
  clear h hn hs hq
  go_enter Tryz.func148, Tryz.ntmps148
  go_wp2_with fail
  go_loopw [8] (fun i wr => ∃ j : Nat, i = .int .i64 (j : Int) ∧ j ≤ Q.length ∧ Hid (∀ i, i < j → (Q[i]? == some s) = false) ∧ w = wr) (fun i _ => Q.length - (intOf i).toNat)
  case atStart => exact ⟨0, rfl, Nat.zero_le _, Lib.hid (fun i h => by omega), rfl⟩
  case round =>
    obtain ⟨j, rfl, hj, HF, rfl⟩ := hrel
    by_cases hlt : j < Q.length
    · obtain ⟨q, hq⟩ : ∃ q, Q[j]? = some q := ⟨_, List.getElem?_eq_getElem hlt⟩
      obtain ⟨g, o, rfl, _, hc⟩ := HH.out.at (by rw [len_ptrs]; omega)
      have cq := hc j _ (at_ptrs hq)
      unfold ptrV at cq
      have HQ := Lib.hid hq
      clear hc hq
      have heq := eql_p HS.out (HQB.out q (List.mem_of_getElem? HQ.out))
      obtain ⟨d, hd⟩ : ∃ d, decide (s = q) = d := ⟨_, rfl⟩
      rw [hd] at heq
      have HD := Lib.hid hd
      clear hd
      cases d with
      | true =>
        go_wp2
        go_ret
        exact ⟨some j, rfl, ⟨hlt, by show (Q[j]? == some s) = true; rw [HQ.out, of_decide_eq_true HD.out]; simp, HF.out⟩, Stay.refl _ _⟩
      | false =>
        go_wp2
        exact ⟨⟨j + 1, by go_num, hlt, Lib.hid (fun i hi => by
          by_cases h : i = j
          · subst h
            rw [HQ.out, beq_eq_false_iff_ne]
            intro e
            cases e
            exact absurd rfl (of_decide_eq_false HD.out)
          · exact HF.out i (by omega)), trivial⟩, by simp [intOf]; omega⟩
    · obtain rfl : j = Q.length := by omega
      go_wp2
      go_ret
      exact ⟨none, rfl, HF.out, Stay.refl _ _⟩
theorem first_mem {Q : List Nat} {s : Nat} {r : Option Nat} (h : FirstI Q.length (fun i => Q[i]? == some s) r) : (0 ≤ outI r) = (s ∈ Q) := by
  apply propext
  cases r with
  | none =>
    refine ⟨fun h1 => absurd h1 (by decide), fun h1 => ?_⟩
    obtain ⟨i, hi⟩ := List.getElem?_of_mem h1
    have h2 := h i (List.getElem?_eq_some_iff.1 hi).1
    simp [hi] at h2
  | some j =>
    refine ⟨fun _ => ?_, fun _ => Int.natCast_nonneg j⟩
    have h1 := h.2.1
    simp at h1
    exact List.mem_of_getElem? h1
set_option maxHeartbeats 1200000 in
theorem contains_p (w : World) (iv : Value) (Q : List Nat) (s : Nat) (h : CS w iv (ptrs Q)) (hn : Q.length ≤ 1000000) (hs : ShB w s) (hq : ∀ q ∈ Q, ShB w q) :
    Calls Tryz.prog 112 #[iv, .pointer (some ⟨s, 0, none⟩)] w fun e w' => e = .returned (.bool (decide (s ∈ Q))) ∧ Stay (fun _ => False) w w' := by
  have HI := Lib.hid (index_p w iv Q s h hn hs hq)
  obtain ⟨a, c, rfl⟩ := h.form
  rw [len_ptrs] at HI ⊢
  clear h hn hs hq
  go_enter Tryz.func112, Tryz.ntmps112
  go_wp2_with fail
  refine HI.out.mono ?_
  rintro e w1 ⟨r, rfl, hr, hs1⟩
  have HS1 := Lib.hid hs1
  have HR := Lib.hid (first_mem hr)
  clear hr hs1 HI
  generalize outI r = ri at *
  go_wp2
  go_ret
  have h1 : decide (0 ≤ ri) = decide (s ∈ Q) := decide_eq_decide.2 (by rw [HR.out])
  exact ⟨by rw [← h1]; rfl, HS1.out⟩
set_option maxHeartbeats 1200000 in
theorem del_any (w : World) (b : Nat) (iv : Value) (Q : List Nat) (s : Nat) (hb : w.cell? ⟨b, 0, none⟩ = some iv) (h : CS w iv (ptrs Q)) (hn : Q.length ≤ 1000000) (hs : ShB w s) (hq : ∀ q ∈ Q, ShB w q) :
    Calls Tryz.prog 111 #[.pointer (some ⟨s, 0, none⟩), .pointer (some ⟨b, 0, none⟩)] w fun e w' => e = .returned (.bool (decide (s ∈ Q))) ∧ Stay (fun _ => False) w w' := by
  have HI := Lib.hid (contains_p w iv Q s h hn hs hq)
  obtain ⟨a, c, rfl⟩ := h.form
  rw [len_ptrs] at HI hb
  clear h hn hs hq
  go_enter Tryz.func111, Tryz.ntmps111
  go_wp2_with fail
  refine HI.out.mono ?_
  rintro e w1 ⟨rfl, hs1⟩
  have HS1 := Lib.hid hs1
  clear hs1 HI
  go_wp2
  go_ret
  exact ⟨rfl, HS1.out⟩
set_option maxHeartbeats 1200000 in
theorem indexF_p (w : World) (u : Value) (L : List Nat) (f : Nat → Bool) (p : Value) (h : CS w u (ptrs L)) (hn : L.length ≤ 1000000)
    (hc : ∀ W, Stay (fun _ => False) w W → ∀ s ∈ L, Calls Tryz.prog 111 #[.pointer (some ⟨s, 0, none⟩), p] W fun e w' => e = .returned (.bool (f s)) ∧ Stay (fun _ => False) W w') :
    Calls Tryz.prog 147 #[u, .func (.func 111) #[] #[p]] w fun e w' => ∃ r, e = .returned (.int .i64 (outI r)) ∧ FirstI L.length (fun i => (L[i]?).any f) r ∧ Stay (fun _ => False) w w' := by
  have HC := Lib.hid hc
  have HH := Lib.hid h
  obtain ⟨a, c, rfl⟩ := h.form
  rw [len_ptrs] at HH ⊢
  have hni : (L.length : Int) ≤ 1000000 := by omega
  clear hc hn h
  go_enter Tryz.func147, Tryz.ntmps147
  go_wp2_with fail
  go_loopw [8] (fun i wr => ∃ j : Nat, i = .int .i64 (j : Int) ∧ j ≤ L.length ∧ Hid (∀ i, i < j → (L[i]?).any f = false) ∧ Hid (Stay (fun _ => False) w wr)) (fun i _ => L.length - (intOf i).toNat)
  case atStart => exact ⟨0, rfl, Nat.zero_le _, Lib.hid (fun i h => by omega), Lib.hid (Stay.refl _ _)⟩
  case round =>
    obtain ⟨j, rfl, hj, HF, HS⟩ := hrel
    by_cases hlt : j < L.length
    · obtain ⟨q, hq⟩ : ∃ q, L[j]? = some q := ⟨_, List.getElem?_eq_getElem hlt⟩
      obtain ⟨g, o, rfl, _, hcs⟩ := (HH.out.stay0 HS.out).at (by rw [len_ptrs]; omega)
      have cq := hcs j _ (at_ptrs hq)
      unfold ptrV at cq
      have HQ := Lib.hid hq
      have HCA := Lib.hid (HC.out wr HS.out q (List.mem_of_getElem? hq))
      obtain ⟨b, hb⟩ : ∃ b, f q = b := ⟨_, rfl⟩
      rw [hb] at HCA
      have HB := Lib.hid hb
      clear hb hcs hq
      go_wp2_with fail
      refine HCA.out.mono ?_
      rintro e w2 ⟨rfl, hs2⟩
      have HS2 := Lib.hid (HS.out.trans hs2)
      clear hs2 HCA cq
      cases b with
      | true =>
        go_wp2
        go_ret
        exact ⟨some j, rfl, ⟨hlt, by show (L[j]?).any f = true; rw [HQ.out]; exact HB.out, HF.out⟩, HS2.out⟩
      | false =>
        go_wp2
        exact ⟨⟨j + 1, by go_num, hlt, Lib.hid (fun i hi => by
          by_cases h : i = j
          · subst h
            rw [HQ.out]
            exact HB.out
          · exact HF.out i (by omega)), HS2⟩, by simp [intOf]; omega⟩
    · obtain rfl : j = L.length := by omega
      go_wp2
      go_ret
      exact ⟨none, rfl, HF.out, HS.out⟩
section
variable {base : Nat} {t : TypeId} {g n c : Nat}
theorem co_sets : ∀ (us : List Value) (o : Nat) (w : World) (vs : List Value), CO base t w (.slice (some ⟨g, 0, none⟩) n c) vs → ∃ vs', CO base t (w.setCells g o us) (.slice (some ⟨g, 0, none⟩) n c) vs' ∧ vs'.length = vs.length ∧ vs'.take o = vs.take o
  | [], o, w, vs, h => ⟨vs, h, rfl, rfl⟩
  | u :: r, o, w, vs, h => by
    obtain ⟨vs', h1, h2, h3⟩ := co_sets r (o + 1) _ _ (h.set o u)
    refine ⟨vs', h1, by rw [h2, List.length_set], ?_⟩
    have h4 := congrArg (List.take o) h3
    rw [List.take_take, List.take_take, show min o (o + 1) = o by omega] at h4
    rw [h4]
    apply List.ext_getElem?
    intro i
    rw [List.getElem?_take, List.getElem?_take]
    split
    · rw [List.getElem?_set_ne (by omega)]
    · rfl
theorem stay_sets : ∀ (us : List Value) (o : Nat) (w : World), Stay (fun k => k = g) w (w.setCells g o us)
  | [], o, w => Stay.refl _ _
  | u :: r, o, w => (Stay.setCell (X := fun k => k = g) w ⟨g, o, none⟩ u rfl).trans (stay_sets r (o + 1) _)
end
theorem zero_p (w : World) : (zeroValue 81).run Tryz.prog w = .ok (.pointer none) w := by kernel_rfl
/-- Those behind some place are let go. -/
theorem wpList_clear_p {ops : Array Oper} {rest : List Oper} {o : Oper} {a : Act} {w : World} {Q : Exit → Act → World → Prop} (hgd : o.guard = none) (m : Operand) (ho : o.op = Op.call { callee := Callee.builtin Builtin.clear, args := #[m], argTypes := #[85] })
    (g i n c cap : Nat) (vs : List Value) (hm : a.eval m = .slice (some ⟨g, i, none⟩) (n - i) cap) (h : CO 0 81 w (.slice (some ⟨g, 0, none⟩) n c) vs) (hn : n = vs.length) (hi : i < n)
    (hK : ∀ w', CO 0 81 w' (.slice (some ⟨g, 0, none⟩) i c) (vs.take i) → Stay (fun k => k = g) w w' → wpList Tryz.prog ops Q rest (a.put o.dst (.tuple #[])) w') : wpList Tryz.prog ops Q (o :: rest) a w := by
  subst hn
  have hrun := Lib.run_clear_slice (P := Tryz.prog) w 85 81 o.type (.pointer none) Tryz.underlying85 zero_p rfl rfl g i (vs.length - i) cap (by omega) (fun j hj => by
    obtain ⟨u, hu⟩ : ∃ u, vs[i + j]? = some u := ⟨_, List.getElem?_eq_getElem (by omega)⟩
    rw [h.cell hu]
    rfl) (fun j hj => h.fr _)
  obtain ⟨vs', h1, h2, h3⟩ := co_sets (List.replicate (vs.length - i) (.pointer none)) i w vs h
  have h4 := h1.take (k := i) (by omega)
  rw [h3] at h4
  refine wpList_plain hgd fun K' hK' => ?_
  unfold Oper.wp
  simp [execOp, ho, resolve, invoke, builtin, hm, hrun, Result.andThen]
  exact hK' _ _ (hK _ h4 (stay_sets _ _ _))
/-- What the row is while some of it are left out. -/
structure DelS (L : List Nat) (f : Nat → Bool) (j i : Nat) (V : List Nat) : Prop where
  len : V.length = L.length
  ie : i = ((L.take j).filter (fun s => !f s)).length
  pre : V.take i = (L.take j).filter (fun s => !f s)
  post : V.drop j = L.drop j
  lt : i < j
section
variable {L V : List Nat} {f : Nat → Bool} {j i q : Nat}
theorem DelS.at (h : DelS L f j i V) (hq : L[j]? = some q) : V[j]? = some q := by
  have h1 := congrArg (fun l : List Nat => l[0]?) h.post
  simp only [List.getElem?_drop, Nat.add_zero] at h1
  rw [h1, hq]
theorem DelS.drop (h : DelS L f j i V) : V.drop (j + 1) = L.drop (j + 1) := by
  have h1 := congrArg (List.drop 1) h.post
  rwa [List.drop_drop, List.drop_drop] at h1
theorem DelS.more (h : DelS L f j i V) (hq : L[j]? = some q) (hf : f q = true) : DelS L f (j + 1) i V := by
  have e : (L.take (j + 1)).filter (fun s => !f s) = (L.take j).filter (fun s => !f s) := by
    rw [List.take_add_one, hq, List.filter_append]
    simp [hf]
  exact ⟨h.len, by rw [e]; exact h.ie, by rw [e]; exact h.pre, h.drop, by have := h.lt; omega⟩
theorem DelS.keep (h : DelS L f j i V) (hq : L[j]? = some q) (hf : f q = false) : DelS L f (j + 1) (i + 1) (V.set i q) := by
  have e : (L.take (j + 1)).filter (fun s => !f s) = (L.take j).filter (fun s => !f s) ++ [q] := by
    rw [List.take_add_one, hq, List.filter_append]
    simp [hf]
  have hj := (List.getElem?_eq_some_iff.1 hq).1
  have hl := h.len
  have hlt := h.lt
  refine ⟨by rw [List.length_set]; exact hl, by rw [e, List.length_append, ← h.ie]; rfl, ?_, ?_, by omega⟩
  · rw [e, ← h.pre, List.take_add_one, List.getElem?_set_self (by omega)]
    congr 1
    apply List.ext_getElem?
    intro m
    rw [List.getElem?_take, List.getElem?_take]
    split
    · rw [List.getElem?_set_ne (by omega)]
    · rfl
  · rw [← h.drop]
    apply List.ext_getElem?
    intro m
    rw [List.getElem?_drop, List.getElem?_drop, List.getElem?_set_ne (by omega)]
theorem DelS.start {i0 : Nat} (h : FirstI L.length (fun i => (L[i]?).any f) (some i0)) : DelS L f (i0 + 1) i0 L := by
  obtain ⟨h1, h2, h3⟩ := h
  obtain ⟨q, hq⟩ : ∃ q, L[i0]? = some q := ⟨_, List.getElem?_eq_getElem h1⟩
  have hf : f q = true := by
    have h4 : (L[i0]?).any f = true := h2
    rw [hq] at h4
    exact h4
  have e0 : (L.take i0).filter (fun s => !f s) = L.take i0 := by
    rw [List.filter_eq_self]
    intro s hs
    obtain ⟨m, hm⟩ := List.getElem?_of_mem hs
    rw [List.getElem?_take] at hm
    split at hm
    · rename_i hlt
      have h4 : (L[m]?).any f = false := h3 m hlt
      rw [hm] at h4
      simpa using h4
    · cases hm
  have e : (L.take (i0 + 1)).filter (fun s => !f s) = L.take i0 := by
    rw [List.take_add_one, hq, List.filter_append, e0]
    simp [hf]
  exact ⟨rfl, by rw [e, List.length_take]; omega, e.symm, rfl, by omega⟩
theorem DelS.fin (h : DelS L f L.length i V) : V.take i = L.filter (fun s => !f s) ∧ i < L.length := by
  have h1 := h.pre
  rw [List.take_length] at h1
  exact ⟨h1, h.lt⟩
end
set_option maxHeartbeats 2000000 in
theorem deleteF_p (w : World) (u : Value) (L : List Nat) (f : Nat → Bool) (p : Value) (h : CO 0 81 w u (ptrs L)) (hn : L.length ≤ 1000000)
    (hc : ∀ W, Stay (fun k => u.ownBlock = some k) w W → ∀ s ∈ L, Calls Tryz.prog 111 #[.pointer (some ⟨s, 0, none⟩), p] W fun e w' => e = .returned (.bool (f s)) ∧ Stay (fun _ => False) W w') :
    Calls Tryz.prog 110 #[u, .func (.func 111) #[] #[p]] w fun e w' => ∃ u', e = .returned u' ∧ CO 0 81 w' u' (ptrs (L.filter (fun s => !f s))) ∧ Stay (fun k => u.ownBlock = some k) w w' ∧ u'.ownBlock = u.ownBlock := by
  have HIF := Lib.hid (indexF_p w u L f p h.cs hn (fun W hW => hc W (hW.mono (fun _ x => x.elim))))
  have HC := Lib.hid hc
  have HH := Lib.hid h
  obtain ⟨a, c, rfl⟩ := h.form
  rw [len_ptrs] at HH HIF HC ⊢
  have hni : (L.length : Int) ≤ 1000000 := by omega
  clear hc hn h
  go_enter Tryz.func110, Tryz.ntmps110
  go_wp2_with fail
  refine HIF.out.mono ?_
  rintro e w1 ⟨r, rfl, hr, hs1⟩
  have HS1 := Lib.hid hs1
  have HR := Lib.hid hr
  clear hs1 hr HIF
  cases r with
  | none =>
    unfold outI
    go_wp2
    go_ret
    have e : L.filter (fun s => !f s) = L := by
      rw [List.filter_eq_self]
      intro s hs
      obtain ⟨m, hm⟩ := List.getElem?_of_mem hs
      have h4 : (L[m]?).any f = false := HR.out m (List.getElem?_eq_some_iff.1 hm).1
      rw [hm] at h4
      simpa using h4
    rw [e]
    exact ⟨_, rfl, HH.out.stay0 HS1.out, HS1.out.mono (fun _ x => x.elim), rfl⟩
  | some i0 =>
    unfold outI
    have hi0 : (i0 : Int) < (L.length : Int) := by have := HR.out.1; omega
    have hm1 : ((i0 : Int) == -1) = false := by rw [beq_eq_false_iff_ne]; omega
    have HD0 := Lib.hid (DelS.start HR.out)
    obtain ⟨g, c', hge, hcl, hcm, _, _⟩ := HH.out.at (by rw [len_ptrs]; have := HR.out.1; omega)
    rw [len_ptrs] at hge hcl
    obtain ⟨rfl, rfl⟩ : a = some ⟨g, 0, none⟩ ∧ c = c' := by cases hge; exact ⟨rfl, rfl⟩
    clear hge
    have HCL := Lib.hid hcl
    go_wp2_with fail
    go_loopw [5, 6] (fun ii jj wr => ∃ (i j : Nat) (V : List Nat), ii = .int .i64 (i : Int) ∧ jj = .int .i64 (j : Int) ∧ j ≤ L.length ∧ Hid (DelS L f j i V) ∧ Hid (CO 0 81 wr (.slice (some ⟨g, 0, none⟩) L.length c) (ptrs V)) ∧ Hid (Stay (fun k => k = g) w wr)) (fun _ jj _ => L.length - (intOf jj).toNat)
    case atStart => exact ⟨i0, i0 + 1, L, rfl, by go_num, by omega, HD0, Lib.hid (HH.out.stay0 HS1.out), Lib.hid (HS1.out.mono (fun _ x => x.elim))⟩
    case round =>
      obtain ⟨i, j, V, rfl, rfl, hj, HD, HV, HS⟩ := hrel
      have hij : (i : Int) < (j : Int) := by have := HD.out.lt; omega
      by_cases hlt : j < L.length
      · obtain ⟨q, hq⟩ : ∃ q, L[j]? = some q := ⟨_, List.getElem?_eq_getElem hlt⟩
        have cq := HV.out.cell (at_ptrs (HD.out.at hq))
        unfold ptrV at cq
        have HCA := Lib.hid (HC.out wr (HS.out.mono (fun k hk => by subst hk; rfl)) q (List.mem_of_getElem? hq))
        obtain ⟨b, hb⟩ : ∃ b, f q = b := ⟨_, rfl⟩
        rw [hb] at HCA
        have HB := Lib.hid hb
        have HQ := Lib.hid hq
        clear hb hq
        go_wp2_with fail
        refine HCA.out.mono ?_
        rintro e w2 ⟨rfl, hs2⟩
        have HV2 := Lib.hid (HV.out.stay0 hs2)
        have HS2 := Lib.hid (HS.out.trans (hs2.mono (fun _ x => x.elim)))
        clear hs2 HCA cq
        cases b with
        | true =>
          go_wp2
          exact ⟨⟨i, j + 1, V, rfl, by go_num, hlt, Lib.hid (HD.out.more HQ.out HB.out), HV2, HS2⟩, by simp [intOf]; omega⟩
        | false =>
          have hfr := HV2.out.fr i
          obtain ⟨u, hu⟩ : ∃ u, V[i]? = some u := ⟨_, List.getElem?_eq_getElem (by have := HD.out.len; omega)⟩
          have ci := HV2.out.cell (at_ptrs hu)
          have hV3 := HV2.out.set i (.pointer (some ⟨q, 0, none⟩))
          rw [show (ptrs V).set i (.pointer (some ⟨q, 0, none⟩)) = ptrs (V.set i q) by unfold ptrs; rw [List.map_set]; rfl] at hV3
          have HV3 := Lib.hid hV3
          clear hu hV3
          go_wp2
          exact ⟨⟨i + 1, j + 1, V.set i q, by go_num, by go_num, hlt, Lib.hid (HD.out.keep HQ.out HB.out), HV3, Lib.hid (HS2.out.trans (Stay.setCell _ ⟨g, i, none⟩ _ rfl))⟩, by simp [intOf]; omega⟩
      · obtain rfl : j = L.length := by omega
        go_wp2_with (refine wpList_clear_p rfl (.tmp 38) rfl g i L.length c (c - i) (ptrs V) rfl HV.out (by rw [len_ptrs]; exact HD.out.len.symm) HD.out.fin.2 ?_
                     intro w2 hv2 hs2
                     have HV2 := Lib.hid hv2
                     have HS2 := Lib.hid (HS.out.trans hs2)
                     clear hv2 hs2)
        go_ret
        have h1 := HV2.out
        rw [show (ptrs V).take i = ptrs (V.take i) by unfold ptrs; rw [List.map_take], HD.out.fin.1] at h1
        exact ⟨_, rfl, h1, HS2.out.mono (fun k hk => by subst hk; rfl), rfl⟩
end Go.Proofs.YtljlfdhjolcnaaaGreat.Ix
