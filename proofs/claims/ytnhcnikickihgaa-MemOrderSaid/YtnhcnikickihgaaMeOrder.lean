/-
  mem's laws: MemOrder, walked.
-/
import Derived.Test.YtnhcnikickihgaaMeM
namespace Go.Proofs.Ytnhcnikickihgaa.Me
open Go.RowKit Go.Maps
set_option maxRecDepth 100000
set_option linter.unusedVariables false

/-- No later one, of the first n, has the key of the j-th. -/
def IsLast (L : List En) (n j : Nat) : Prop := ∀ t, j < t → t < n → ∀ q x, L[j]? = some q → L[t]? = some x → x.k ≠ q.k
/-- What a truth says of it. -/
def Flag (L : List En) (n j : Nat) (b : Bool) : Prop := b = true ↔ IsLast L n j
/-- These are the last ones of each key, of those from lo on, up to hi. -/
def Spec (L : List En) (n lo hi : Nat) (A : List En) : Prop := ∀ key e, getL A key = some e ↔ ∃ j q, lo ≤ j ∧ j < hi ∧ L[j]? = some q ∧ IsLast L n j ∧ q.k = key ∧ e = norm q
theorem Spec.nil (L : List En) (n lo : Nat) : Spec L n lo lo [] := fun key e => ⟨fun h => by simp [getL] at h, fun ⟨j, q, h1, h2, _⟩ => by omega⟩
theorem Spec.put {L A : List En} {n i : Nat} {q : En} (h : Spec L n 0 i A) (hA : Sorted A) (hi : i < n) (hq : L[i]? = some q) (hl : IsLast L n i) : Spec L n 0 (i + 1) (putL A q) := by
  intro key e
  rw [get_put hA]
  by_cases hk : q.k = key
  · rw [if_pos hk]
    constructor
    · intro he
      cases he
      exact ⟨i, q, Nat.zero_le _, Nat.lt_succ_self _, hq, hl, hk, rfl⟩
    · rintro ⟨j, q', _, hj, hq', hl', hk', rfl⟩
      by_cases hji : j = i
      · subst hji
        rw [hq] at hq'
        cases hq'
        rfl
      · exact absurd (hk.trans hk'.symm) (hl' i (by omega) hi q' q hq' hq)
  · rw [if_neg hk, h key e]
    constructor
    · rintro ⟨j, q', h1, h2, h3⟩
      exact ⟨j, q', h1, by omega, h3⟩
    · rintro ⟨j, q', h1, h2, h3, h4, h5, h6⟩
      refine ⟨j, q', h1, ?_, h3, h4, h5, h6⟩
      by_cases hji : j = i
      · subst hji
        rw [hq] at h3
        cases h3
        exact absurd h5 hk
      · omega
theorem Spec.skip {L A : List En} {n i : Nat} (h : Spec L n 0 i A) (hl : ¬ IsLast L n i) : Spec L n 0 (i + 1) A := by
  intro key e
  rw [h key e]
  constructor
  · rintro ⟨j, q', h1, h2, h3⟩
    exact ⟨j, q', h1, by omega, h3⟩
  · rintro ⟨j, q', h1, h2, h3, h4, h5⟩
    refine ⟨j, q', h1, ?_, h3, h4, h5⟩
    by_cases hji : j = i
    · subst hji
      exact absurd h4 hl
    · omega
theorem Spec.down {L A : List En} {n i : Nat} {q : En} (h : Spec L n (i + 1) n A) (hA : Sorted A) (hi : i < n) (hq : L[i]? = some q) (hl : IsLast L n i) : Spec L n i n (putL A q) := by
  intro key e
  rw [get_put hA]
  by_cases hk : q.k = key
  · rw [if_pos hk]
    constructor
    · intro he
      cases he
      exact ⟨i, q, Nat.le_refl _, hi, hq, hl, hk, rfl⟩
    · rintro ⟨j, q', h1, hj, hq', hl', hk', rfl⟩
      by_cases hji : j = i
      · subst hji
        rw [hq] at hq'
        cases hq'
        rfl
      · exact absurd (hk'.trans hk.symm) (hl j (by omega) hj q q' hq hq')
  · rw [if_neg hk, h key e]
    constructor
    · rintro ⟨j, q', h1, h2, h3⟩
      exact ⟨j, q', by omega, h2, h3⟩
    · rintro ⟨j, q', h1, h2, h3, h4, h5, h6⟩
      refine ⟨j, q', ?_, h2, h3, h4, h5, h6⟩
      by_cases hji : j = i
      · subst hji
        rw [hq] at h3
        cases h3
        exact absurd h5 hk
      · omega
theorem Spec.stay {L A : List En} {n i : Nat} (h : Spec L n (i + 1) n A) (hl : ¬ IsLast L n i) : Spec L n i n A := by
  intro key e
  rw [h key e]
  constructor
  · rintro ⟨j, q', h1, h2, h3⟩
    exact ⟨j, q', by omega, h2, h3⟩
  · rintro ⟨j, q', h1, h2, h3, h4, h5⟩
    refine ⟨j, q', ?_, h2, h3, h4, h5⟩
    by_cases hji : j = i
    · subst hji
      exact absurd h4 hl
    · omega
/-- Of those that have a key there is a last one. -/
theorem last_there {L : List En} {n : Nat} (hn : n ≤ L.length) (key : List UInt8) : ∀ d i q, n - i ≤ d → i < n → L[i]? = some q → q.k = key → ∃ j x, i ≤ j ∧ j < n ∧ L[j]? = some x ∧ x.k = key ∧ IsLast L n j
  | 0, i, q, hd, hi, _, _ => by omega
  | d + 1, i, q, hd, hi, hq, hk => by
    by_cases h : ∃ t x, i < t ∧ t < n ∧ L[t]? = some x ∧ x.k = key
    · obtain ⟨t, x, h1, h2, h3, h4⟩ := h
      obtain ⟨j, y, h5, h6⟩ := last_there hn key d t x (by omega) h2 h3 h4
      exact ⟨j, y, by omega, h6⟩
    · refine ⟨i, q, Nat.le_refl _, hi, hq, hk, fun t h1 h2 q' x hq' hx he => h ⟨t, x, h1, h2, hx, ?_⟩⟩
      rw [hq] at hq'
      cases hq'
      rw [he, hk]
theorem Spec.none {L A : List En} {n i : Nat} {q : En} (h : Spec L n (i + 1) n A) (hn : n ≤ L.length) (hi : i < n) (hq : L[i]? = some q) (hg : getL A q.k = none) : IsLast L n i := by
  intro t h1 h2 q' x hq' hx he
  rw [hq] at hq'
  cases hq'
  obtain ⟨j, y, h5, h6, h7, h8, h9⟩ := last_there hn q.k (n - t) t x (Nat.le_refl _) h2 hx he
  have := (h q.k (norm y)).2 ⟨j, y, by omega, h6, h7, h9, h8, rfl⟩
  rw [hg] at this
  cases this
theorem Spec.some {L A : List En} {n i : Nat} {q e : En} (h : Spec L n (i + 1) n A) (hq : L[i]? = some q) (hg : getL A q.k = some e) : ¬ IsLast L n i := by
  intro hl
  obtain ⟨j, x, h1, h2, h3, h4, h5, _⟩ := (h q.k e).1 hg
  exact hl j (by omega) h2 q x hq h3 h5
theorem Spec.one {L A B : List En} {n : Nat} (hA : Spec L n 0 n A) (hB : Spec L n 0 n B) (sA : Sorted A) (sB : Sorted B) : A = B := by
  refine get_ext sA sB (fun k => ?_)
  cases h1 : getL A k with
  | none =>
    cases h2 : getL B k with
    | none => rfl
    | some e =>
      have := (hA k e).2 ((hB k e).1 h2)
      rw [h1] at this
      cases this
  | some e =>
    have := (hB k e).2 ((hA k e).1 h1)
    rw [this]

/-- Two Mems that were made since w0, apart from each other. -/
structure Pair (w0 w : World) (p p2 : Nat) (A B : List En) : Prop where
  b : ∃ B1 B2 : Nat → Prop, (∀ k, B1 k → w0.heap.size ≤ k) ∧ (∀ k, B2 k → w0.heap.size ≤ k) ∧ (∀ k, B1 k → ¬ B2 k) ∧ MAt B1 w p A ∧ MAt B2 w p2 B
  s : Stay (fun _ => False) w0 w
section
variable {w0 w w' : World} {p p2 : Nat} {A B : List En}
theorem Pair.stay0 (h : Pair w0 w p p2 A B) (hs : Stay (fun _ => False) w w') : Pair w0 w' p p2 A B := by
  obtain ⟨B1, B2, h1, h2, h3, h4, h5⟩ := h.b
  exact ⟨⟨B1, B2, h1, h2, h3, h4.stay0 hs, h5.stay0 hs⟩, h.s.trans hs⟩
theorem Pair.m1 (h : Pair w0 w p p2 A B) : MR w (.pointer (some ⟨p, 0, none⟩)) A ∧ Sorted A := by
  obtain ⟨B1, B2, h1, h2, h3, h4, h5⟩ := h.b
  exact ⟨h4.mr, h4.srt⟩
theorem Pair.m2 (h : Pair w0 w p p2 A B) : MR w (.pointer (some ⟨p2, 0, none⟩)) B ∧ Sorted B := by
  obtain ⟨B1, B2, h1, h2, h3, h4, h5⟩ := h.b
  exact ⟨h5.mr, h5.srt⟩
theorem Pair.swap (h : Pair w0 w p p2 A B) : Pair w0 w p2 p B A := by
  obtain ⟨B1, B2, h1, h2, h3, h4, h5⟩ := h.b
  exact ⟨⟨B2, B1, h2, h1, fun k hk h => h3 k h hk, h5, h4⟩, h.s⟩
theorem Pair.put (e : En) (h : Pair w0 w p p2 A B) (hl : A.length ≤ 1000) :
    Calls Try.prog 8 #[.pointer (some ⟨p, 0, none⟩), enV e] w fun x w' => x = .returned (.tuple #[]) ∧ Pair w0 w' p p2 (putL A e) B := by
  obtain ⟨B1, B2, h1, h2, h3, h4, h5⟩ := h.b
  refine (put_any w p A e h4 hl).mono fun x w' ⟨hx, hp⟩ => ⟨hx, ⟨_, fun k => B2 k ∧ k < w.heap.size, fun k hk => ?_, fun k hk => h2 k hk.1, fun k hk h6 => ?_, hp.m, (h5.mono (fun k hk hB => ⟨hB, hk⟩)).stay hp.s (fun k hk hB => h3 k hB hk.1)⟩, stay_seal ((h.s.mono (fun _ x => x.elim)).trans hp.s) h1⟩
  · rcases hk with hk | hk
    · exact h1 k hk
    · have := h.s.size; omega
  · rcases hk with hk | hk
    · exact h3 k hk h6.1
    · omega
theorem pair_new {w : World} (h : Since w0 w p []) : Calls Try.prog 7 #[] w fun e w' => e = .returned (.pointer (some ⟨w.heap.size, 0, none⟩)) ∧ Pair w0 w' p w.heap.size [] [] :=
  (new_any w).mono fun e w' ⟨h1, h2, h3⟩ => ⟨h1, ⟨fun k => w0.heap.size ≤ k ∧ k < w.heap.size, fun k => k = w.heap.size, fun k hk => hk.1, fun k hk => by have := h.2.size; omega, fun k hk h4 => by omega, (h.1.mono (fun k hk hB => ⟨hB, hk⟩)).stay0 h3, h2⟩, h.2.trans h3⟩
end

set_option maxHeartbeats 8000000 in
theorem order_walk (w : World) (x : Value) (L : List En) (hx : EnS w x L) (hsh : Short L) :
    Calls Try.prog 6 #[x] w fun e w' => e = .returned (.bool true) ∧ Stay (fun _ => False) w w' := by
  have HX := Lib.hid hx
  have HSH := Lib.hid hsh
  obtain ⟨a0, c, rfl, hnc, hcm, _⟩ := hx
  clear hsh
  go_enter Try.func6, Try.ntmps6
  go_wp2_with fail
  refine (new_since w w (Stay.refl _ _)).mono ?_
  rintro e w1 ⟨rfl, h1⟩
  have H1 := Lib.hid h1
  clear h1
  generalize w.heap.size = p at *
  go_wp2_with fail
  refine (pair_new H1.out).mono ?_
  rintro e w2 ⟨rfl, h2⟩
  have H2 := Lib.hid h2
  clear h2 H1
  generalize w1.heap.size = p2 at *
  by_cases hle : L.length ≤ 40
  · have hN : L.length ≤ L.length := by omega
    have hN40 : L.length ≤ 40 := by omega
    go_wp2
    go_loopw [6] (fun i wr => ∃ (j : Nat) (A : List En), i = .int .i64 (j : Int) ∧ j ≤ L.length ∧ A.length ≤ j ∧ Hid (Short A) ∧ Hid (Spec L L.length 0 j A) ∧ Pair w wr p p2 A []) (fun i _ => L.length - (intOf i).toNat)
    case atStart => exact ⟨0, [], rfl, Nat.zero_le _, Nat.le_refl _, Lib.hid (fun e he => by cases he), Lib.hid (Spec.nil _ _ _), H2.out⟩
    case round =>
      obtain ⟨j, A, rfl, hj, hAl, hAs, hsp, ht⟩ := hrel
      have HT := Lib.hid ht
      clear ht
      by_cases hlt : j < L.length
      · obtain ⟨q, hq⟩ : ∃ q, L[j]? = some q := ⟨_, List.getElem?_eq_getElem (by omega)⟩
        obtain ⟨g, o, rfl⟩ := HX.out.ptr hq
        have HQ := Lib.hid hq
        clear hq
        obtain ⟨wz, rfl⟩ : ∃ wz, wz = wr := ⟨_, rfl⟩
        go_wp2
        go_loopw [7, 8] (fun b i wr => ∃ (lb : Bool) (k : Nat), b = .bool lb ∧ i = .int .i64 (k : Int) ∧ j + 1 ≤ k ∧ k ≤ L.length ∧ Hid (Flag L k j lb) ∧ Stay (fun _ => False) wz wr) (fun _ i _ => L.length - (intOf i).toNat)
        case atStart => exact ⟨true, j + 1, rfl, by go_num, Nat.le_refl _, hlt, Lib.hid (show Flag L (j + 1) j true from ⟨fun _ t h1 h2 => by omega, fun _ => rfl⟩), Stay.refl _ _⟩
        case round =>
          obtain ⟨lb, k, rfl, rfl, hjk, hkn, hla, hst⟩ := hrel
          have HTI := Lib.hid hst
          have HXI := Lib.hid (HX.out.stay0 (HT.out.s.trans hst))
          clear hst
          by_cases hlt2 : k < L.length
          · obtain ⟨r, hr⟩ : ∃ r, L[k]? = some r := ⟨_, List.getElem?_eq_getElem (by omega)⟩
            obtain ⟨g9, o9, e9, _, hc9⟩ := HXI.out.at (by omega)
            cases e9
            have cj := (hc9 _ q HQ.out).1
            have ck := (hc9 _ r hr).1
            have HR := Lib.hid hr
            clear hc9 hr
            have HSTEP := Lib.hid (show IsLast L (k + 1) j ↔ IsLast L k j ∧ r.k ≠ q.k from ⟨fun h => ⟨fun t h1 h2 => h t h1 (by omega), h k (by omega) (by omega) q r HQ.out HR.out⟩, fun ⟨h1, h2⟩ t h3 h4 q' x' h5 h6 => by
              by_cases htk : t = k
              · subst htk
                rw [HQ.out] at h5
                rw [HR.out] at h6
                cases h5
                cases h6
                exact h2
              · exact h1 t h3 (by omega) q' x' h5 h6⟩)
            cases lb with
            | false =>
              have HN := Lib.hid (show Flag L (k + 1) j false from ⟨fun h => (Bool.false_ne_true h).elim, fun h => hla.out.2 (HSTEP.out.1 h).1⟩)
              go_wp2
              go_quiet (fail)
              have HT3 := Lib.hid (HTI.out.trans (stay_drewN (X := fun _ => False) wr nq))
              clear cj ck
              go_wp2
              refine ⟨⟨false, k + 1, rfl, by go_num, by omega, hlt2, HN, HT3.out⟩, by simp [intOf]; omega⟩
            | true =>
              by_cases hk : r.k = q.k
              · have HN := Lib.hid (show Flag L (k + 1) j false from ⟨fun h => (Bool.false_ne_true h).elim, fun h => absurd hk (HSTEP.out.1 h).2⟩)
                rw [hk] at ck
                go_wp2
                go_quiet (fail)
                have HT3 := Lib.hid (HTI.out.trans (stay_drewN (X := fun _ => False) wr nq))
                clear cj ck
                go_wp2
                refine ⟨⟨false, k + 1, rfl, by go_num, by omega, hlt2, HN, HT3.out⟩, by simp [intOf]; omega⟩
              · have HN := Lib.hid (show Flag L (k + 1) j true from ⟨fun _ => HSTEP.out.2 ⟨hla.out.1 rfl, hk⟩, fun _ => rfl⟩)
                have hkb : (r.k == q.k) = false := by simpa using hk
                go_wp2
                go_quiet (fail)
                have HT3 := Lib.hid (HTI.out.trans (stay_drewN (X := fun _ => False) wr nq))
                clear cj ck
                go_wp2
                refine ⟨⟨true, k + 1, rfl, by go_num, by omega, hlt2, HN, HT3.out⟩, by simp [intOf]; omega⟩
          · obtain rfl : L.length = k := by omega
            have HT3 := Lib.hid (HT.out.stay0 HTI.out)
            cases lb with
            | false =>
              have HN := Lib.hid (hsp.out.skip (fun h => Bool.false_ne_true (hla.out.2 h)))
              go_wp2
              refine ⟨⟨j + 1, A, by go_num, hlt, by omega, hAs, HN, HT3.out⟩, by simp [intOf]; omega⟩
            | true =>
              have HN := Lib.hid (hsp.out.put HT.out.m1.2 hlt HQ.out (hla.out.1 rfl))
              have HSA := Lib.hid (short_put hAs.out (HSH.out q (List.mem_of_getElem? HQ.out)))
              have HLA := Lib.hid (show (putL A q).length ≤ j + 1 by have := length_putL_le A q; omega)
              have kl := Lib.hid (HXI.out.load HQ.out)
              go_wp2_with (first
                | ((with_reducible refine at_op (.load 27 (.tmp 53)) rfl ?_); refine wpList_load_run (by rfl) 27 (.tmp 53) rfl ⟨g, o + j * 3, none⟩ rfl _ kl.out ?_))
              refine (Pair.put q HT3.out (by omega)).mono ?_
              rintro y v1 ⟨rfl, hp⟩
              have HP := Lib.hid hp
              clear hp kl
              go_wp2
              refine ⟨⟨j + 1, _, by go_num, hlt, HLA.out, HSA, HN, HP.out⟩, by simp [intOf]; omega⟩
      · obtain rfl : L.length = j := by omega
        have HAl := Lib.hid (show A.length ≤ 1000 by omega)
        have HSPA := Lib.hid hsp.out
        have HASH := Lib.hid hAs.out
        clear hsp hAs hAl hlt
        obtain ⟨wz, rfl⟩ : ∃ wz, wz = wr := ⟨_, rfl⟩
        go_wp2
        go_loopw [9] (fun i wr => ∃ (d : Nat) (B : List En), ((∃ t : Nat, d = t + 1 ∧ i = .int .i64 (t : Int)) ∨ (d = 0 ∧ i = .int .i64 (-1))) ∧ d ≤ L.length ∧ B.length ≤ L.length - d ∧ Hid (Short B) ∧ Hid (Spec L L.length d L.length B) ∧ Pair w wr p p2 A B) (fun i _ => (intOf i + 1).toNat)
        case atStart =>
          refine ⟨L.length, [], ?_, Nat.le_refl _, by simp, Lib.hid (fun e he => by cases he), Lib.hid (Spec.nil _ _ _), HT.out⟩
          by_cases h0 : L.length = 0
          · exact .inr ⟨h0, by rw [h0]; rfl⟩
          · exact .inl ⟨L.length - 1, by omega, by go_num⟩
        case round =>
          obtain ⟨d, B, hd, hdn, hBl, hBs, hsp, ht⟩ := hrel
          have HTB := Lib.hid ht
          have HXI := Lib.hid (HX.out.stay0 ht.s)
          clear ht
          rcases hd with ⟨t, rfl, rfl⟩ | ⟨rfl, rfl⟩
          · obtain ⟨q, hq⟩ : ∃ q, L[t]? = some q := ⟨_, List.getElem?_eq_getElem (by omega)⟩
            obtain ⟨g, o, rfl, _, hc9⟩ := HXI.out.at (by omega)
            have ct := (hc9 _ q hq).1
            have kl := Lib.hid (HXI.out.load hq)
            have HQ := Lib.hid hq
            clear hc9 hq
            go_wp2_with fail
            refine (get_any wr _ B q.k HTB.out.m2.1 HTB.out.m2.2 (by omega)).mono ?_
            rintro y v1 ⟨rfl, s1⟩
            have HT4 := Lib.hid (HTB.out.stay0 s1)
            have HX4 := Lib.hid (HXI.out.stay0 s1)
            clear s1 kl ct
            have HBX := Lib.hid (Box.new v1 ⟨[], [], false⟩)
            have HA := Lib.hid (show Stay (fun _ => False) v1 (v1.alloc (.cells (enC ⟨[], [], false⟩).toArray 27)) from Stay.alloc _ _)
            obtain ⟨v2, hv2⟩ : ∃ v2, v1.alloc (.cells (enC ⟨[], [], false⟩).toArray 27) = v2 := ⟨_, rfl⟩
            rw [hv2] at HBX HA
            have V2 := Lib.hid hv2
            clear hv2
            cases hg : getL B q.k with
            | none =>
              have HL := Lib.hid (hsp.out.none hN (by omega) HQ.out hg)
              have HN := Lib.hid (hsp.out.down HTB.out.m2.2 (by omega) HQ.out HL.out)
              have HSB := Lib.hid (short_put hBs.out (HSH.out q (List.mem_of_getElem? HQ.out)))
              have HLB := Lib.hid (show (putL B q).length ≤ L.length - t by have := length_putL_le B q; omega)
              simp only [entOf, Option.isSome_none]
              go_wp2_with (first
                | (with_reducible refine alloc_en rfl rfl ?_; rw [V2.out])
                | ((with_reducible refine at_op (.store 27 (.tmp 10) (.tmp 70)) rfl ?_); refine Box.store HBX.out rfl (.tmp 10) (.tmp 70) rfl rfl ⟨[], [], false⟩ rfl ?_
                   intro v3 hb3 hs3
                   have HS3 := Lib.hid (show Stay (fun _ => False) v1 v3 from stay_seal ((HA.out.mono (fun _ x => x.elim)).trans hs3) (fun k hk => by have hk' : k = v1.heap.size := hk; omega))
                   have kl := Lib.hid ((HX4.out.stay0 HS3.out).load HQ.out)
                   clear hb3 hs3)
                | ((with_reducible refine at_op (.load 27 (.tmp 77)) rfl ?_); refine wpList_load_run (by rfl) 27 (.tmp 77) rfl ⟨g, o + t * 3, none⟩ rfl _ kl.out ?_))
              refine (Pair.put q (HT4.out.stay0 HS3.out).swap (by omega)).mono ?_
              rintro y v4 ⟨rfl, hp⟩
              have HP := Lib.hid hp.swap
              clear hp kl
              go_wp2
              refine ⟨⟨t, _, ?_, by omega, HLB.out, HSB, HN, HP.out⟩, by simp [intOf]⟩
              by_cases h0 : t = 0
              · exact .inr ⟨h0, by rw [h0]; rfl⟩
              · exact .inl ⟨t - 1, by omega, by go_num⟩
            | some e =>
              have HN := Lib.hid (hsp.out.stay (hsp.out.some HQ.out hg))
              simp only [entOf, Option.isSome_some]
              go_wp2_with (first
                | (with_reducible refine alloc_en rfl rfl ?_; rw [V2.out])
                | ((with_reducible refine at_op (.store 27 (.tmp 10) (.tmp 70)) rfl ?_); refine Box.store HBX.out rfl (.tmp 10) (.tmp 70) rfl rfl e rfl ?_
                   intro v3 hb3 hs3
                   have HS3 := Lib.hid (show Stay (fun _ => False) v1 v3 from stay_seal ((HA.out.mono (fun _ x => x.elim)).trans hs3) (fun k hk => by have hk' : k = v1.heap.size := hk; omega))
                   have kl := Lib.hid ((HX4.out.stay0 HS3.out).load HQ.out)
                   clear hb3 hs3)
                | ((with_reducible refine at_op (.load 27 (.tmp 77)) rfl ?_); refine wpList_load_run (by rfl) 27 (.tmp 77) rfl ⟨g, o + t * 3, none⟩ rfl _ kl.out ?_))
              have HP := Lib.hid (HT4.out.stay0 HS3.out)
              refine ⟨⟨t, B, ?_, by omega, by omega, hBs, HN, HP.out⟩, by simp [intOf]⟩
              by_cases h0 : t = 0
              · exact .inr ⟨h0, by rw [h0]; rfl⟩
              · exact .inl ⟨t - 1, by omega, by go_num⟩
          · have HE := Lib.hid (HSPA.out.one hsp.out HTB.out.m1.2 HTB.out.m2.2)
            have HZ := Lib.hid (show sizeL A ≤ 1000000000000000000 by have h1 := short_size HASH.out; have h2 := HAl.out; have h3 : A.length * 281474976702464 ≤ 1000 * 281474976702464 := Nat.mul_le_mul_right _ h2; omega)
            rw [← HE.out] at HTB
            clear hsp hBs hBl
            go_wp2_with fail
            refine (entries_any wr _ A HTB.out.m1.1 HTB.out.m1.2 (by have := HAl.out; omega)).mono ?_
            rintro y z1 ⟨va, rfl, oa, s1⟩
            have R1 := Lib.hid oa.ens
            have T1 := Lib.hid (HTB.out.stay0 s1)
            clear oa s1
            go_wp2_with fail
            refine (entries_any z1 _ A T1.out.m2.1 T1.out.m2.2 (by have := HAl.out; omega)).mono ?_
            rintro y z2 ⟨vb, rfl, ob, s2⟩
            have R2 := Lib.hid ob.ens
            have R1b := Lib.hid (R1.out.stay0 s2)
            have T2 := Lib.hid (T1.out.stay0 s2)
            clear ob s2
            go_wp2_with fail
            refine (entries_eq z2 _ _ A A R1b.out R2.out).mono ?_
            rintro y z3 ⟨rfl, s3⟩
            rw [decide_eq_true (rfl : A = A)]
            have T3 := Lib.hid (T2.out.stay0 s3)
            clear s3
            go_wp2_with fail
            refine (size_any z3 _ A T3.out.m1.1 HZ.out).mono ?_
            rintro y z4 ⟨rfl, s4⟩
            have T4 := Lib.hid (T3.out.stay0 s4)
            clear s4
            go_wp2_with fail
            refine (size_any z4 _ A T4.out.m2.1 HZ.out).mono ?_
            rintro y z5 ⟨rfl, s5⟩
            have T5 := Lib.hid (T4.out.stay0 s5)
            clear s5
            go_wp2_with fail
            refine (sure_any z5).mono ?_
            rintro y z6 ⟨rfl, s6⟩
            have T6 := Lib.hid (T5.out.s.trans s6)
            go_wp2
            go_ret
            exact ⟨rfl, T6.out⟩
  · obtain ⟨n, hn⟩ : ∃ n : Nat, n = 40 := ⟨_, rfl⟩
    have hN : n ≤ L.length := by omega
    have hN40 : n ≤ 40 := by omega
    go_wp2
    rw [show (40 : Int) = (n : Int) by omega]
    clear hn hle
    go_loopw [6] (fun i wr => ∃ (j : Nat) (A : List En), i = .int .i64 (j : Int) ∧ j ≤ n ∧ A.length ≤ j ∧ Hid (Short A) ∧ Hid (Spec L n 0 j A) ∧ Pair w wr p p2 A []) (fun i _ => n - (intOf i).toNat)
    case atStart => exact ⟨0, [], rfl, Nat.zero_le _, Nat.le_refl _, Lib.hid (fun e he => by cases he), Lib.hid (Spec.nil _ _ _), H2.out⟩
    case round =>
      obtain ⟨j, A, rfl, hj, hAl, hAs, hsp, ht⟩ := hrel
      have HT := Lib.hid ht
      clear ht
      by_cases hlt : j < n
      · obtain ⟨q, hq⟩ : ∃ q, L[j]? = some q := ⟨_, List.getElem?_eq_getElem (by omega)⟩
        obtain ⟨g, o, rfl⟩ := HX.out.ptr hq
        have HQ := Lib.hid hq
        clear hq
        obtain ⟨wz, rfl⟩ : ∃ wz, wz = wr := ⟨_, rfl⟩
        go_wp2
        go_loopw [7, 8] (fun b i wr => ∃ (lb : Bool) (k : Nat), b = .bool lb ∧ i = .int .i64 (k : Int) ∧ j + 1 ≤ k ∧ k ≤ n ∧ Hid (Flag L k j lb) ∧ Stay (fun _ => False) wz wr) (fun _ i _ => n - (intOf i).toNat)
        case atStart => exact ⟨true, j + 1, rfl, by go_num, Nat.le_refl _, hlt, Lib.hid (show Flag L (j + 1) j true from ⟨fun _ t h1 h2 => by omega, fun _ => rfl⟩), Stay.refl _ _⟩
        case round =>
          obtain ⟨lb, k, rfl, rfl, hjk, hkn, hla, hst⟩ := hrel
          have HTI := Lib.hid hst
          have HXI := Lib.hid (HX.out.stay0 (HT.out.s.trans hst))
          clear hst
          by_cases hlt2 : k < n
          · obtain ⟨r, hr⟩ : ∃ r, L[k]? = some r := ⟨_, List.getElem?_eq_getElem (by omega)⟩
            obtain ⟨g9, o9, e9, _, hc9⟩ := HXI.out.at (by omega)
            cases e9
            have cj := (hc9 _ q HQ.out).1
            have ck := (hc9 _ r hr).1
            have HR := Lib.hid hr
            clear hc9 hr
            have HSTEP := Lib.hid (show IsLast L (k + 1) j ↔ IsLast L k j ∧ r.k ≠ q.k from ⟨fun h => ⟨fun t h1 h2 => h t h1 (by omega), h k (by omega) (by omega) q r HQ.out HR.out⟩, fun ⟨h1, h2⟩ t h3 h4 q' x' h5 h6 => by
              by_cases htk : t = k
              · subst htk
                rw [HQ.out] at h5
                rw [HR.out] at h6
                cases h5
                cases h6
                exact h2
              · exact h1 t h3 (by omega) q' x' h5 h6⟩)
            cases lb with
            | false =>
              have HN := Lib.hid (show Flag L (k + 1) j false from ⟨fun h => (Bool.false_ne_true h).elim, fun h => hla.out.2 (HSTEP.out.1 h).1⟩)
              go_wp2
              go_quiet (fail)
              have HT3 := Lib.hid (HTI.out.trans (stay_drewN (X := fun _ => False) wr nq))
              clear cj ck
              go_wp2
              refine ⟨⟨false, k + 1, rfl, by go_num, by omega, hlt2, HN, HT3.out⟩, by simp [intOf]; omega⟩
            | true =>
              by_cases hk : r.k = q.k
              · have HN := Lib.hid (show Flag L (k + 1) j false from ⟨fun h => (Bool.false_ne_true h).elim, fun h => absurd hk (HSTEP.out.1 h).2⟩)
                rw [hk] at ck
                go_wp2
                go_quiet (fail)
                have HT3 := Lib.hid (HTI.out.trans (stay_drewN (X := fun _ => False) wr nq))
                clear cj ck
                go_wp2
                refine ⟨⟨false, k + 1, rfl, by go_num, by omega, hlt2, HN, HT3.out⟩, by simp [intOf]; omega⟩
              · have HN := Lib.hid (show Flag L (k + 1) j true from ⟨fun _ => HSTEP.out.2 ⟨hla.out.1 rfl, hk⟩, fun _ => rfl⟩)
                have hkb : (r.k == q.k) = false := by simpa using hk
                go_wp2
                go_quiet (fail)
                have HT3 := Lib.hid (HTI.out.trans (stay_drewN (X := fun _ => False) wr nq))
                clear cj ck
                go_wp2
                refine ⟨⟨true, k + 1, rfl, by go_num, by omega, hlt2, HN, HT3.out⟩, by simp [intOf]; omega⟩
          · obtain rfl : n = k := by omega
            have HT3 := Lib.hid (HT.out.stay0 HTI.out)
            cases lb with
            | false =>
              have HN := Lib.hid (hsp.out.skip (fun h => Bool.false_ne_true (hla.out.2 h)))
              go_wp2
              refine ⟨⟨j + 1, A, by go_num, hlt, by omega, hAs, HN, HT3.out⟩, by simp [intOf]; omega⟩
            | true =>
              have HN := Lib.hid (hsp.out.put HT.out.m1.2 hlt HQ.out (hla.out.1 rfl))
              have HSA := Lib.hid (short_put hAs.out (HSH.out q (List.mem_of_getElem? HQ.out)))
              have HLA := Lib.hid (show (putL A q).length ≤ j + 1 by have := length_putL_le A q; omega)
              have kl := Lib.hid (HXI.out.load HQ.out)
              go_wp2_with (first
                | ((with_reducible refine at_op (.load 27 (.tmp 53)) rfl ?_); refine wpList_load_run (by rfl) 27 (.tmp 53) rfl ⟨g, o + j * 3, none⟩ rfl _ kl.out ?_))
              refine (Pair.put q HT3.out (by omega)).mono ?_
              rintro y v1 ⟨rfl, hp⟩
              have HP := Lib.hid hp
              clear hp kl
              go_wp2
              refine ⟨⟨j + 1, _, by go_num, hlt, HLA.out, HSA, HN, HP.out⟩, by simp [intOf]; omega⟩
      · obtain rfl : n = j := by omega
        have HAl := Lib.hid (show A.length ≤ 1000 by omega)
        have HSPA := Lib.hid hsp.out
        have HASH := Lib.hid hAs.out
        clear hsp hAs hAl hlt
        obtain ⟨wz, rfl⟩ : ∃ wz, wz = wr := ⟨_, rfl⟩
        go_wp2
        go_loopw [9] (fun i wr => ∃ (d : Nat) (B : List En), ((∃ t : Nat, d = t + 1 ∧ i = .int .i64 (t : Int)) ∨ (d = 0 ∧ i = .int .i64 (-1))) ∧ d ≤ n ∧ B.length ≤ n - d ∧ Hid (Short B) ∧ Hid (Spec L n d n B) ∧ Pair w wr p p2 A B) (fun i _ => (intOf i + 1).toNat)
        case atStart =>
          refine ⟨n, [], ?_, Nat.le_refl _, by simp, Lib.hid (fun e he => by cases he), Lib.hid (Spec.nil _ _ _), HT.out⟩
          by_cases h0 : n = 0
          · exact .inr ⟨h0, by rw [h0]; rfl⟩
          · exact .inl ⟨n - 1, by omega, by go_num⟩
        case round =>
          obtain ⟨d, B, hd, hdn, hBl, hBs, hsp, ht⟩ := hrel
          have HTB := Lib.hid ht
          have HXI := Lib.hid (HX.out.stay0 ht.s)
          clear ht
          rcases hd with ⟨t, rfl, rfl⟩ | ⟨rfl, rfl⟩
          · obtain ⟨q, hq⟩ : ∃ q, L[t]? = some q := ⟨_, List.getElem?_eq_getElem (by omega)⟩
            obtain ⟨g, o, rfl, _, hc9⟩ := HXI.out.at (by omega)
            have ct := (hc9 _ q hq).1
            have kl := Lib.hid (HXI.out.load hq)
            have HQ := Lib.hid hq
            clear hc9 hq
            go_wp2_with fail
            refine (get_any wr _ B q.k HTB.out.m2.1 HTB.out.m2.2 (by omega)).mono ?_
            rintro y v1 ⟨rfl, s1⟩
            have HT4 := Lib.hid (HTB.out.stay0 s1)
            have HX4 := Lib.hid (HXI.out.stay0 s1)
            clear s1 kl ct
            have HBX := Lib.hid (Box.new v1 ⟨[], [], false⟩)
            have HA := Lib.hid (show Stay (fun _ => False) v1 (v1.alloc (.cells (enC ⟨[], [], false⟩).toArray 27)) from Stay.alloc _ _)
            obtain ⟨v2, hv2⟩ : ∃ v2, v1.alloc (.cells (enC ⟨[], [], false⟩).toArray 27) = v2 := ⟨_, rfl⟩
            rw [hv2] at HBX HA
            have V2 := Lib.hid hv2
            clear hv2
            cases hg : getL B q.k with
            | none =>
              have HL := Lib.hid (hsp.out.none hN (by omega) HQ.out hg)
              have HN := Lib.hid (hsp.out.down HTB.out.m2.2 (by omega) HQ.out HL.out)
              have HSB := Lib.hid (short_put hBs.out (HSH.out q (List.mem_of_getElem? HQ.out)))
              have HLB := Lib.hid (show (putL B q).length ≤ n - t by have := length_putL_le B q; omega)
              simp only [entOf, Option.isSome_none]
              go_wp2_with (first
                | (with_reducible refine alloc_en rfl rfl ?_; rw [V2.out])
                | ((with_reducible refine at_op (.store 27 (.tmp 10) (.tmp 70)) rfl ?_); refine Box.store HBX.out rfl (.tmp 10) (.tmp 70) rfl rfl ⟨[], [], false⟩ rfl ?_
                   intro v3 hb3 hs3
                   have HS3 := Lib.hid (show Stay (fun _ => False) v1 v3 from stay_seal ((HA.out.mono (fun _ x => x.elim)).trans hs3) (fun k hk => by have hk' : k = v1.heap.size := hk; omega))
                   have kl := Lib.hid ((HX4.out.stay0 HS3.out).load HQ.out)
                   clear hb3 hs3)
                | ((with_reducible refine at_op (.load 27 (.tmp 77)) rfl ?_); refine wpList_load_run (by rfl) 27 (.tmp 77) rfl ⟨g, o + t * 3, none⟩ rfl _ kl.out ?_))
              refine (Pair.put q (HT4.out.stay0 HS3.out).swap (by omega)).mono ?_
              rintro y v4 ⟨rfl, hp⟩
              have HP := Lib.hid hp.swap
              clear hp kl
              go_wp2
              refine ⟨⟨t, _, ?_, by omega, HLB.out, HSB, HN, HP.out⟩, by simp [intOf]⟩
              by_cases h0 : t = 0
              · exact .inr ⟨h0, by rw [h0]; rfl⟩
              · exact .inl ⟨t - 1, by omega, by go_num⟩
            | some e =>
              have HN := Lib.hid (hsp.out.stay (hsp.out.some HQ.out hg))
              simp only [entOf, Option.isSome_some]
              go_wp2_with (first
                | (with_reducible refine alloc_en rfl rfl ?_; rw [V2.out])
                | ((with_reducible refine at_op (.store 27 (.tmp 10) (.tmp 70)) rfl ?_); refine Box.store HBX.out rfl (.tmp 10) (.tmp 70) rfl rfl e rfl ?_
                   intro v3 hb3 hs3
                   have HS3 := Lib.hid (show Stay (fun _ => False) v1 v3 from stay_seal ((HA.out.mono (fun _ x => x.elim)).trans hs3) (fun k hk => by have hk' : k = v1.heap.size := hk; omega))
                   have kl := Lib.hid ((HX4.out.stay0 HS3.out).load HQ.out)
                   clear hb3 hs3)
                | ((with_reducible refine at_op (.load 27 (.tmp 77)) rfl ?_); refine wpList_load_run (by rfl) 27 (.tmp 77) rfl ⟨g, o + t * 3, none⟩ rfl _ kl.out ?_))
              have HP := Lib.hid (HT4.out.stay0 HS3.out)
              refine ⟨⟨t, B, ?_, by omega, by omega, hBs, HN, HP.out⟩, by simp [intOf]⟩
              by_cases h0 : t = 0
              · exact .inr ⟨h0, by rw [h0]; rfl⟩
              · exact .inl ⟨t - 1, by omega, by go_num⟩
          · have HE := Lib.hid (HSPA.out.one hsp.out HTB.out.m1.2 HTB.out.m2.2)
            have HZ := Lib.hid (show sizeL A ≤ 1000000000000000000 by have h1 := short_size HASH.out; have h2 := HAl.out; have h3 : A.length * 281474976702464 ≤ 1000 * 281474976702464 := Nat.mul_le_mul_right _ h2; omega)
            rw [← HE.out] at HTB
            clear hsp hBs hBl
            go_wp2_with fail
            refine (entries_any wr _ A HTB.out.m1.1 HTB.out.m1.2 (by have := HAl.out; omega)).mono ?_
            rintro y z1 ⟨va, rfl, oa, s1⟩
            have R1 := Lib.hid oa.ens
            have T1 := Lib.hid (HTB.out.stay0 s1)
            clear oa s1
            go_wp2_with fail
            refine (entries_any z1 _ A T1.out.m2.1 T1.out.m2.2 (by have := HAl.out; omega)).mono ?_
            rintro y z2 ⟨vb, rfl, ob, s2⟩
            have R2 := Lib.hid ob.ens
            have R1b := Lib.hid (R1.out.stay0 s2)
            have T2 := Lib.hid (T1.out.stay0 s2)
            clear ob s2
            go_wp2_with fail
            refine (entries_eq z2 _ _ A A R1b.out R2.out).mono ?_
            rintro y z3 ⟨rfl, s3⟩
            rw [decide_eq_true (rfl : A = A)]
            have T3 := Lib.hid (T2.out.stay0 s3)
            clear s3
            go_wp2_with fail
            refine (size_any z3 _ A T3.out.m1.1 HZ.out).mono ?_
            rintro y z4 ⟨rfl, s4⟩
            have T4 := Lib.hid (T3.out.stay0 s4)
            clear s4
            go_wp2_with fail
            refine (size_any z4 _ A T4.out.m2.1 HZ.out).mono ?_
            rintro y z5 ⟨rfl, s5⟩
            have T5 := Lib.hid (T4.out.stay0 s5)
            clear s5
            go_wp2_with fail
            refine (sure_any z5).mono ?_
            rintro y z6 ⟨rfl, s6⟩
            have T6 := Lib.hid (T5.out.s.trans s6)
            go_wp2
            go_ret
            exact ⟨rfl, T6.out⟩
end Go.Proofs.Ytnhcnikickihgaa.Me
