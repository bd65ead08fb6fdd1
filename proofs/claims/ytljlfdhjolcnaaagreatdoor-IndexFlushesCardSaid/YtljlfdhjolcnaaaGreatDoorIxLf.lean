/-
  index: two indexes to which the same is done.
-/
import Derived.Test.YtljlfdhjolcnaaaGreatDoorIxSu
namespace Go.Proofs.YtljlfdhjolcnaaaGreatDoor.Ix
open Go.RowKit Go.Maps Me Mg Bo
set_option maxRecDepth 100000
set_option linter.unusedVariables false
set_option linter.unusedSimpArgs false

/-- Two indexes: whether the entry was put into each of them already. -/
def FSt (A : Nat → Prop) (w0 w : World) (x y : Nat) (M N : List En) (i : Nat) (b1 b2 : Bool) : Prop :=
  ∃ (A1 A2 : Nat → Prop) (I1 I2 : Im), IxAt A1 w x I1 ∧ IxAt A2 w y I2 ∧ (∀ k, A1 k → ¬ A2 k) ∧ (∀ k, A1 k ∨ A2 k → (A k ∨ w0.heap.size ≤ k) ∧ k < w.heap.size) ∧ Wf I1 [] (if b1 then i + 1 else i) (if b1 then i + 1 else i) ∧ Wf I2 [] (if b2 then i + 1 else i) (if b2 then i + 1 else i) ∧ I1.g ∧ I2.g ∧
    Same I1.lists [if b1 then N else M] ∧ Same I2.lists [if b2 then N else M] ∧ Sorted M ∧ Stay A w0 w
/-- Two indexes that have the same. -/
def FRel (base : Nat) (w2 w : World) (x y i : Nat) : Prop :=
  ∃ (A : Nat → Prop) (M : List En), FSt A w w x y M M i false false ∧ (∀ k, A k → base ≤ k ∧ k < w.heap.size) ∧ base ≤ w.heap.size ∧ Stay (fun k => base ≤ k) w2 w
section
variable {A : Nat → Prop} {w0 w w' : World} {x y i : Nat} {M N : List En} {b1 b2 : Bool} {base : Nat} {w2 : World}
theorem FSt.stay0 (h : FSt A w0 w x y M N i b1 b2) (hs : Stay (fun _ => False) w w') : FSt A w0 w' x y M N i b1 b2 := by
  obtain ⟨A1, A2, I1, I2, h1, h2, h3, h4, h5, h6, h7, h8, h9, h10, h11, h12⟩ := h
  exact ⟨A1, A2, I1, I2, h1.stay0 hs, h2.stay0 hs, h3, fun k hk => ⟨(h4 k hk).1, Nat.lt_of_lt_of_le (h4 k hk).2 hs.size⟩, h5, h6, h7, h8, h9, h10, h11, h12.trans (hs.mono (fun _ x => x.elim))⟩
theorem FSt.other (h : FSt A w0 w x y M M i false false) (N : List En) : FSt A w0 w x y M N i false false := h
theorem FSt.shift (h : FSt A w w x y M M i false false) (hs : Stay (fun _ => False) w w') (hA : ∀ k, A k → k < w.heap.size) : FSt A w' w' x y M M i false false := by
  obtain ⟨A1, A2, I1, I2, h1, h2, h3, h4, h5, h6, h7, h8, h9, h10, h11, h12⟩ := h
  refine ⟨A1, A2, I1, I2, h1.stay0 hs, h2.stay0 hs, h3, fun k hk => ?_, h5, h6, h7, h8, h9, h10, h11, Stay.refl _ _⟩
  obtain ⟨k1, k2⟩ := h4 k hk
  exact ⟨.inl (k1.resolve_right (by omega)), Nat.lt_of_lt_of_le k2 hs.size⟩
theorem FSt.did1 {A1 A2 : Nat → Prop} {I1 I1' I2 : Im} {e : En} (h1 : IxAt A1 w x I1) (h2 : IxAt A2 w y I2) (h3 : ∀ k, A1 k → ¬ A2 k) (h4 : ∀ k, A1 k ∨ A2 k → (A k ∨ w0.heap.size ≤ k) ∧ k < w.heap.size) (h6 : Wf I2 [] (if b2 then i + 1 else i) (if b2 then i + 1 else i)) (h7 : I1.g) (h8 : I2.g)
    (h9 : Same I1.lists [M]) (h10 : Same I2.lists [if b2 then putL M e else M]) (h11 : Sorted M) (h12 : Stay A w0 w) (hd : Did A1 w w' x I1 I1' [] (i + 1) (i + 1)) (hp : PutI I1 I1' e) : FSt A w0 w' x y M (putL M e) i true b2 := by
  have hz := hd.st.size
  have hz0 := h12.size
  refine ⟨fun k => (A1 k ∨ w.heap.size ≤ k) ∧ k < w'.heap.size, A2, I1', I2, hd.ix.mono (fun k hk h => ⟨h, hk⟩), h2.stay hd.st (fun k hk hx => h3 k hx hk), fun k hk hk2 => ?_, fun k hk => ?_, hd.wf, h6, by rw [hd.nx.g]; exact h7, h8, hp.sm M h11 h9, h10, h11, h12.andThen hd.st (fun k hk hx => ((h4 k (.inl hx)).1).resolve_right (by omega))⟩
  · rcases hk.1 with h | h
    · exact h3 k h hk2
    · have := (h4 k (.inr hk2)).2
      omega
  · rcases hk with ⟨h | h, hlt⟩ | h
    · have := h4 k (.inl h)
      exact ⟨this.1, hlt⟩
    · exact ⟨.inr (by omega), hlt⟩
    · have := h4 k (.inr h)
      exact ⟨this.1, by omega⟩
theorem FSt.swap (h : FSt A w0 w x y M N i b1 b2) : FSt A w0 w y x M N i b2 b1 := by
  obtain ⟨A1, A2, I1, I2, h1, h2, h3, h4, h5, h6, h7, h8, h9, h10, h11, h12⟩ := h
  exact ⟨A2, A1, I2, I1, h2, h1, fun k h h' => h3 k h' h, fun k hk => h4 k hk.symm, h6, h5, h8, h7, h10, h9, h11, h12⟩
theorem FSt.put1 (key val : List UInt8) (h : FSt A w0 w x y M (putL M ⟨key, val, false⟩) i false b2) (hi : i ≤ 40) (hk : key.length ≤ 140737488351232) (hv : val.length ≤ 140737488351232) (hl : ¬ 512 < key.length + val.length) :
    Calls Tryz.prog 15 #[.pointer (some ⟨x, 0, none⟩), strV key, strV val] w fun z w' => z = .returned .nilIface ∧ FSt A w0 w' x y M (putL M ⟨key, val, false⟩) i true b2 ∧ Stay (fun k => A k ∨ w0.heap.size ≤ k) w w' := by
  obtain ⟨A1, A2, I1, I2, h1, h2, h3, h4, h5, h6, h7, h8, h9, h10, h11, h12⟩ := h
  refine (put_ok key val h1 h5 (by simp; omega) (by simp; omega) hk hv hl).mono ?_
  rintro z w' ⟨rfl, I', hd, hp⟩
  exact ⟨rfl, FSt.did1 h1 h2 h3 h4 h6 h7 h8 h9 h10 h11 h12 hd hp, hd.st.mono (fun k hk => (h4 k (.inl hk)).1)⟩
theorem FSt.put2 (key val : List UInt8) (h : FSt A w0 w x y M (putL M ⟨key, val, false⟩) i b1 false) (hi : i ≤ 40) (hk : key.length ≤ 140737488351232) (hv : val.length ≤ 140737488351232) (hl : ¬ 512 < key.length + val.length) :
    Calls Tryz.prog 15 #[.pointer (some ⟨y, 0, none⟩), strV key, strV val] w fun z w' => z = .returned .nilIface ∧ FSt A w0 w' x y M (putL M ⟨key, val, false⟩) i b1 true ∧ Stay (fun k => A k ∨ w0.heap.size ≤ k) w w' := by
  refine (FSt.put1 key val h.swap hi hk hv hl).mono ?_
  rintro z w' ⟨h1, h2, h3⟩
  exact ⟨h1, h2.swap, h3⟩
theorem FSt.drop1 (key : List UInt8) (h : FSt A w0 w x y M (putL M ⟨key, [], true⟩) i false b2) (hi : i ≤ 40) (hk : key.length ≤ 140737488351232) (hl : ¬ 512 < key.length) :
    Calls Tryz.prog 28 #[.pointer (some ⟨x, 0, none⟩), strV key] w fun z w' => z = .returned .nilIface ∧ FSt A w0 w' x y M (putL M ⟨key, [], true⟩) i true b2 ∧ Stay (fun k => A k ∨ w0.heap.size ≤ k) w w' := by
  obtain ⟨A1, A2, I1, I2, h1, h2, h3, h4, h5, h6, h7, h8, h9, h10, h11, h12⟩ := h
  refine (drop_ok key h1 h5 (by simp; omega) (by simp; omega) hk hl).mono ?_
  rintro z w' ⟨rfl, I', hd, hp⟩
  exact ⟨rfl, FSt.did1 h1 h2 h3 h4 h6 h7 h8 h9 h10 h11 h12 hd hp, hd.st.mono (fun k hk => (h4 k (.inl hk)).1)⟩
theorem FSt.drop2 (key : List UInt8) (h : FSt A w0 w x y M (putL M ⟨key, [], true⟩) i b1 false) (hi : i ≤ 40) (hk : key.length ≤ 140737488351232) (hl : ¬ 512 < key.length) :
    Calls Tryz.prog 28 #[.pointer (some ⟨y, 0, none⟩), strV key] w fun z w' => z = .returned .nilIface ∧ FSt A w0 w' x y M (putL M ⟨key, [], true⟩) i b1 true ∧ Stay (fun k => A k ∨ w0.heap.size ≤ k) w w' := by
  refine (FSt.drop1 key h.swap hi hk hl).mono ?_
  rintro z w' ⟨h1, h2, h3⟩
  exact ⟨h1, h2.swap, h3⟩
theorem FSt.stay (h : FSt A w0 w x y M N i b1 b2) : Stay A w0 w := by
  obtain ⟨A1, A2, I1, I2, h1, h2, h3, h4, h5, h6, h7, h8, h9, h10, h11, h12⟩ := h
  exact h12
/-- Both were done, or none. -/
theorem FRel.both {e : En} (h : FSt A w0 w x y M (putL M e) i true true) (hA : ∀ k, A k → base ≤ k ∧ k < w0.heap.size) (hb : base ≤ w0.heap.size) (hs : Stay (fun k => base ≤ k) w2 w0) : FRel base w2 w x y (i + 1) := by
  obtain ⟨A1, A2, I1, I2, h1, h2, h3, h4, h5, h6, h7, h8, h9, h10, h11, h12⟩ := h
  have hz := h12.size
  refine ⟨fun k => (A k ∨ w0.heap.size ≤ k) ∧ k < w.heap.size, putL M e, ⟨A1, A2, I1, I2, h1, h2, h3, fun k hk => ⟨.inl (h4 k hk), (h4 k hk).2⟩, h5, h6, h7, h8, h9, h10, sorted_put h11 e, Stay.refl _ _⟩, fun k hk => ?_, by omega, hs.trans (h12.mono (fun k hk => (hA k hk).1))⟩
  rcases hk with ⟨h | h, hlt⟩
  · exact ⟨(hA k h).1, hlt⟩
  · exact ⟨by omega, hlt⟩
theorem FRel.keep (h : FSt A w0 w x y M M i false false) (hA : ∀ k, A k → base ≤ k ∧ k < w0.heap.size) (hb : base ≤ w0.heap.size) (hs : Stay (fun k => base ≤ k) w2 w0) : FRel base w2 w x y (i + 1) := by
  obtain ⟨A1, A2, I1, I2, h1, h2, h3, h4, h5, h6, h7, h8, h9, h10, h11, h12⟩ := h
  have hz := h12.size
  refine ⟨fun k => (A k ∨ w0.heap.size ≤ k) ∧ k < w.heap.size, M, ⟨A1, A2, I1, I2, h1, h2, h3, fun k hk => ⟨.inl (h4 k hk), (h4 k hk).2⟩, h5.mono (Nat.le_succ _) (Nat.le_succ _), h6.mono (Nat.le_succ _) (Nat.le_succ _), h7, h8, h9, h10, h11, Stay.refl _ _⟩, fun k hk => ?_, by omega, hs.trans (h12.mono (fun k hk => (hA k hk).1))⟩
  rcases hk with ⟨h | h, hlt⟩
  · exact ⟨(hA k h).1, hlt⟩
  · exact ⟨by omega, hlt⟩
theorem FSt.flush (h : FSt A w0 w x y M M i false false) (hi : i ≤ 40) (hA : ∀ k, A k → base ≤ k ∧ k < w0.heap.size) (hb : base ≤ w0.heap.size) (hs : Stay (fun k => base ≤ k) w2 w0) :
    Calls Tryz.prog 16 #[.pointer (some ⟨x, 0, none⟩)] w fun z w' => z = .returned .nilIface ∧ FRel base w2 w' x y (i + 1) ∧ Stay A w0 w' := by
  obtain ⟨A1, A2, I1, I2, h1, h2, h3, h4, h5, h6, h7, h8, h9, h10, h11, h12⟩ := h
  refine (flush_law h1 h5 (by simp; omega) (by simp; omega)).mono ?_
  rintro z w' ⟨rfl, I', hd, hk⟩
  have hz := hd.st.size
  have hz0 := h12.size
  have hAll : ∀ k, A1 k ∨ A2 k → base ≤ k := fun k hk => by
    rcases (h4 k hk).1 with h | h
    · exact (hA k h).1
    · omega
  refine ⟨rfl, ⟨fun k => (base ≤ k) ∧ k < w'.heap.size, M, ⟨fun k => (A1 k ∨ w.heap.size ≤ k) ∧ k < w'.heap.size, A2, I', I2, hd.ix.mono (fun k hk h => ⟨h, hk⟩), h2.stay hd.st (fun k hk hx => h3 k hx hk), fun k hk hk2 => ?_, fun k hk => ?_, hd.wf.mono (Nat.le_succ _) (Nat.le_refl _), h6.mono (Nat.le_succ _) (Nat.le_succ _), by rw [hd.nx.g]; exact h7, h8, hk.sm.symm.trans h9, h10, h11, Stay.refl _ _⟩, fun k hk => hk, by omega, (hs.trans (h12.mono (fun k hk => (hA k hk).1))).trans (hd.st.mono (fun k hk => hAll k (.inl hk)))⟩, h12.andThen hd.st (fun k hk hx => ((h4 k (.inl hx)).1).resolve_right (by omega))⟩
  · rcases hk.1 with h | h
    · exact h3 k h hk2
    · have := (h4 k (.inr hk2)).2
      omega
  · rcases hk with ⟨h | h, hlt⟩ | h
    · exact ⟨.inl ⟨hAll k (.inl h), hlt⟩, hlt⟩
    · exact ⟨.inl ⟨by omega, hlt⟩, hlt⟩
    · have := (h4 k (.inr h)).2
      exact ⟨.inl ⟨hAll k (.inr h), by omega⟩, by omega⟩
theorem FRel.stay0 (h : FRel base w2 w x y i) (hs : Stay (fun _ => False) w w') : FRel base w2 w' x y i := by
  obtain ⟨A, M, h1, h2, h3, h4⟩ := h
  exact ⟨A, M, h1.shift hs (fun k hk => (h2 k hk).2), fun k hk => ⟨(h2 k hk).1, Nat.lt_of_lt_of_le (h2 k hk).2 hs.size⟩, Nat.le_trans h3 hs.size, h4.trans (hs.mono (fun _ x => x.elim))⟩
theorem FRel.up (h : FRel base w2 w x y i) : FRel base w2 w x y (i + 1) := by
  obtain ⟨A, M, h1, h2, h3, h4⟩ := h
  exact FRel.keep h1 h2 h3 h4
theorem FRel.start {A1 A2 : Nat → Prop} {I1 I2 : Im} (h1 : IxAt A1 w x I1) (h2 : IxAt A2 w y I2) (h3 : ∀ k, A1 k → ¬ A2 k) (h4 : ∀ k, A1 k ∨ A2 k → base ≤ k ∧ k < w.heap.size) (hb : base ≤ w.heap.size) (w1 : Wf I1 [] 0 0) (w2 : Wf I2 [] 0 0) (g1 : I1.g) (g2 : I2.g) (l1 : I1.lists = [[]]) (l2 : I2.lists = [[]]) : FRel base w w x y 0 :=
  ⟨fun k => base ≤ k ∧ k < w.heap.size, [], ⟨A1, A2, I1, I2, h1, h2, h3, fun k hk => ⟨.inl (h4 k hk), (h4 k hk).2⟩, w1, w2, g1, g2, by rw [l1]; exact Same.refl _, by rw [l2]; exact Same.refl _, sorted_nil, Stay.refl _ _⟩, fun k hk => hk, hb, Stay.refl _ _⟩
/-- What both tell. -/
theorem FRel.asks (h : FRel base w2 w x y i) (hi : i ≤ 60) : ∃ M : List En,
    (∀ (z : Nat), z = x ∨ z = y → ∀ (W : World) (k : List UInt8), Stay (fun _ => False) w W → k.length ≤ 140737488351232 → Calls Tryz.prog 10 #[.pointer (some ⟨z, 0, none⟩), strV k] W fun e w' => e = .returned (.tuple #[strV (tellV (look [M] k)).1, .bool (tellV (look [M] k)).2]) ∧ Stay (fun _ => False) W w') ∧
    (∀ (z : Nat), z = x ∨ z = y → ∀ (W : World) (a b : List UInt8), Stay (fun _ => False) w W → Calls Tryz.prog 19 #[.pointer (some ⟨z, 0, none⟩), strV a, strV b] W fun e w' => ∃ v, e = .returned v ∧ EnO W.heap.size w' v (askL [allN [M]] a b) ∧ Stay (fun _ => False) W w') := by
  obtain ⟨A, M, ⟨A1, A2, I1, I2, h1, h2, h3, h4, h5, h6, h7, h8, h9, h10, h11, h12⟩, _⟩ := h
  have t : ∀ {I : Im} (k : List UInt8), Same I.lists [M] → tellV (look I.lists k) = tellV (look [M] k) := fun {I} k hs => by
    unfold tellV
    rw [hs k]
  have s1 : Sz2 I1 := h5.sz (by simp; omega) (by simp; omega)
  have s2 : Sz2 I2 := h6.sz (by simp; omega) (by simp; omega)
  have f0 : Fine [allN [M]] := fun L hL => by
    rw [List.mem_singleton] at hL
    subst hL
    exact ⟨allN_sorted _, all_nrm (fun l hl => by rw [List.mem_singleton] at hl; subst hl; exact h11)⟩
  have hsm : Same [M] [allN [M]] := fun k => by
    rw [look_one, look_one, show allN [M] = putsF [] M from rfl, get_putsF M [] k sorted_nil h11, getL_nil, Option.or_none]
    cases getL M k with
    | none => rfl
    | some e =>
      rw [Option.map_some]
      unfold liveO norm
      by_cases hg : e.g = true
      · simp [hg, Option.filter]
      · rw [if_neg hg]
  refine ⟨M, fun z hz W k hW hk => ?_, fun z hz W a b hW => ?_⟩
  · rcases hz with rfl | rfl
    · have := get_ix W z I1 k (h1.stay0 hW) s1.sz h7 hk
      rw [t k h9] at this
      exact this
    · have := get_ix W z I2 k (h2.stay0 hW) s2.sz h8 hk
      rw [t k h10] at this
      exact this
  · rcases hz with rfl | rfl
    · have := range_ix W z I1 a b (h1.stay0 hW) s1
      rw [ask_same (h1.fine h5.sub) f0 (h9.trans hsm)] at this
      exact this
    · have := range_ix W z I2 a b (h2.stay0 hW) s2
      rw [ask_same (h2.fine h6.sub) f0 (h10.trans hsm)] at this
      exact this
end
end Go.Proofs.YtljlfdhjolcnaaaGreatDoor.Ix
