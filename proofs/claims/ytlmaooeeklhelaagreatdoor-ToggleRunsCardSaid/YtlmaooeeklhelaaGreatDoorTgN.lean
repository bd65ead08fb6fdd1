/-
  toggle, plainly: a device that holds a text in an area, behind saves and crashes.
-/
import Derived.Test.YtlmaooeeklhelaaGreatDoorTgM
namespace Go.Proofs.YtlmaooeeklhelaaGreatDoor.Tg
open Go.RowKit Pk
set_option maxRecDepth 100000

/-- Where a place begins. -/
def placeN (f s : Nat) (b : Bool) : Nat := f + 1 + (if b then (s - 1) / 2 else 0)
theorem place_nat (f s : Nat) (b : Bool) (hs : 3 ≤ s) : placeI (f : Int) (s : Int) b = (placeN f s b : Int) := by
  unfold placeI placeN
  cases b <;> simp <;> omega
theorem room_nat (s : Nat) (h3 : 3 ≤ s) (h4 : s ≤ 16384) : roomI (s : Int) = ((64 * ((s - 1) / 2) : Nat) : Int) := by
  unfold roomI
  rw [if_neg (by omega)]
  omega

/-- The device holds a text, number n (none: there is none), in the area; all of the area is safe. -/
structure Holds (d : DS) (f s : Nat) (o : Option (List UInt8)) (n : Nat) : Prop where
  cr : d.cr = false
  lo : d.lo = false
  L : ∀ j, f ≤ j → j < f + s → d.L j = none
  w : ∀ j, (d.s j).length = 64
  wL : ∀ j l, d.L j = some l → l.length = 64
  s3 : 3 ≤ s
  fn : f + s ≤ d.n
  n2 : d.n ≤ 16384
  t : match o with
    | none => n = 0 ∧ d.s f = zsec
    | some t => ∃ b, 1 ≤ n ∧ n ≤ topN ∧ t.length ≤ 64 * ((s - 1) / 2) ∧ d.s f = pad (tellB n b t.length) ∧ bytesB d (placeN f s b) t.length = t

theorem Holds.cur {d : DS} {f s n : Nat} {o : Option (List UInt8)} (h : Holds d f s o n) (j : Nat) (h1 : f ≤ j) (h2 : j < f + s) : d.cur j = d.s j := by
  unfold DS.cur
  rw [h.L j h1 h2]
  rfl
theorem Holds.cur64 {d : DS} {f s n : Nat} {o : Option (List UInt8)} (h : Holds d f s o n) (j : Nat) : (d.cur j).length = 64 := by
  unfold DS.cur
  cases hl : d.L j with
  | none => exact h.w j
  | some l => exact h.wL j l hl
theorem Holds.inb {d : DS} {f s n : Nat} {o : Option (List UInt8)} (h : Holds d f s o n) : inB (f : Int) (s : Int) d.n = true := by
  have := h.s3
  have := h.fn
  simp only [inB, decide_eq_true_eq]
  omega
theorem Holds.ask {d : DS} {f s n : Nat} {o : Option (List UInt8)} (h : Holds d f s o n) : askD d f s = tellD (d.s f) (64 * ((s - 1) / 2)) := by
  have hs3 := h.s3
  have hfn := h.fn
  have hn2 := h.n2
  unfold askD
  rw [if_neg (by rw [h.inb]; simp), if_neg (down_false h.cr h.lo), Int.toNat_natCast, h.cur f (Nat.le_refl _) (by omega), room_nat s h.s3 (by omega), Int.toNat_natCast]

theorem Holds.ask_none {d : DS} {f s n : Nat} (h : Holds d f s none n) : askD d f s = ((0, false, 0), 8) := by
  rw [h.ask, h.t.2]
  exact if_pos rfl
theorem Holds.ask_some {d : DS} {f s n : Nat} {t : List UInt8} (h : Holds d f s (some t) n) : ∃ b, askD d f s = ((n, b, t.length), 0) ∧ bytesB d (placeN f s b) t.length = t := by
  obtain ⟨b, h1, h2, h3, h4, h5⟩ := h.t
  have hs3 := h.s3
  have hfn := h.fn
  have hn2 := h.n2
  refine ⟨b, ?_, h5⟩
  rw [h.ask, h4]
  exact tell_back h1 h2 h3 (by have : s ≤ 16384 := by omega
                               omega)

/-- What is told of a device that holds a text. -/
theorem Holds.load {d : DS} {f s n : Nat} {t : List UInt8} (h : Holds d f s (some t) n) : loadD d f s = (t, n, 0) := by
  obtain ⟨b, h1, h2⟩ := h.ask_some
  unfold loadD
  rw [h1, if_pos rfl]
  dsimp only
  rw [place_nat f s b h.s3, Int.toNat_natCast, h2]
theorem Holds.load_none {d : DS} {f s n : Nat} (h : Holds d f s none n) : loadD d f s = ([], 0, 8) := by
  unfold loadD
  rw [h.ask_none]
  rfl

/-- A new device holds none. -/
theorem holds_fresh (k f s : Nat) (h3 : 3 ≤ s) (hk : f + s ≤ k) (hk2 : k ≤ 16384) : Holds (fresh k) f s none 0 :=
  ⟨rfl, rfl, fun _ _ _ => rfl, fun _ => length_zsec, fun _ _ e => (by cases e), h3, hk, hk2, ⟨rfl, rfl⟩⟩

/-- How a save of a text that has room ends. -/
def Saved (d : DS) (f s : Nat) (o : Option (List UInt8)) (n : Nat) (l : List UInt8) (r : DS × Nat) : Prop :=
  (r.2 = 0 ∧ Holds r.1 f s (some l) (n + 1) ∧ r.1.ar = d.ar ∧ r.1.n = d.n ∧ r.1.L = none64 ∧ ∀ j, (j < f ∨ f + s ≤ j) → r.1.s j = d.cur j) ∨
  (r.2 = 13 ∧ d.ar = true ∧ r.1.cr = true ∧ r.1.lo = false ∧ r.1.n = d.n ∧ (∀ j, (r.1.s j).length = 64) ∧
    ∀ d2 : DS, d2.n = d.n → d2.cr = false → d2.lo = false → d2.L = none64 → (∀ j, (d2.s j).length = 64) → (∀ j, r.1.L j = none → d2.s j = r.1.s j) → Holds d2 f s o n)

theorem parts_tell (n : Nat) (b : Bool) (m : Nat) : parts (tellB n b m).length = 1 ∧ partB (tellB n b m) 0 = tellB n b m := by
  have h := length_tellB n b m
  have h0 : 1 ≤ (tellB n b m).length := by
    unfold tellB
    rw [List.length_append, List.length_append]
    simp only [boolB, List.length_cons, List.length_nil]
    omega
  refine ⟨by unfold parts; omega, ?_⟩
  unfold partB
  rw [Nat.mul_zero, List.drop_zero]
  exact List.take_of_length_le (by omega)

theorem saveAt_shape {d : DS} {f s n : Nat} {o : Option (List UInt8)} (h : Holds d f s o n) (hn : n < topN) (l : List UInt8) (hl : l.length ≤ 64 * ((s - 1) / 2)) (b : Bool)
    (hb : ∀ t, o = some t → d.s f = pad (tellB n b t.length) ∧ bytesB d (placeN f s b) t.length = t) : Saved d f s o n l (saveAt d f s l n b) := by
  have hs3 := h.s3
  have hfn := h.fn
  have hn2 := h.n2
  have hpl : parts l.length ≤ (s - 1) / 2 := by unfold parts; omega
  have hpp : f + 1 ≤ placeN f s (!b) ∧ placeN f s (!b) + (s - 1) / 2 ≤ f + s := by unfold placeN; cases b <;> simp <;> omega
  obtain ⟨hpp1, hpp2⟩ := hpp
  have hsame : ∀ d2 : DS, d2.n = d.n → d2.cr = false → d2.lo = false → d2.L = none64 → (∀ j, (d2.s j).length = 64) → (∀ j, f ≤ j → j < f + s → (j < placeN f s (!b) ∨ placeN f s (!b) + (s - 1) / 2 ≤ j) → d2.s j = d.s j) → Holds d2 f s o n := by
    intro d2 e1 e2 e3 e4 e5 e6
    have hf0 : d2.s f = d.s f := e6 f (Nat.le_refl _) (by omega) (.inl (by omega))
    refine ⟨e2, e3, fun _ _ _ => by rw [e4]; rfl, e5, fun _ _ e => (by rw [e4] at e; cases e), hs3, by rw [e1]; exact hfn, by rw [e1]; exact hn2, ?_⟩
    cases o with
    | none => exact ⟨h.t.1, hf0.trans h.t.2⟩
    | some t =>
      obtain ⟨_, h1, h2, h3, _, _⟩ := h.t
      obtain ⟨h4, h5⟩ := hb t rfl
      refine ⟨b, h1, h2, h3, hf0.trans h4, ?_⟩
      rw [bytes_same (d := d), h5]
      intro j j1 j2
      have hc2 : d2.cur j = d2.s j := by unfold DS.cur; rw [e4]; rfl
      have hpb : f + 1 ≤ placeN f s b ∧ placeN f s b + (s - 1) / 2 ≤ f + s := by unfold placeN; cases b <;> simp <;> omega
      have hpt0 : parts t.length ≤ (s - 1) / 2 := by unfold parts; omega
      rw [hc2, h.cur j (by omega) (by omega)]
      refine e6 j (by omega) (by omega) ?_
      have hpt : parts t.length ≤ (s - 1) / 2 := by unfold parts; omega
      revert j1 j2
      unfold placeN
      cases b <;> simp <;> omega
  unfold saveAt
  rw [place_nat f s (!b) hs3]
  rcases wrAll_shape l d (placeN f s (!b)) h.cr h.lo (by omega) with ⟨r0, rn, rc, rl, ra, rL, rs⟩ | ⟨r0, har, rn, rc, rl, rs, t, ht, rL⟩
  · rw [if_neg (by omega)]
    obtain ⟨hpt1, hpt2⟩ := parts_tell (n + 1) (!b) l.length
    generalize wrAllD d (placeN f s (!b)) l = r1 at r0 rn rc rl ra rL rs ⊢
    have hrs : ∀ j, (j < placeN f s (!b) ∨ placeN f s (!b) + (s - 1) / 2 ≤ j) → r1.1.s j = d.cur j := by
      intro j hj
      rw [rs]
      unfold wl
      rw [if_neg (by omega)]
      rfl
    have hrp : ∀ k, k < parts l.length → r1.1.s (placeN f s (!b) + k) = pad (partB l k) := by
      intro k hk
      rw [rs]
      unfold wl
      rw [if_pos (by omega), Nat.add_sub_cancel_left]
      rfl
    have hrw : ∀ j, (r1.1.s j).length = 64 := by
      intro j
      rw [rs]
      unfold wl
      split
      · exact length_pad (by rw [length_partB]; omega)
      · exact h.cur64 j
    rcases wrAll_shape (tellB (n + 1) (!b) l.length) r1.1 f rc rl (by rw [hpt1]; omega) with ⟨q0, qn, qc, ql, qa, qL, qs⟩ | ⟨q0, har, qn, qc, ql, qs, t, ht, qL⟩
    · refine .inl ⟨q0, ?_, qa.trans ra, qn.trans rn, qL, ?_⟩
      · have hqf : (wrAllD r1.1 f (tellB (n + 1) (!b) l.length)).1.s f = pad (tellB (n + 1) (!b) l.length) := by
          rw [qs]
          unfold wl
          rw [if_pos (by omega), Nat.sub_self, hpt2]
          rfl
        have hqo : ∀ j, j ≠ f → (wrAllD r1.1 f (tellB (n + 1) (!b) l.length)).1.s j = r1.1.s j := by
          intro j hj
          rw [qs, rL]
          unfold wl
          rw [if_neg (by omega)]
          rfl
        have hqw : ∀ j, ((wrAllD r1.1 f (tellB (n + 1) (!b) l.length)).1.s j).length = 64 := by
          intro j
          by_cases hj : j = f
          · subst hj; rw [hqf]; exact length_pad (by have := length_tellB (n + 1) (!b) l.length; omega)
          · rw [hqo j hj]; exact hrw j
        have hqc : ∀ j, (wrAllD r1.1 f (tellB (n + 1) (!b) l.length)).1.cur j = (wrAllD r1.1 f (tellB (n + 1) (!b) l.length)).1.s j := by
          intro j; unfold DS.cur; rw [qL]; rfl
        refine ⟨qc, ql, fun _ _ _ => by rw [qL]; rfl, hqw, fun _ _ e => (by rw [qL] at e; cases e), hs3, by rw [qn, rn]; exact hfn, by rw [qn, rn]; exact hn2, (!b), by omega, by omega, hl, hqf, ?_⟩
        refine bytes_new (fun j => by rw [hqc]; exact hqw j) _ l fun k hk => ?_
        rw [hqc, hqo _ (by omega), hrp k hk]
      · intro j hj
        rw [qs, rL]
        unfold wl
        rw [if_neg (by omega)]
        exact hrs j (by omega)
    · have ht0 : t = 0 := by omega
      subst ht0
      rw [wl_zero, rL] at qL
      refine .inr ⟨q0, by rw [← ra]; exact har, qc, ql, qn.trans rn, fun j => by rw [qs]; exact hrw j, ?_⟩
      intro d2 e1 e2 e3 e4 e5 e6
      refine hsame d2 e1 e2 e3 e4 e5 fun j j1 j2 hj => ?_
      rw [e6 j (by rw [qL]; rfl), qs, hrs j hj]
      exact h.cur j j1 j2
  · rw [if_pos (by omega)]
    refine .inr ⟨r0, har, rc, rl, rn, fun j => by rw [rs]; exact h.w j, ?_⟩
    intro d2 e1 e2 e3 e4 e5 e6
    refine hsame d2 e1 e2 e3 e4 e5 fun j j1 j2 hj => ?_
    rw [e6 j ?_, rs]
    rw [rL]
    unfold wl
    rw [if_neg (by omega)]
    exact h.L j j1 j2

theorem save_shape {d : DS} {f s n : Nat} {o : Option (List UInt8)} (h : Holds d f s o n) (hn : n < topN) (l : List UInt8) (hl : l.length ≤ 64 * ((s - 1) / 2)) : Saved d f s o n l (saveD d f s l) := by
  have hs3 := h.s3
  have hfn := h.fn
  have hn2 := h.n2
  have hroom : ¬ roomI (s : Int) < (l.length : Int) := by rw [room_nat s hs3 (by omega)]; omega
  cases o with
  | none =>
    have e : saveD d f s l = saveAt d f s l 0 true := by
      unfold saveD
      rw [h.ask_none, if_neg (by simp), if_neg hroom]
      rfl
    rw [e]
    obtain ⟨rfl, _⟩ := h.t
    exact saveAt_shape h hn l hl true (fun t e => by cases e)
  | some t =>
    obtain ⟨b, h1, h2, h3, h4, h5⟩ := h.t
    have hask : askD d f s = ((n, b, t.length), 0) := by
      rw [h.ask, h4]
      exact tell_back h1 h2 h3 (by have : s ≤ 16384 := by omega
                                   omega)
    have e : saveD d f s l = saveAt d f s l n b := by
      unfold saveD
      rw [hask, if_neg (by simp), if_neg hroom]
      rfl
    rw [e]
    exact saveAt_shape h hn l hl b (fun t' e => by cases e; exact ⟨h4, h5⟩)

theorem save_long {d : DS} {f s n : Nat} {o : Option (List UInt8)} (h : Holds d f s o n) (l : List UInt8) (hl : 64 * ((s - 1) / 2) < l.length) : saveD d f s l = (d, 2) := by
  have hs3 := h.s3
  have hfn := h.fn
  have hn2 := h.n2
  have hroom : roomI (s : Int) < (l.length : Int) := by rw [room_nat s hs3 (by omega)]; omega
  unfold saveD
  cases o with
  | none => rw [h.ask_none, if_neg (by simp), if_pos hroom]
  | some t =>
    obtain ⟨b, h1, _⟩ := h.ask_some
    rw [h1, if_neg (by simp), if_pos hroom]

end Go.Proofs.YtlmaooeeklhelaaGreatDoor.Tg
