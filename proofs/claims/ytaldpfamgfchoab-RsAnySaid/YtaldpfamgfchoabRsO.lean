/-
  rs: lists of rows and rows of bytes that grow by append; truths that are read.
-/
import Derived.Test.YtaldpfamgfchoabRsK
namespace Go.Proofs.Ytaldpfamgfchoab.Rs
open Go.ChangeShapes Go.WideShapes Go.ChangeAt Go.RowKit Go.Deep Gf
set_option maxRecDepth 100000

/-- A list of n rows that was made by append; whatever of X turns. -/
def AL (X : Nat → Prop) (base : Nat) (w : World) (v : Value) (n : Nat) (L : Nat → Nat) (M : Nat → Nat → UInt8) : Prop :=
  ∃ val : Nat → Value, w.ownsRow base 24 1 v n (cellsV n val) ∧ (∀ k, v.ownBlock = some k → ¬ X k) ∧ ∀ k, k < n → (∃ a l c, val k = .slice a l c) ∧ SSlc (fun i => X i ∨ v.ownBlock = some i) w (val k) (lf (L k) (M k))
section
variable {X Y : Nat → Prop} {base : Nat} {w w' : World} {v : Value} {n : Nat} {L : Nat → Nat} {M : Nat → Nat → UInt8}
theorem AL.nil (X : Nat → Prop) (base : Nat) (w : World) (L : Nat → Nat) (M : Nat → Nat → UInt8) : AL X base w (.slice none 0 0) 0 L M :=
  ⟨fun _ => .nilIface, World.ownsRow_nil w base _ _, (fun k (e : (Value.slice none 0 0).ownBlock = some k) => by cases e), (fun k hk => by omega)⟩
theorem AL.lt (h : AL X base w v n L M) : ∀ k, v.ownBlock = some k → base ≤ k ∧ k < w.heap.size := by
  obtain ⟨val, h1, _⟩ := h
  exact World.ownsRow.lt h1
theorem AL.form (h : AL X base w v n L M) : ∃ a c, v = .slice a n c ∧ n ≤ c ∧ c ≤ 9223372036854775807 := by
  obtain ⟨val, h1, _⟩ := h
  rcases h1.2 with ⟨e, hn⟩ | ⟨g, cap, cur, e, _, _, h2, h3, _⟩
  · subst hn; exact ⟨none, 0, e, Nat.le_refl _, by decide⟩
  · exact ⟨_, _, e, h2, by unfold maxLen at h3; omega⟩
theorem AL.push (h : AL X base w v n L M) (hs : Stay X w w') (hY : ∀ i, i < w.heap.size → Y i → X i) : AL Y base w' v n L M := by
  have hl := h.lt
  obtain ⟨val, h1, h2, h3⟩ := h
  refine ⟨val, ⟨h1.1, ?_⟩, fun k hk hy => h2 k hk (hY k (hl k hk).2 hy), fun k hk => ⟨(h3 k hk).1, (h3 k hk).2.push (hs.mono (fun _ e => .inl e)) (fun i hi e => ?_)⟩⟩
  · rcases h1.2 with h' | ⟨g, cap, cur, rfl, h4, hg, r⟩
    · exact .inl h'
    · exact .inr ⟨g, cap, cur, rfl, h4, (hs.block g (Array.getElem?_eq_some_iff.1 hg).1 (h2 g rfl)).trans hg, r⟩
  · rcases e with e | e
    · exact .inl (hY i hi e)
    · exact .inr e
theorem AL.stay (h : AL X base w v n L M) (hs : Stay X w w') : AL X base w' v n L M := h.push hs (fun _ _ e => e)
theorem AL.stay0 (h : AL X base w v n L M) (hs : Stay (fun _ => False) w w') : AL X base w' v n L M := h.stay (hs.mono (fun _ x => x.elim))
theorem AL.congr {L' : Nat → Nat} {M' : Nat → Nat → UInt8} (h : AL X base w v n L M) (hL : ∀ k, k < n → L k = L' k) (hM : ∀ k, k < n → ∀ i, i < L k → M k i = M' k i) : AL X base w v n L' M' := by
  obtain ⟨val, h1, h2, h3⟩ := h
  exact ⟨val, h1, h2, fun k hk => ⟨(h3 k hk).1, by rw [← hL k hk, ← lf_congr (hM k hk)]; exact (h3 k hk).2⟩⟩
/-- It is read. -/
theorem AL.read (h : AL X base w v n L M) : SM X w v n L M := by
  obtain ⟨a, c, e, hc1, hc2⟩ := h.form
  obtain ⟨val, h1, h2, h3⟩ := h
  refine ⟨a, c, e, hc1, hc2, fun h0 => ?_⟩
  have hcell := fun g hg => World.ownsRow.cells (g := g) h1 hg
  rcases h1.2 with ⟨_, hn⟩ | ⟨g, cap, cur, e2, h4, hg, _⟩
  · omega
  · have e3 : a = some ⟨g, 0, none⟩ := by rw [e2] at e; cases e; rfl
    refine ⟨g, 0, e3, fun k hk => ⟨val k, SCell.of ?_ (h2 g (by rw [e2]; rfl)), (h3 k hk).2.mono (fun _ e => .inl e)⟩⟩
    have hb : v.ownBlock = some g := by rw [e2]; rfl
    have := hcell g hb k (val k) (cellsV_get val hk)
    rwa [add_at] at this
end

section
variable {ops : Array Oper} {rest : List Oper} {o : Oper} {a : Act} {w : World} {Q : Exit → Act → World → Prop}
theorem run_append_l {X : Nat → Prop} {base n : Nat} {v x1 : Value} {L : Nat → Nat} {M : Nat → Nat → UInt8} (ty : TypeId) (hal : AL X base w v n L M) (hx1 : ∃ a l c, x1 = .slice a l c) (hrow : SSlc (fun i => X i ∨ v.ownBlock = some i) w x1 (lf (L n) (M n)))
    (hX : ∀ i, X i → i < w.heap.size) (hb : base ≤ w.heap.size) (hn : n ≤ 65535) :
    ∃ v' w', (Builtin.append_ #[34, 34] ty #[v, .slice (some ⟨w.heap.size, 0, none⟩) 1 1]).run Try.prog (w.alloc (.cells #[x1] 24)) = .ok v' w' ∧ AL X base w' v' (n + 1) L M ∧ Stay (fun i => v.ownBlock = some i) w w' ∧ (v'.ownBlock = v.ownBlock ∨ v'.ownBlock = some (w.heap.size + 1)) := by
  obtain ⟨i0, hi, hz0, hz1, hz2⟩ := info_parts infoL
  have hlt := hal.lt
  obtain ⟨val, h1, h2, h3⟩ := hal
  obtain ⟨xa, xl, xc, rfl⟩ := hx1
  have hsz : (w.alloc (.cells #[.slice xa xl xc] 24)).heap.size = w.heap.size + 1 := by simp
  obtain ⟨v', w', hrun, h4, h5, _, h7⟩ := run_append_own_at (P := Try.prog) (w.alloc (.cells #[.slice xa xl xc] 24)) base 34 ty 24 i0 (.slice none 0 0) 1 24 Try.underlying34 hi hz0 hz1 hz2 rfl (by decide) v n (cellsV n val) (World.ownsRow.alloc h1 _) ⟨w.heap.size, 0, none⟩ 1 1 [.slice xa xl xc] rfl
    (fun j u hu => by
      have hj : j = 0 := by
        have := (List.getElem?_eq_some_iff.1 hu).1
        simp at this
        omega
      subst hj
      rw [add_at, cell_of_row _ _ _ _ _ _ (heap_alloc_new w _)]
      simpa using hu)
    (fun u hu => by rw [List.mem_singleton.1 hu]; rfl) (by unfold maxLen; omega) (by omega) (by omega)
  have hst : Stay (fun i => v.ownBlock = some i) w w' := (Stay.alloc w _).trans (Stay.grown h5 (fun k e => e))
  have e7 : v'.ownBlock = v.ownBlock ∨ v'.ownBlock = some (w.heap.size + 1) := by rw [hsz] at h7; exact h7
  refine ⟨v', w', hrun, ⟨putV val n (.slice xa xl xc), ?_, fun k hk hx => ?_, fun k hk => ?_⟩, hst, e7⟩
  · have e : cellsV (n + 1) (putV val n (.slice xa xl xc)) = cellsV n val ++ [.slice xa xl xc] := by
      unfold cellsV
      rw [List.range_succ, List.map_append]
      congr 1
      · exact List.map_congr_left (fun i hi => by have := List.mem_range.1 hi; unfold putV; rw [if_neg (by omega)])
      · simp [putV]
    rw [e]
    exact h4
  · rcases e7 with e | e
    · exact h2 k (e ▸ hk) hx
    · rw [e] at hk
      have := hX k hx
      have : k = w.heap.size + 1 := by simpa using hk.symm
      omega
  · have hY : ∀ i, i < w.heap.size → (X i ∨ v'.ownBlock = some i) → (X i ∨ v.ownBlock = some i) := fun i hi e => by
      rcases e with e | e
      · exact .inl e
      · rcases e7 with e2 | e2
        · exact .inr (e2 ▸ e)
        · rw [e2] at e
          have : i = w.heap.size + 1 := by simpa using e.symm
          omega
    by_cases e : k = n
    · subst e
      have : putV val k (.slice xa xl xc) k = .slice xa xl xc := by unfold putV; rw [if_pos rfl]
      rw [this]
      exact ⟨⟨_, _, _, rfl⟩, hrow.push (hst.mono (fun _ e => .inr e)) hY⟩
    · have : putV val n (.slice xa xl xc) k = val k := by unfold putV; rw [if_neg e]
      rw [this]
      exact ⟨(h3 k (by omega)).1, (h3 k (by omega)).2.push (hst.mono (fun _ e => .inr e)) hY⟩
theorem append_l (hgd : o.guard = none) (s x : Operand) (ho : o.op = .call { callee := .builtin .append, args := #[s, x], argTypes := #[34, 34] })
    {X : Nat → Prop} {base n : Nat} {v x1 : Value} {L : Nat → Nat} {M : Nat → Nat → UInt8} (hs : a.eval s = v) (hx : a.eval x = .slice (some ⟨w.heap.size, 0, none⟩) 1 1) (hal : AL X base w v n L M) (hx1 : ∃ a l c, x1 = .slice a l c) (hrow : SSlc (fun i => X i ∨ v.ownBlock = some i) w x1 (lf (L n) (M n)))
    (hX : ∀ i, X i → i < w.heap.size) (hb : base ≤ w.heap.size) (hn : n ≤ 65535)
    (h : ∀ v' w', AL X base w' v' (n + 1) L M → Stay (fun i => v.ownBlock = some i) w w' → (v'.ownBlock = v.ownBlock ∨ v'.ownBlock = some (w.heap.size + 1)) → wpList Try.prog ops Q rest (a.put o.dst v') w') : wpList Try.prog ops Q (o :: rest) a (w.alloc (.cells #[x1] 24)) :=
  wpList_plain hgd fun _ hK => by
    obtain ⟨v', w', hrun, h2, h3, h4⟩ := run_append_l (w := w) o.type hal hx1 hrow hX hb hn
    unfold Oper.wp execOp
    simp only [ho, resolve, invoke, builtin, Sem.run_bind, Sem.run_pure, Result.andThen_ok, List.map_toArray, List.map_cons, List.map_nil, hs, hx, hrun]
    exact hK _ _ (h v' w' h2 h3 h4)

/-- A byte appended. -/
theorem lf_succ (n : Nat) (f : Nat → UInt8) : lf (n + 1) f = lf n f ++ [f n] := by unfold lf; rw [List.range_succ, List.map_append]; rfl
theorem run_append_1 {base n : Nat} {v : Value} {f : Nat → UInt8} {x : Int} (ty : TypeId) (hown : Owns base w v (lf n f)) (hx : x = ((f n).toNat : Int)) (hb : base ≤ w.heap.size) (hn : n ≤ 140737488355327) :
    ∃ v' w', (Builtin.append_ #[24, 24] ty #[v, .slice (some ⟨w.heap.size, 0, none⟩) 1 1]).run Try.prog (w.alloc (.cells #[.int .u8 x] 5)) = .ok v' w' ∧ Owns base w' v' (lf (n + 1) f) ∧ Stay (fun i => v.ownBlock = some i) w w' ∧ (v'.ownBlock = v.ownBlock ∨ v'.ownBlock = some (w.heap.size + 1)) := by
  obtain ⟨i0, hi, hz0, hz1, hz2⟩ := info_parts info5
  subst hx
  obtain ⟨v', w', hrun, h2, h3, h4⟩ := run_append_slc (P := Try.prog) (w.alloc (.cells #[.int .u8 ((f n).toNat : Int)] 5)) base 24 ty i0 Try.underlying24 hi hz0 hz1 hz2 v (.slice (some ⟨w.heap.size, 0, none⟩) 1 1) (lf n f) [f n] (hown.alloc _) (slc_block w [f n] 5 (0, 0) (by simp)) (by rw [length_lf]; simp; omega) (by simp; omega)
  refine ⟨v', w', hrun, by rw [lf_succ]; exact h2, (Stay.alloc w _).trans (Stay.grown h3 (fun k e => e)), ?_⟩
  have hsz : (w.alloc (.cells #[.int .u8 ((f n).toNat : Int)] 5)).heap.size = w.heap.size + 1 := by simp
  rw [hsz] at h4
  exact h4
theorem append_1 (hgd : o.guard = none) (s x : Operand) (ho : o.op = .call { callee := .builtin .append, args := #[s, x], argTypes := #[24, 24] })
    {base n : Nat} {v : Value} {f : Nat → UInt8} {x1 : Int} (hs : a.eval s = v) (hx : a.eval x = .slice (some ⟨w.heap.size, 0, none⟩) 1 1) (hown : Owns base w v (lf n f)) (hx1 : x1 = ((f n).toNat : Int)) (hb : base ≤ w.heap.size) (hn : n ≤ 140737488355327)
    (h : ∀ v' w', Owns base w' v' (lf (n + 1) f) → Stay (fun i => v.ownBlock = some i) w w' → (v'.ownBlock = v.ownBlock ∨ v'.ownBlock = some (w.heap.size + 1)) → wpList Try.prog ops Q rest (a.put o.dst v') w') : wpList Try.prog ops Q (o :: rest) a (w.alloc (.cells #[.int .u8 x1] 5)) :=
  wpList_plain hgd fun _ hK => by
    obtain ⟨v', w', hrun, h2, h3, h4⟩ := run_append_1 (w := w) o.type hown hx1 hb hn
    unfold Oper.wp execOp
    simp only [ho, resolve, invoke, builtin, Sem.run_bind, Sem.run_pure, Result.andThen_ok, List.map_toArray, List.map_cons, List.map_nil, hs, hx, hrun]
    exact hK _ _ (h v' w' h2 h3 h4)
end
/-- What grew is one's own: of what there was nothing has turned. -/
theorem stay_grow {w0 w w' : World} {v : Value} (h : Stay (fun _ => False) w0 w) (hs : Stay (fun i => v.ownBlock = some i) w w') (hv : ∀ k, v.ownBlock = some k → w0.heap.size ≤ k) : Stay (fun _ => False) w0 w' :=
  h.andThen hs (fun i hi e => by have := hv i e; omega)
theorem Owns.ss {base : Nat} {w : World} {v : Value} {l : List UInt8} {X : Nat → Prop} (h : Owns base w v l) (hX : ∀ i, X i → i < base) : SSlc X w v l :=
  SSlc.of h.slc (fun _ k hk hx => by have := (h.lt k hk).1; have := hX k hx; omega)
theorem Slc.ss0 {w : World} {v : Value} {l : List UInt8} (h : Slc w v l) : SSlc (fun _ => False) w v l := fun _ hs => h.stay0 hs
theorem FB.ss {w : World} {g n : Nat} {f : Nat → UInt8} {X : Nat → Prop} (h : FB w g n f) (hn : n ≤ 9223372036854775807) (hX : ¬ X g) : SSlc X w (.slice (some ⟨g, 0, none⟩) n n) (lf n f) := by
  have := h.slc (o := 0) (c := n) n (by omega) (Nat.le_refl _) hn
  simp only [Nat.zero_add] at this
  refine SSlc.of this (fun _ k hk hx => ?_)
  have e : k = g := by simpa [Value.ownBlock] using hk.symm
  exact hX (e ▸ hx)

/-- Truths that are read. -/
def SB (X : Nat → Prop) (w : World) (x : Value) (n : Nat) (fl : Nat → Bool) : Prop :=
  ∃ a0 c, x = .slice a0 n c ∧ n ≤ c ∧ c ≤ 9223372036854775807 ∧ (0 < n → ∃ b o, a0 = some ⟨b, o, none⟩ ∧ ∀ k, k < n → SCell X w ⟨b, o + k, none⟩ (.bool (fl k)))
section
variable {X Y : Nat → Prop} {w w' : World} {x : Value} {n : Nat} {fl : Nat → Bool}
theorem SB.push (h : SB X w x n fl) (hs : Stay X w w') (hY : ∀ i, i < w.heap.size → Y i → X i) : SB Y w' x n fl := by
  obtain ⟨a0, c, e, h1, h2, h3⟩ := h
  refine ⟨a0, c, e, h1, h2, fun h0 => ?_⟩
  obtain ⟨b, o, e2, h4⟩ := h3 h0
  exact ⟨b, o, e2, fun k hk u hu => h4 k hk u (hs.andThen hu hY)⟩
theorem SB.stay (h : SB X w x n fl) (hs : Stay X w w') : SB X w' x n fl := h.push hs (fun _ _ e => e)
theorem SB.form (h : SB X w x n fl) : ∃ a0 c, x = .slice a0 n c ∧ n ≤ c ∧ c ≤ 9223372036854775807 := by
  obtain ⟨a0, c, e, h1, h2, _⟩ := h
  exact ⟨a0, c, e, h1, h2⟩
theorem SB.at {a0 : Option Addr} {m c : Nat} (h : SB X w (.slice a0 m c) n fl) {k : Nat} (hk : k < n) : ∃ b o, a0 = some ⟨b, o, none⟩ ∧ SCell X w ⟨b, o + k, none⟩ (.bool (fl k)) := by
  obtain ⟨a1, c1, e, _, _, h3⟩ := h
  cases e
  obtain ⟨b, o, e2, h4⟩ := h3 (by omega)
  exact ⟨b, o, e2, h4 k hk⟩
end
theorem SM.up {w : World} {x : Value} {n : Nat} {L : Nat → Nat} {M : Nat → Nat → UInt8} (h : SM (fun _ => False) w x n L M) : SM (fun i => w.heap.size ≤ i) w x n L M := by
  obtain ⟨a0, c, e, h1, h2, h3⟩ := h
  refine ⟨a0, c, e, h1, h2, fun h0 => ?_⟩
  obtain ⟨b, o, e2, h4⟩ := h3 h0
  refine ⟨b, o, e2, fun k hk => ?_⟩
  obtain ⟨v, h5, h6⟩ := h4 k hk
  exact ⟨v, fun u hu => h5 u (stay_seal hu (fun _ h => h)), fun u hu => h6 u (stay_seal hu (fun _ h => h))⟩
end Go.Proofs.Ytaldpfamgfchoab.Rs
