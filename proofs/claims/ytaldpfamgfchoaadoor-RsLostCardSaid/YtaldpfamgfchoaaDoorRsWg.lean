/-
  rs's laws: truths appended; Decode whatever comes.
-/
import Derived.Test.YtaldpfamgfchoaaDoorRsWa
import Derived.Test.YtaldpfamgfchoaaDoorRsWd
namespace Go.Proofs.YtaldpfamgfchoaaDoor.Rs
open Go.RowKit Gf
set_option maxRecDepth 100000

theorem infoB : (Tryd.prog.info? 4).map (fun i => (i.zero, i.size, i.bytes)) = some (some (.bool false), 1, 1) := by kernel_rfl
def cellsF (n : Nat) (fl : Nat → Bool) : List Value := (List.range n).map (fun i => .bool (fl i))
theorem cellsF_get {n i : Nat} (fl : Nat → Bool) (hi : i < n) : (cellsF n fl)[i]? = some (.bool (fl i)) := by simp [cellsF, hi]
theorem length_cellsF (n : Nat) (fl : Nat → Bool) : (cellsF n fl).length = n := by simp [cellsF]
theorem run_append_flags {w : World} {xa : Option Addr} {n xc : Nat} {fl : Nat → Bool} (ty : TypeId) (hx : SB (fun _ => False) w (.slice xa n xc) n fl) (hc : xa = none → xc = 0) (hn : n ≤ 140737488355328) :
    ∃ v' w', (Builtin.append_ #[25, 25] ty #[.slice none 0 0, .slice xa n xc]).run Tryd.prog w = .ok v' w' ∧ SB (fun i => i < w.heap.size) w' v' n fl ∧ Stay (fun _ => False) w w' := by
  obtain ⟨i0, hi, hz0, hz1, hz2⟩ := info_parts infoB
  obtain ⟨a1, c1, e, _, _, h3⟩ := hx
  cases e
  cases xa with
  | none =>
    obtain rfl : n = 0 := by
      rcases Nat.eq_zero_or_pos n with h | h
      · exact h
      · obtain ⟨b, o, e, _⟩ := h3 h; cases e
    obtain rfl := hc rfl
    refine ⟨_, _, run_append_owned_none (P := Tryd.prog) w w.heap.size 25 ty 4 i0 1 Tryd.underlying25 hi (.slice none 0 0) 0 [] (World.ownsRow_nil w w.heap.size _ _), ⟨_, _, rfl, Nat.le_refl _, by decide, fun h => by omega⟩, Stay.refl _ _⟩
  | some ad =>
    obtain ⟨v', w', hrun, h4, h5, _, h7⟩ := run_append_own_at (P := Tryd.prog) w w.heap.size 25 ty 4 i0 (.bool false) 1 1 Tryd.underlying25 hi hz0 hz1 hz2 rfl (by decide) (.slice none 0 0) 0 [] (World.ownsRow_nil w w.heap.size _ _) ad n xc (cellsF n fl) (by rw [length_cellsF, Nat.mul_one])
      (fun j u hu => by
        have hj : j < n := by have := (List.getElem?_eq_some_iff.1 hu).1; rwa [length_cellsF] at this
        obtain ⟨b, o, e, h6⟩ := h3 (by omega)
        cases e
        rw [cellsF_get fl hj] at hu
        cases hu
        rw [add_at]
        exact (h6 j hj).now)
      (fun u hu => by
        obtain ⟨i, _, rfl⟩ := List.mem_map.1 hu
        rfl)
      (by unfold maxLen; omega) (by omega) (Nat.le_refl _)
    rw [Nat.zero_add, List.nil_append] at h4
    have hlt := World.ownsRow.lt h4
    refine ⟨v', w', hrun, ?_, Stay.grown (X := fun _ => False) h5 (fun k (e : (Value.slice none 0 0).ownBlock = some k) => by cases e)⟩
    have hcell := fun g hg => World.ownsRow.cells (g := g) h4 hg
    rcases h4.2 with ⟨e, h0⟩ | ⟨g, cap, cur, e, hb, hg, h8, h9, _⟩
    · subst h0
      exact ⟨_, _, e, Nat.le_refl _, by decide, fun h => by omega⟩
    · refine ⟨_, _, e, h8, by unfold maxLen at h9; omega, fun h0 => ⟨g, 0, rfl, fun k hk => SCell.of ?_ (fun hx => ?_)⟩⟩
      · have := hcell g (by rw [e]; rfl) k _ (cellsF_get fl hk)
        rwa [add_at] at this
      · have hx' : g < w.heap.size := hx
        omega
section
variable {ops : Array Oper} {rest : List Oper} {o : Oper} {a : Act} {w : World} {Q : Exit → Act → World → Prop}
theorem append_flags (hgd : o.guard = none) (s x : Operand) (ho : o.op = .call { callee := .builtin .append, args := #[s, x], argTypes := #[25, 25] })
    {xa : Option Addr} {n xc : Nat} {fl : Nat → Bool} (hs : a.eval s = .slice none 0 0) (hx : a.eval x = .slice xa n xc) (hsb : SB (fun _ => False) w (.slice xa n xc) n fl) (hc : xa = none → xc = 0) (hn : n ≤ 140737488355328)
    (h : ∀ v' w', SB (fun i => i < w.heap.size) w' v' n fl → Stay (fun _ => False) w w' → wpList Tryd.prog ops Q rest (a.put o.dst v') w') : wpList Tryd.prog ops Q (o :: rest) a w :=
  wpList_plain hgd fun _ hK => by
    obtain ⟨v', w', hrun, h2, h3⟩ := run_append_flags (w := w) o.type hsb hc hn
    unfold Oper.wp execOp
    simp only [ho, resolve, invoke, builtin, Sem.run_bind, Sem.run_pure, Result.andThen_ok, List.map_toArray, List.map_cons, List.map_nil, hs, hx, hrun]
    exact hK _ _ (h v' w' h2 h3)
end

/-- What Decode answers. -/
def selM (k m : Nat) (fl : Nat → Bool) : Option (Nat → Nat → UInt8) := runR k (augR k (fun i => rowF k ((sel fl (k + m)).getD i 0))) k
def decC (k m n nb : Nat) (L : Nat → Nat) (fl : Nat → Bool) : Nat :=
  if n ≠ k + m ∨ nb ≠ k + m then 1 else if evenB (sel fl (k + m)).length (fun i => L ((sel fl (k + m)).getD i 0)) = false then 2 else if (sel fl (k + m)).length < k then 20 else if (selM k m fl).isNone then 14 else 0
def decN (k m n nb : Nat) (L : Nat → Nat) (fl : Nat → Bool) : Nat := if decC k m n nb L fl = 0 then k + m else 0
def decM (k m : Nat) (D : Nat → Nat → UInt8) (fl : Nat → Bool) : Nat → Nat → UInt8 := prodF k (rowF k) (prodF k (backR k ((selM k m fl).getD (fun _ _ => 0))) (fun i => D ((sel fl (k + m)).getD i 0)))
theorem sm_no {X : Nat → Prop} {w : World} {c k m n nb : Nat} {L L' : Nat → Nat} {D : Nat → Nat → UInt8} {fl : Nat → Bool} (h : decC k m n nb L fl = c) (h0 : c ≠ 0) : SM X w (.slice none 0 0) (decN k m n nb L fl) L' D := by
  rw [decN, if_neg (by omega)]
  exact SM.none _ _ _ _
theorem decode_all {w : World} {c g k m n nb : Nat} {x y : Value} {L : Nat → Nat} {D : Nat → Nat → UInt8} {fl : Nat → Bool} (hc : Cd w c g k m) (hx : SM (· = g) w x n L D) (hy : SB (· = g) w y nb fl) (hl : n = k + m → ∀ i, i < k + m → L i ≤ 281474976710656) :
    Calls Tryd.prog 13 #[.pointer (some ⟨c, 0, none⟩), x, y] w fun e w' => ∃ v, e = .returned (.tuple #[v, errV (decC k m n nb L fl)]) ∧ SM (fun i => i < w.heap.size) w' v (decN k m n nb L fl) (fun _ => L ((sel fl (k + m)).getD 0 0)) (decM k m D fl) ∧ Cd w' c g k m ∧ Stay (· = g) w w' := by
  by_cases h1 : n ≠ k + m ∨ nb ≠ k + m
  · have e1 : decC k m n nb L fl = 1 := if_pos h1
    refine (decode_count hc hx hy h1).mono ?_
    rintro e w1 ⟨rfl, e2⟩
    cases e2
    refine ⟨_, by rw [e1]; rfl, sm_no e1 (by decide), hc, Stay.refl _ _⟩
  · obtain ⟨rfl, rfl⟩ : n = k + m ∧ nb = k + m := by omega
    refine (decode_any hc hx hy (fun i hi _ => hl rfl i hi)).mono ?_
    rintro e w1 ⟨hc1, s1, ⟨he, rfl⟩ | ⟨he, hk, rfl⟩ | ⟨he, hk, ⟨hr, rfl⟩ | ⟨R, v, hr, rfl, hv⟩⟩⟩
    · have e1 : decC k m (k + m) (k + m) L fl = 2 := by unfold decC; rw [if_neg (by omega), if_pos he]
      exact ⟨_, by rw [e1]; rfl, sm_no e1 (by decide), hc1, s1⟩
    · have e1 : decC k m (k + m) (k + m) L fl = 20 := by unfold decC; rw [if_neg (by omega), if_neg (by rw [he]; decide), if_pos hk]
      exact ⟨_, by rw [e1]; rfl, sm_no e1 (by decide), hc1, s1⟩
    · have hr' : selM k m fl = none := hr
      have e1 : decC k m (k + m) (k + m) L fl = 14 := by unfold decC; rw [if_neg (by omega), if_neg (by rw [he]; decide), if_neg (by omega), hr']; rfl
      exact ⟨_, by rw [e1]; rfl, sm_no e1 (by decide), hc1, s1⟩
    · have hr' : selM k m fl = some R := hr
      have e1 : decC k m (k + m) (k + m) L fl = 0 := by unfold decC; rw [if_neg (by omega), if_neg (by rw [he]; decide), if_neg (by omega), hr']; rfl
      refine ⟨v, by rw [e1]; rfl, ?_, hc1, s1⟩
      rw [decN, if_pos e1, decM, hr']
      exact hv
theorem rdecode_all (w : World) (k m n nb : Nat) (x y : Value) (L : Nat → Nat) (D : Nat → Nat → UInt8) (fl : Nat → Bool) (hx : SM (fun _ => False) w x n L D) (hy : SB (fun _ => False) w y nb fl) (hk1 : 1 ≤ k) (hkm : k + m ≤ 32) (hl : n = k + m → ∀ i, i < k + m → L i ≤ 140737488355327) :
    Calls Tryd.prog 23 #[codeV k m, x, y] w fun e w' => ∃ v, e = .returned (.tuple #[v, .int .i64 (decC k m n nb L fl : Int)]) ∧ SM (fun i => i < w.heap.size) w' v (decN k m n nb L fl) (fun _ => L ((sel fl (k + m)).getD 0 0)) (decM k m D fl) ∧ Stay (fun _ => False) w w' := by
  by_cases h1 : n ≠ k + m ∨ nb ≠ k + m
  · have e1 : decC k m n nb L fl = 1 := if_pos h1
    refine (rdecode_count w k m n nb x y L D fl hx hy hkm h1).mono ?_
    rintro e w1 ⟨rfl, s1⟩
    refine ⟨_, by rw [e1]; rfl, sm_no e1 (by decide), s1⟩
  · obtain ⟨rfl, rfl⟩ : n = k + m ∧ nb = k + m := by omega
    refine (rdecode_any w k m x y L D fl hx hy hk1 hkm (fun i hi _ => hl rfl i hi)).mono ?_
    rintro e w1 ⟨s1, ⟨he, rfl⟩ | ⟨he, hk, rfl⟩ | ⟨he, hk, ⟨hr, rfl⟩ | ⟨R, v, hr, rfl, hv⟩⟩⟩
    · have e1 : decC k m (k + m) (k + m) L fl = 2 := by unfold decC; rw [if_neg (by omega), if_pos he]
      exact ⟨_, by rw [e1]; rfl, sm_no e1 (by decide), s1⟩
    · have e1 : decC k m (k + m) (k + m) L fl = 20 := by unfold decC; rw [if_neg (by omega), if_neg (by rw [he]; decide), if_pos hk]
      exact ⟨_, by rw [e1]; rfl, sm_no e1 (by decide), s1⟩
    · have hr' : selM k m fl = none := hr
      have e1 : decC k m (k + m) (k + m) L fl = 14 := by unfold decC; rw [if_neg (by omega), if_neg (by rw [he]; decide), if_neg (by omega), hr']; rfl
      exact ⟨_, by rw [e1]; rfl, sm_no e1 (by decide), s1⟩
    · have hr' : selM k m fl = some R := hr
      have e1 : decC k m (k + m) (k + m) L fl = 0 := by unfold decC; rw [if_neg (by omega), if_neg (by rw [he]; decide), if_neg (by omega), hr']; rfl
      refine ⟨v, by rw [e1]; rfl, ?_, s1⟩
      rw [decN, if_pos e1, decM, hr']
      exact hv
theorem sb_mono {X Y : Nat → Prop} {w : World} {x : Value} {n : Nat} {fl : Nat → Bool} (h : SB X w x n fl) (hx : ∀ k, Y k → X k) : SB Y w x n fl := h.push (Stay.refl _ _) (fun i _ e => hx i e)
end Go.Proofs.YtaldpfamgfchoaaDoor.Rs
