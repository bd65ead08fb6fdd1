/-
  rs: settle's parts: the swap, and what is found first.
-/
import Derived.Test.YtaldpfamgfchoabRsH
import Derived.BigRegion
import Derived.Test.YtaldpfamgfchoabHeld
namespace Go.Proofs.Ytaldpfamgfchoab.Rs
open Go.RowKit Gf
set_option maxRecDepth 100000

theorem firstP_shift (p : Nat → Bool) (j : Nat) : ∀ (m i : Nat), firstP (fun l => p (j + l)) i m = (firstP p (j + i) m).map (· - j)
  | 0, _ => rfl
  | m + 1, i => by
    unfold firstP
    by_cases h : p (j + i) = true
    · rw [if_pos h, if_pos h]
      show some i = some (j + i - j)
      rw [Nat.add_sub_cancel_left]
    · rw [if_neg h, if_neg h, firstP_shift p j m (i + 1)]
      rfl
section
variable {X : Nat → Prop} {w w' : World} {base gb n W : Nat} {h : Nat → Nat} {R : Nat → Nat → UInt8}
/-- The rows from a place on. -/
theorem PM.readFrom (p : PM w base gb n W n h R) {j : Nat} (hn : n ≤ 9223372036854775807) (hW : W ≤ 9223372036854775807) : SM (fun i => i < base) w (.slice (some ⟨gb, j, none⟩) (n - j) (n - j)) (n - j) (fun _ => W) (fun i => R (j + i)) := by
  refine ⟨_, _, rfl, Nat.le_refl _, by omega, fun _ => ⟨gb, j, rfl, fun k hk => ⟨_, SCell.of (p.cell (i := j + k) (by omega) (by omega)) (fun e => by have := p.lo; have h1 : gb < base := e; omega), ?_⟩⟩⟩
  refine SSlc.of ?_ (fun _ i hi e => by
    have h1 := p.lr (j + k) (by omega)
    have h2 : i = h (j + k) := by simpa [Value.ownBlock] using hi.symm
    omega)
  have := (p.row (j + k) (by omega)).slc (o := 0) (c := W) W (by omega) (Nat.le_refl _) hW
  simpa using this
/-- Two rows have changed places. -/
theorem PM.swap (p : PM w base gb n W n h R) {a b : Nat} (ha : a < n) (hb : b < n) {v : Nat → Value} (hl : LB w' gb n v) (hv : ∀ i, i < n → v i = if i = a then .slice (some ⟨h b, 0, none⟩) W W else if i = b then .slice (some ⟨h a, 0, none⟩) W W else .slice (some ⟨h i, 0, none⟩) W W)
    (hs : Stay (· = gb) w w') : PM w' base gb n W n (fun i => if i = a then h b else if i = b then h a else h i) (swapR R a b) := by
  have key : ∀ i, i < n → ∃ l, l < n ∧ (if i = a then h b else if i = b then h a else h i) = h l ∧ swapR R a b i = R l ∧ l = (if i = a then b else if i = b then a else i) := by
    intro i hi
    unfold swapR
    by_cases e1 : i = a
    · exact ⟨b, hb, by rw [if_pos e1], by rw [if_pos e1], by rw [if_pos e1]⟩
    · by_cases e2 : i = b
      · exact ⟨a, ha, by rw [if_neg e1, if_pos e2], by rw [if_neg e1, if_pos e2], by rw [if_neg e1, if_pos e2]⟩
      · exact ⟨i, hi, by rw [if_neg e1, if_neg e2], by rw [if_neg e1, if_neg e2], by rw [if_neg e1, if_neg e2]⟩
  refine ⟨hl.congr (fun i hi => ?_), fun i hi => ?_, fun i hi => ?_, fun i j hi hj e => ?_, p.lo, fun i hi => ?_⟩
  · rw [hv i hi, if_pos hi]
    by_cases e1 : i = a
    · simp only [e1, if_true]
    · by_cases e2 : i = b
      · rw [if_neg e1, if_pos e2, if_neg e1, if_pos e2]
      · simp only [e1, e2, if_false]
  · obtain ⟨l, hl, e1, e2, _⟩ := key i hi
    rw [e1, e2]
    exact (p.row l hl).stay hs (p.ne l hl)
  · obtain ⟨l, hl, e1, _⟩ := key i hi
    rw [e1]
    exact p.ne l hl
  · obtain ⟨l, hl, e1, _, e3⟩ := key i hi
    obtain ⟨l2, hl2, e4, _, e6⟩ := key j hj
    rw [e1, e4] at e
    have := p.inj l l2 hl hl2 e
    clear e1 e4 e
    repeat' split at e3
    all_goals (repeat' split at e6)
    all_goals omega
  · obtain ⟨l, hl, e1, _⟩ := key i hi
    rw [e1]
    exact p.lr l hl
end
theorem swapR_self (R : Nat → Nat → UInt8) (j : Nat) : swapR R j j = R := by
  funext i
  unfold swapR
  by_cases e : i = j
  · rw [if_pos e, e]
  · rw [if_neg e, if_neg e]

section
variable {P : Program} {ops : Array Oper} {Q : Exit → Act → World → Prop} {md : Region.Mode} {S : World → Prop}
theorem wpAnyH_two {i j : Nat} {o o' : Oper} {fuel : Nat} {listed : Array Bool} {a : Act} {w : World} (li lj : Array Bool) (ho : ops[i]? = some o) (ho' : ops[j]? = some o') (hr : Region.ready md ops listed = [i, j]) (hl : listed.setIfInBounds i true = li) (hl' : listed.setIfInBounds j true = lj)
    (h : ∀ K : Act → World → Prop, (∀ a' w', S w' → wpAnyH P md ops Q S fuel li a' w' → K a' w') → if Region.wanted o (yielded ops a.tmps) = true then Oper.wp P o a w K Q else K (a.put o.dst undef) w)
    (h' : ∀ K : Act → World → Prop, (∀ a' w', S w' → wpAnyH P md ops Q S fuel lj a' w' → K a' w') → if Region.wanted o' (yielded ops a.tmps) = true then Oper.wp P o' a w K Q else K (a.put o'.dst undef) w) :
    wpAnyH P md ops Q S (fuel + 1) listed a w := by
  subst hl
  subst hl'
  refine wpAnyH_all hr (by simp) fun k hk => ?_
  have hk' : k = i ∨ k = j := by simpa using hk
  have g := h _ (fun a' w' h1 h2 => And.intro h1 h2)
  have g' := h' _ (fun a' w' h1 h2 => And.intro h1 h2)
  unfold wpOp
  rcases hk' with rfl | rfl
  · simp only [ho]
    split
    · rename_i hw
      rw [if_pos hw] at g
      exact .inl g
    · rename_i hw
      rw [if_neg hw] at g
      exact g
  · simp only [ho']
    split
    · rename_i hw
      rw [if_pos hw] at g'
      exact .inl g'
    · rename_i hw
      rw [if_neg hw] at g'
      exact g'
end

theorem settle_one (W0 : World) (b j li ci : Nat) (ai : Option Addr) (f : Nat → UInt8) (hb : W0.cell? ⟨b, 0, none⟩ = some (.int .i64 (j : Int))) (hj : j < li) (hs : Slc W0 (.slice ai li ci) (lf li f)) :
    Calls Try.prog 28 #[.slice ai li ci, .pointer (some ⟨b, 0, none⟩)] W0 fun e w' => e = .returned (.bool (f j != 0)) ∧ Stay (fun _ => False) W0 w' := by
  obtain ⟨ad, rfl, hc⟩ := Slc.at hs hj
  have q0 : (j : Int) < (li : Int) := by omega
  have e : (((f j).toNat : Int) != 0) = (f j != 0) := by
    by_cases h : f j = 0
    · rw [h]; rfl
    · have h1 : (((f j).toNat : Int) == 0) = false := by have := u8_ne h; simp; omega
      have h2 : (f j == 0) = false := by simpa using h
      simp only [bne, h1, h2]
  rw [← e]
  clear hs hj e
  go_enter Try.func28, Try.ntmps28
  go_wp2
  go_ret
  exact ⟨rfl, Stay.refl _ _⟩
end Go.Proofs.Ytaldpfamgfchoab.Rs
