/-
  mem: slices.Insert of one entry into entries of the call's own: at the end; in the middle, with room and without.
-/
import Derived.Test.YtdfhjmodacjilaaMeD
namespace Go.Proofs.Ytdfhjmodacjilaa.Me
open Go.RowKit Go.Maps
set_option maxRecDepth 100000
set_option linter.unusedVariables false

/-- A row shifted by one entry, and one laid in. -/
theorem splice_shift (L : List En) (R : List Value) (e : En) {i : Nat} (hi : i ≤ L.length) (hR : R.take (L.length * 3) = enRows L) (hl : (L.length + 1) * 3 ≤ R.length) :
    (splice (splice R ((i + 1) * 3) (enRows (L.drop i))) (i * 3) (enC e)).take ((L.length + 1) * 3) = enRows (L.take i ++ e :: L.drop i) := by
  have hT : R.take (i * 3) = enRows (L.take i) := by
    rw [← enRows_take L i hi, ← hR, List.take_take]
    congr 1
    omega
  have hD : (enRows (L.drop i)).length = (L.length - i) * 3 := by rw [length_enRows, List.length_drop]
  have h3 : (enC e).length = 3 := rfl
  unfold splice
  have e1 : (R.take ((i + 1) * 3) ++ (enRows (L.drop i) ++ R.drop ((i + 1) * 3 + (enRows (L.drop i)).length))).take (i * 3) = enRows (L.take i) := by
    rw [List.take_append_of_le_length (by rw [List.length_take]; omega), List.take_take, show min (i * 3) ((i + 1) * 3) = i * 3 by omega, hT]
  have e2 : (R.take ((i + 1) * 3) ++ (enRows (L.drop i) ++ R.drop ((i + 1) * 3 + (enRows (L.drop i)).length))).drop (i * 3 + (enC e).length) = enRows (L.drop i) ++ R.drop ((i + 1) * 3 + (enRows (L.drop i)).length) := by
    rw [List.drop_append, List.drop_eq_nil_of_le (by rw [List.length_take]; omega), List.nil_append, List.length_take, show i * 3 + (enC e).length - min ((i + 1) * 3) R.length = 0 by omega, List.drop_zero]
  rw [e1, e2, enRows_append, enRows_cons, ← List.append_assoc (enC e), ← List.append_assoc, List.take_append_of_le_length]
  · rw [List.take_of_length_le]
    rw [List.length_append, List.length_append, length_enRows, hD, h3, List.length_take]
    omega
  · rw [List.length_append, List.length_append, length_enRows, hD, h3, List.length_take]
    omega
/-- A row whose begin stands, one laid in behind it, and then the rest. -/
theorem splice_fill (L : List En) (R : List Value) (e : En) {i : Nat} (hi : i ≤ L.length) (hR : R.take (i * 3) = enRows (L.take i)) (hl : (L.length + 1) * 3 ≤ R.length) :
    (splice (splice R (i * 3) (enC e)) ((i + 1) * 3) (enRows (L.drop i))).take ((L.length + 1) * 3) = enRows (L.take i ++ e :: L.drop i) := by
  have hD : (enRows (L.drop i)).length = (L.length - i) * 3 := by rw [length_enRows, List.length_drop]
  have h3 : (enC e).length = 3 := rfl
  unfold splice
  have e1 : (R.take (i * 3) ++ (enC e ++ R.drop (i * 3 + (enC e).length))).take ((i + 1) * 3) = enRows (L.take i) ++ enC e := by
    rw [hR, ← List.append_assoc, List.take_append_of_le_length (by rw [List.length_append, length_enRows, h3, List.length_take]; omega), List.take_of_length_le (by rw [List.length_append, length_enRows, h3, List.length_take]; omega)]
  rw [e1, enRows_append, enRows_cons, ← List.append_assoc (enRows (L.take i) ++ enC e), List.take_append_of_le_length]
  · rw [List.take_of_length_le, List.append_assoc]
    rw [List.length_append, List.length_append, length_enRows, hD, h3, List.length_take]
    omega
  · rw [List.length_append, List.length_append, length_enRows, hD, h3, List.length_take]
    omega

theorem run_copy_en (w : World) (ty : TypeId) (g o dLen dCap : Nat) (ad : Addr) (sLen sCap : Nat) (cur : List Value) (cs : List Value)
    (hg : w.heap[g]? = some (.cells cur.toArray 28 (0, 0))) (hn : cs.length = Nat.min sLen dLen * 3)
    (hsrc : ∀ j v, cs[j]? = some v → w.cell? (ad.add j) = some v) (hfit : o + cs.length ≤ cur.length) (h1 : ∀ v ∈ cs, v.oneCell' = true) :
    (Builtin.copy_ #[25, 25] ty #[.slice (some ⟨g, o, none⟩) dLen dCap, .slice (some ad) sLen sCap]).run Try.prog w =
      .ok (goInt (Nat.min sLen dLen)) (w.setRow g (splice cur o cs).toArray) := by
  have := run_copy_sized (P := Try.prog) w 25 25 ty 28 3 g o dLen dCap ad sLen sCap cur.toArray 28 cs Try.underlying25 size_en hg hn hsrc (by simpa using hfit) h1
  simpa using this
section
variable {w : World} {o : Oper} {a : Act} {Q : Exit → Act → World → Prop} {ops : Array Oper}
theorem wpList_copy_en {rest : List Oper} (hgd : o.guard = none) (d s : Operand) (ho : o.op = .call { callee := .builtin .copy, args := #[d, s], argTypes := #[25, 25] })
    (g off dLen dCap : Nat) (ad : Addr) (sLen sCap : Nat) (hd : a.eval d = .slice (some ⟨g, off, none⟩) dLen dCap) (hs : a.eval s = .slice (some ad) sLen sCap) (cur cs : List Value)
    (hg : w.heap[g]? = some (.cells cur.toArray 28 (0, 0))) (hn : cs.length = Nat.min sLen dLen * 3)
    (hsrc : ∀ j v, cs[j]? = some v → w.cell? (ad.add j) = some v) (hfit : off + cs.length ≤ cur.length) (h1 : ∀ v ∈ cs, v.oneCell' = true)
    (h : ∀ w', Hid (w'.heap[g]? = some (.cells (splice cur off cs).toArray 28 (0, 0))) → Hid (Stay (· = g) w w') → wpList Try.prog ops Q rest (a.put o.dst (goInt (Nat.min sLen dLen))) w') : wpList Try.prog ops Q (o :: rest) a w :=
  wpList_plain hgd fun _ hK => by
    have hrun := run_copy_en w o.type g off dLen dCap ad sLen sCap cur cs hg hn hsrc hfit h1
    unfold Oper.wp execOp
    simp only [ho, resolve, invoke, builtin, Sem.run_bind, Sem.run_pure, Result.andThen_ok, List.map_toArray, List.map_cons, List.map_nil, hd, hs, hrun]
    exact hK _ _ (h _ (show _ = _ from setRow_heap w g _ _ _ _ hg) (Stay.setRow (X := fun k => k = g) w g _ rfl))
theorem step_copy_en {K : Act → World → Prop} {E : Prop} (hgd : o.guard = none) (d s : Operand) (ho : o.op = .call { callee := .builtin .copy, args := #[d, s], argTypes := #[25, 25] })
    (g off dLen dCap : Nat) (ad : Addr) (sLen sCap : Nat) (hd : a.eval d = .slice (some ⟨g, off, none⟩) dLen dCap) (hs : a.eval s = .slice (some ad) sLen sCap) (cur cs : List Value)
    (hg : w.heap[g]? = some (.cells cur.toArray 28 (0, 0))) (hn : cs.length = Nat.min sLen dLen * 3)
    (hsrc : ∀ j v, cs[j]? = some v → w.cell? (ad.add j) = some v) (hfit : off + cs.length ≤ cur.length) (h1 : ∀ v ∈ cs, v.oneCell' = true)
    (h : ∀ w', Hid (w'.heap[g]? = some (.cells (splice cur off cs).toArray 28 (0, 0))) → Hid (Stay (· = g) w w') → K (a.put o.dst (goInt (Nat.min sLen dLen))) w') : if Region.wanted o (yielded ops a.tmps) = true then Oper.wp Try.prog o a w K Q else E := by
  have hw : Region.wanted o (yielded ops a.tmps) = true := by simp [Region.wanted, hgd]
  rw [if_pos hw]
  have hrun := run_copy_en w o.type g off dLen dCap ad sLen sCap cur cs hg hn hsrc hfit h1
  unfold Oper.wp execOp
  simp only [ho, resolve, invoke, builtin, Sem.run_bind, Sem.run_pure, Result.andThen_ok, List.map_toArray, List.map_cons, List.map_nil, hd, hs, hrun]
  exact h _ (show _ = _ from setRow_heap w g _ _ _ _ hg) (Stay.setRow (X := fun k => k = g) w g _ rfl)
end

theorem shape_row {w : World} {g : Nat} {cs : Array Value} {t : TypeId} {fr : Nat × Nat} (h : w.heap[g]? = some (.cells cs t fr)) : w.shape? g = some (t, cs.size) := by
  unfold World.shape?
  rw [h]

/-- What Insert hands out. -/
structure Ins (w w' : World) (v v' : Value) (M : List En) : Prop where
  own : EnO 0 w' v' M
  stay : Stay (fun k => v.ownBlock = some k) w w'
  blk : v'.ownBlock = v.ownBlock ∨ ∃ k, v'.ownBlock = some k ∧ w.heap.size ≤ k

end Go.Proofs.Ytdfhjmodacjilaa.Me
