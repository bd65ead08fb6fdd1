/-
  mem: an entry laid in.
-/
import Derived.Test.YtdfhjmodacjilaaMeG
import Derived.Great.BuildSlice
namespace Go.Proofs.Ytdfhjmodacjilaa.Me
open Go.RowKit Go.Maps
set_option maxRecDepth 100000
set_option linter.unusedVariables false

/-- What turned of a Mem: its block, or its entries'. -/
def Own (p : Nat) (v : Value) (k : Nat) : Prop := k = p ∨ v.ownBlock = some k

theorem splice_put (L : List En) (R : List Value) (e : En) {i : Nat} (hi : i < L.length) (hR : R.take (L.length * 3) = enRows L) :
    (splice R (i * 3) (enC e)).take (L.length * 3) = enRows (L.take i ++ e :: L.drop (i + 1)) := by
  have h3 : (enC e).length = 3 := rfl
  have hl := length_enRows L
  obtain ⟨T, hT⟩ : ∃ T, R = enRows L ++ T := ⟨R.drop (L.length * 3), by rw [← hR, List.take_append_drop]⟩
  subst hT
  have e1 : splice (enRows L ++ T) (i * 3) (enC e) = enRows (L.take i ++ e :: L.drop (i + 1)) ++ T := by
    unfold splice
    rw [List.take_append_of_le_length (by omega), enRows_take L i (by omega), h3, show i * 3 + 3 = (i + 1) * 3 by omega, List.drop_append_of_le_length (by omega), enRows_drop L (i + 1) (by omega), enRows_append, enRows_cons]
    simp only [List.append_assoc]
  have e2 : (enRows (L.take i ++ e :: L.drop (i + 1))).length = L.length * 3 := by
    rw [length_enRows, List.length_append, List.length_cons, List.length_take, List.length_drop]
    omega
  rw [e1, List.take_append_of_le_length (by omega), List.take_of_length_le (by omega)]
theorem run_store_en {w : World} {b o : Nat} {S : List Value} {e : En} (hg : w.heap[b]? = some (.cells S.toArray 28 (0, 0))) (hf : o + 3 ≤ S.length) :
    (storeVar 28 ⟨b, o, none⟩ (enV e)).run Try.prog w = .ok () (w.setRow b (splice S o (enC e)).toArray) :=
  run_storeVar_mid (P := Try.prog) w b o 28 28 S (enC e) hg size_en hf (one_enC e)

theorem step_load_run {P : Program} {ops : Array Oper} {Q : Exit → Act → World → Prop} {o : Oper} {a : Act} {w : World} {K : Act → World → Prop} {E : Prop} (hw : Region.wanted o (yielded ops a.tmps) = true) (ty : TypeId) (x : Operand) (ho : o.op = .load ty x) (ad : Addr) (hx : a.eval x = .pointer (some ad)) (v : Value)
    (hl : (loadVar ty ad).run P w = .ok v w) (h : K (a.put o.dst v) w) : if Region.wanted o (yielded ops a.tmps) = true then Oper.wp P o a w K Q else E := by
  rw [if_pos hw]
  unfold Oper.wp execOp
  simp only [ho, hx, Instr.loadAt, Instr.sureAddr, Sem.run_bind, Sem.run_pure, Result.andThen_ok, hl]
  exact h
/-- A slice of one entry, made. -/
theorem step_one_en {ops : Array Oper} {Q : Exit → Act → World → Prop} {o : Oper} {a : Act} {w : World} {K : Act → World → Prop} {E : Prop} (hw : Region.wanted o (yielded ops a.tmps) = true) (x : Operand) (ho : o.op = .buildSlice 25 1 #[(0, x)]) (e : En) (hx : a.eval x = enV e)
    (h : K (a.put o.dst (.slice (some ⟨w.heap.size, 0, none⟩) 1 1)) (w.alloc (.cells (enC e).toArray 28))) : if Region.wanted o (yielded ops a.tmps) = true then Oper.wp Try.prog o a w K Q else E := by
  obtain ⟨i0, hi0, hz0, hzs, hzb⟩ := info_parts info_en
  rw [if_pos hw]
  refine wp_buildSlice 25 28 1 #[(0, x)] ho (enC e).toArray i0 zeroV Try.underlying25 hi0 hz0 (by rw [hzs]; decide) (by rw [hzs]; decide) ?_ h
  rw [hzs]
  simp only [List.map_toArray, List.map_cons, List.map_nil, hx]
  simp [Instr.fill, enV, enC, zeroV, Value.cells, Array.range]
  apply Array.ext_getElem?
  intro j
  match j with
  | 0 => simp
  | 1 => simp
  | 2 => simp
  | j + 3 => simp
theorem run_load_slice {w : World} {p : Nat} {v : Value} (hc : w.cell? ⟨p, 0, none⟩ = some v) : (loadVar 25 ⟨p, 0, none⟩).run Try.prog w = .ok v w := by
  have hu := run_underlying (P := Try.prog) Try.underlying25 w
  simp [loadVar, isAgg, hu]
  rw [hc]

end Go.Proofs.Ytdfhjmodacjilaa.Me
