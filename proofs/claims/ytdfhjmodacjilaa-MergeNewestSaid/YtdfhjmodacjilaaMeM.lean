/-
  mem's laws: what is put one behind the other; a Mem and the document's entries beside it.
-/
import Derived.Test.YtdfhjmodacjilaaMeL
namespace Go.Proofs.Ytdfhjmodacjilaa.Me
open Go.RowKit Go.Maps
set_option maxRecDepth 100000
set_option linter.unusedVariables false

/-- A guard: the operation that comes up is this one. -/
theorem at_op {P : Program} {ops : Array Oper} {rest : List Oper} {o : Oper} {a : Act} {w : World} {Q : Exit → Act → World → Prop} (p : Op) (ho : o.op = p) (h : wpList P ops Q (o :: rest) a w) : wpList P ops Q (o :: rest) a w := h
/-- What is there when the first j of these were put. -/
def putsL (L : List En) : Nat → List En
  | 0 => []
  | j + 1 => match L[j]? with
    | some e => putL (putsL L j) e
    | none => putsL L j
theorem putsL_succ {L : List En} {j : Nat} {e : En} (h : L[j]? = some e) : putsL L (j + 1) = putL (putsL L j) e := by
  rw [putsL, h]
theorem putsL_len (L : List En) : ∀ j, (putsL L j).length ≤ j
  | 0 => Nat.le_refl _
  | j + 1 => by
    have := putsL_len L j
    unfold putsL
    split
    · have := length_putL_le (putsL L j) ‹_›
      omega
    · omega
theorem putsL_sorted (L : List En) : ∀ j, Sorted (putsL L j)
  | 0 => sorted_nil
  | j + 1 => by
    have := putsL_sorted L j
    unfold putsL
    split
    · exact sorted_put this _
    · exact this
/-- How long texts are that came in. -/
def Short (L : List En) : Prop := ∀ e ∈ L, e.k.length ≤ 140737488351232 ∧ e.v.length ≤ 140737488351232
theorem short_put {L : List En} (h : Short L) {e : En} (he : e.k.length ≤ 140737488351232 ∧ e.v.length ≤ 140737488351232) : Short (putL L e) := by
  intro x hx
  unfold putL at hx
  rcases List.mem_append.1 hx with hx | hx
  · exact h x (List.mem_of_mem_take hx)
  · rcases List.mem_cons.1 hx with rfl | hx
    · have := norm_len e
      rw [norm_k]
      omega
    · exact h x (List.mem_of_mem_drop hx)
theorem short_puts {L : List En} (h : Short L) : ∀ j, Short (putsL L j)
  | 0 => fun e he => by cases he
  | j + 1 => by
    have := short_puts h j
    unfold putsL
    split
    · rename_i e he
      exact short_put this (h e (List.mem_of_getElem? he))
    · exact this
theorem short_size {L : List En} (h : Short L) : sizeL L ≤ L.length * 281474976702464 := by
  induction L with
  | nil => exact Nat.le_refl _
  | cons e r ih =>
    have h1 := h e (by simp)
    have h2 := ih (fun x hx => h x (by simp [hx]))
    rw [sizeL, List.length_cons]
    omega
theorem size_puts {L : List En} (h : Short L) {j : Nat} (hj : j ≤ 1000) : sizeL (putsL L j) ≤ 1000000000000000000 := by
  have h1 := short_size (short_puts h j)
  have h2 := putsL_len L j
  have h3 : (putsL L j).length * 281474976702464 ≤ 1000 * 281474976702464 := Nat.mul_le_mul_right _ (by omega)
  omega

section
variable {w0 w w' : World} {p : Nat} {v : Value} {M : List En} {e : En}
end
end Go.Proofs.Ytdfhjmodacjilaa.Me
