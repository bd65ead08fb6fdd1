/-
  mem's laws: what is put one behind the other; a Mem and the document's entries beside it.
-/
import Derived.Test.YtnhcnikickihgaaMeL
namespace Go.Proofs.Ytnhcnikickihgaa.Me
open Go.RowKit Go.Maps
set_option maxRecDepth 100000
set_option linter.unusedVariables false

/-- A guard: the operation that comes up is this one. -/
theorem at_op {P : Program} {ops : Array Oper} {rest : List Oper} {o : Oper} {a : Act} {w : World} {Q : Exit → Act → World → Prop} (p : Op) (ho : o.op = p) (h : wpList P ops Q (o :: rest) a w) : wpList P ops Q (o :: rest) a w := h
/-- What is there when the first j of these were put. -/
def putsL (L : List En) : Nat → List En
  | 0 => []
  | j + 1 => match L[j]? with
    | some e => putL (putsL L j) e
    | none => putsL L j
theorem putsL_succ {L : List En} {j : Nat} {e : En} (h : L[j]? = some e) : putsL L (j + 1) = putL (putsL L j) e := by
  rw [putsL, h]
theorem putsL_len (L : List En) : ∀ j, (putsL L j).length ≤ j
  | 0 => Nat.le_refl _
  | j + 1 => by
    have := putsL_len L j
    unfold putsL
    split
    · have := length_putL_le (putsL L j) ‹_›
      omega
    · omega
theorem putsL_sorted (L : List En) : ∀ j, Sorted (putsL L j)
  | 0 => sorted_nil
  | j + 1 => by
    have := putsL_sorted L j
    unfold putsL
    split
    · exact sorted_put this _
    · exact this
/-- How long texts are that came in. -/
def Short (L : List En) : Prop := ∀ e ∈ L, e.k.length ≤ 140737488351232 ∧ e.v.length ≤ 140737488351232
theorem short_put {L : List En} (h : Short L) {e : En} (he : e.k.length ≤ 140737488351232 ∧ e.v.length ≤ 140737488351232) : Short (putL L e) := by
  intro x hx
  unfold putL at hx
  rcases List.mem_append.1 hx with hx | hx
  · exact h x (List.mem_of_mem_take hx)
  · rcases List.mem_cons.1 hx with rfl | hx
    · have := norm_len e
      rw [norm_k]
      omega
    · exact h x (List.mem_of_mem_drop hx)
theorem short_puts {L : List En} (h : Short L) : ∀ j, Short (putsL L j)
  | 0 => fun e he => by cases he
  | j + 1 => by
    have := short_puts h j
    unfold putsL
    split
    · rename_i e he
      exact short_put this (h e (List.mem_of_getElem? he))
    · exact this
theorem short_size {L : List En} (h : Short L) : sizeL L ≤ L.length * 281474976702464 := by
  induction L with
  | nil => exact Nat.le_refl _
  | cons e r ih =>
    have h1 := h e (by simp)
    have h2 := ih (fun x hx => h x (by simp [hx]))
    rw [sizeL, List.length_cons]
    omega
theorem size_puts {L : List En} (h : Short L) {j : Nat} (hj : j ≤ 1000) : sizeL (putsL L j) ≤ 1000000000000000000 := by
  have h1 := short_size (short_puts h j)
  have h2 := putsL_len L j
  have h3 : (putsL L j).length * 281474976702464 ≤ 1000 * 281474976702464 := Nat.mul_le_mul_right _ (by omega)
  omega

/-- A Mem that was made since w0, and the same entries as the document has them. -/
structure Two (w0 w : World) (p : Nat) (v : Value) (M : List En) : Prop where
  b : ∃ B : Nat → Prop, (∀ k, B k → w0.heap.size ≤ k) ∧ MAt B w p M ∧ ∀ k, v.ownBlock = some k → ¬ B k
  o : EnO w0.heap.size w v M
  s : Stay (fun _ => False) w0 w
/-- Where the Mem is one entry ahead. -/
structure Mid (w0 w : World) (p : Nat) (v : Value) (M : List En) (e : En) : Prop where
  b : ∃ B : Nat → Prop, (∀ k, B k → w0.heap.size ≤ k) ∧ MAt B w p (putL M e)
  o : EnO w0.heap.size w v M
  s : Stay (fun _ => False) w0 w
section
variable {w0 w w' : World} {p : Nat} {v : Value} {M : List En} {e : En}
theorem Two.stay0 (h : Two w0 w p v M) (hs : Stay (fun _ => False) w w') : Two w0 w' p v M := by
  obtain ⟨B, h1, h2, h3⟩ := h.b
  exact ⟨⟨B, h1, h2.stay0 hs, h3⟩, h.o.stay0 hs, h.s.trans hs⟩
theorem Two.mr (h : Two w0 w p v M) : MR w (.pointer (some ⟨p, 0, none⟩)) M := by
  obtain ⟨B, h1, h2, h3⟩ := h.b
  exact h2.mr
theorem Two.srt (h : Two w0 w p v M) : Sorted M := by
  obtain ⟨B, h1, h2, h3⟩ := h.b
  exact h2.srt
theorem Mid.stay0 (h : Mid w0 w p v M e) (hs : Stay (fun _ => False) w w') : Mid w0 w' p v M e := by
  obtain ⟨B, h1, h2⟩ := h.b
  exact ⟨⟨B, h1, h2.stay0 hs⟩, h.o.stay0 hs, h.s.trans hs⟩
theorem two_new (h : Since w0 w p []) : Two w0 w p (.slice none 0 0) [] := ⟨⟨_, fun k hk => hk, h.1, fun k hk => by cases hk⟩, EnO.nil _ _, h.2⟩
theorem two_put (e : En) (h : Two w0 w p v M) (hl : M.length ≤ 1000) :
    Calls Try.prog 8 #[.pointer (some ⟨p, 0, none⟩), enV e] w fun x w' => x = .returned (.tuple #[]) ∧ Mid w0 w' p v M e := by
  obtain ⟨B, h1, h2, h3⟩ := h.b
  refine (put_any w p M e h2 hl).mono fun x w' ⟨hx, hp⟩ => ⟨hx, ⟨_, fun k hk => ?_, hp.m⟩, h.o.stay hp.s (fun k hk => h3 k hk), stay_seal ((h.s.mono (fun _ x => x.elim)).trans hp.s) h1⟩
  rcases hk with hk | hk
  · exact h1 k hk
  · have := h.s.size; omega
theorem two_rput (h : Mid w0 w p v M e) (hl : M.length ≤ 1000) :
    Calls Try.prog 14 #[v, enV e] w fun y w' => ∃ v', y = .returned v' ∧ Two w0 w' p v' (putL M e) := by
  obtain ⟨B, h1, h2⟩ := h.b
  refine (rput_any w v M e h.o.ens hl).mono fun y w' ⟨v', hy, ho, hs⟩ => ⟨v', hy, ⟨fun k => B k ∧ k < w.heap.size, fun k hk => h1 k hk.1, (h2.mono (fun k hk hB => ⟨hB, hk⟩)).stay0 hs, fun k hk hB => ?_⟩, ho.rebase (fun k hk => ?_), h.s.trans hs⟩
  · have := (ho.lt k hk).1; omega
  · have h4 := (ho.lt k hk).1
    have h5 := h.s.size
    omega
end
end Go.Proofs.Ytnhcnikickihgaa.Me
