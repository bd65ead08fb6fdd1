/-
  pack: bytes as a text; the laws' own 'sure'.
-/
import Derived.Test.YthbcgimmbcdnmaaDoorPkE
import Derived.Laws.IdiomStrings
import Derived.Laws.BytesArg
namespace Go.Proofs.YthbcgimmbcdnmaaDoor.Pk
open Go.RowKit
set_option maxRecDepth 100000

theorem stay_seal {X : Nat → Prop} {w w' : World} (h : Stay X w w') (hx : ∀ k, X k → w.heap.size ≤ k) : Stay (fun _ => False) w w' :=
  ⟨h.os, h.tape, h.output, h.size, fun k hk _ => h.block k hk (fun hX => by have := hx k hX; omega)⟩

/-- Bytes as a text. -/
def strV (b : List UInt8) : Value := .string ⟨b.toArray⟩
theorem conv_slc {w : World} {x : Value} {b : List UInt8} (h : Slc w x b) : (convert 36 9 x).run Tryd.prog w = .ok (strV b) w := by
  obtain ⟨a0, c, rfl, hr, hn, _⟩ := h
  cases a0 with
  | none =>
    have hb : b = [] := by
      rcases Nat.eq_zero_or_pos b.length with h0 | h0
      · exact List.eq_nil_of_length_eq_zero h0
      · obtain ⟨ad, e, _⟩ := hr h0
        cases e
    subst hb
    exact run_convert_bytes_nil (P := Tryd.prog) w 36 5 Tryd.underlying36 Tryd.underlying5 _ _ _ Tryd.underlying9
  | some ad =>
    refine run_convert_bytes_back (P := Tryd.prog) w 36 9 5 ad c b Tryd.underlying36 Tryd.underlying5 Tryd.underlying9 (fun j hj => ?_)
    obtain ⟨ad', e, hc⟩ := hr (by omega)
    cases e
    exact hc j _ (by simp [cellsB, byteV, List.getElem?_eq_getElem hj])

theorem uint_at (X : Nat → Prop) (w : World) (p : Nat) (l : List UInt8) (n : Nat) (m : Int) (hm : m = (n : Int)) (h : WrAt X w p l) (hn : (n : Int) ≤ 18446744073709551615) (hlen : l.length + 9 ≤ 140737488355328) :
    Calls Tryd.prog 22 #[.pointer (some ⟨p, 0, none⟩), .int .u64 m] w fun e w' => e = .returned (.pointer (some ⟨p, 0, none⟩)) ∧ WrAt (fun k => X k ∨ w.heap.size ≤ k) w' p (l ++ spellB n) ∧ Stay X w w' := by
  subst hm
  exact uint_any X w p l n h hn hlen

/-- A fresh writer that has laid a number. -/
theorem fresh_uint (n : Nat) (m : Int) (w : World) (hm : m = (n : Int)) (hn : (n : Int) ≤ 18446744073709551615) :
    Calls Tryd.prog 22 #[.pointer (some ⟨w.heap.size, 0, none⟩), .int .u64 m] (w.alloc (.cells #[.slice none 0 0] 93)) fun e w' =>
      e = .returned (.pointer (some ⟨w.heap.size, 0, none⟩)) ∧ WrAt (fun k => w.heap.size ≤ k) w' w.heap.size (spellB n) ∧ Stay (fun _ => False) w w' :=
  (uint_at _ _ _ _ n m hm (WrAt.new w) hn (by simp)).mono fun e w' ⟨h1, h2, h3⟩ =>
    ⟨h1, h2.mono (fun k hk => by rcases hk with hk | hk; exact hk; simp at hk; omega), stay_seal ((Stay.alloc _ _).trans h3) (fun k hk => hk)⟩

theorem sure_plain : spellB 300 ++ boolB true = [129, 44, 1] := by decide
theorem sure_int : (takeB sigB 0 ⟨[1, 4], 0⟩).1 = -5 := by decide +kernel

end Go.Proofs.YthbcgimmbcdnmaaDoor.Pk
