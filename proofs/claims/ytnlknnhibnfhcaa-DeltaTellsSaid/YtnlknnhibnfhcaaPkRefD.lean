/-
  The document's answer (chapter 2): a reader's Bytes (and texts).
-/
import Derived.Test.YtnlknnhibnfhcaaPkRefC
namespace Go.Proofs.Ytnlknnhibnfhcaa.Pk
open Go.RowKit
set_option maxRecDepth 100000

/-- What the document's reader hands back with bytes. -/
def BytRet (w : World) (x : Value) (t : List UInt8 × RS) (e : Ending) : Prop := ∃ x' v', e = .returned (.tuple #[rdV x' t.2.err, v']) ∧ Sub w x x' t.2.b ∧ Sub w x v' t.1

theorem Sub.nil (w : World) (x : Value) : Sub w x (.slice none 0 0) [] := ⟨⟨none, 0, rfl, fun h => by simp at h, fun _ => rfl, Nat.le_refl _, by decide⟩, fun _ e => by cases e⟩

/-- The end behind 'fail': the reader as it was, with an error. -/
theorem byt_fail {w W : World} {a0 : Option Addr} {cap : Nat} {b : List UInt8} {c : Nat} (h : Slc w (.slice a0 b.length cap) b) (hs : Stay (fun _ => False) w W) : BytRet W (.slice a0 b.length cap) ([], ⟨b, c⟩) (.returned (.tuple #[rdV (.slice a0 b.length cap) c, .slice none 0 0])) :=
  ⟨_, _, rfl, Sub.stay0 (Sub.refl h) hs, Sub.nil _ _⟩

end Go.Proofs.Ytnlknnhibnfhcaa.Pk
