/-
  The document's answer (chapter 2): what is laid: own, Bool, Print, Bytes, Text.
-/
import Derived.Test.YthbcgimmbcdnmaaPkH
import Derived.Test.YthbcgimmbcdnmaaPkRef
namespace Go.Proofs.Ythbcgimmbcdnmaa.Pk
open Go.RowKit
set_option maxRecDepth 100000

theorem own_any (w : World) (x : Value) (b : List UInt8) (hx : Slc w x b) (hlen : b.length ≤ 140737488355328) :
    Calls Try.prog 73 #[x] w fun e w' => ∃ v, e = .returned v ∧ Owns w.heap.size w' v b ∧ Stay (fun _ => False) w w' := by
  obtain ⟨i0, hi, hz0, hz1, hz2⟩ := info_parts info5
  have HI := Lib.hid hi
  have HZ0 := Lib.hid hz0
  have HZ1 := Lib.hid hz1
  have HZ2 := Lib.hid hz2
  have HX := Lib.hid hx
  have how := Owns.nil w.heap.size w
  obtain ⟨a0, c, rfl, _⟩ := id hx
  clear hi hz0 hz1 hz2 hx
  go_enter Try.func73, Try.ntmps73
  go_wp2_with (at_builtin; refine wpList_append_slc rfl (.tmp 4) (.tmp 5) 36 rfl w.heap.size i0 Try.underlying36 HI.out HZ0.out HZ1.out HZ2.out (.slice none 0 0) _ [] b rfl rfl how HX.out (by simp; omega) (by simp) ?_; intro v' w1 hown hgr hnn)
  go_ret
  exact ⟨v', rfl, by simpa using hown, stay_seal (X := fun k => w.heap.size ≤ k) (Stay.grown (X := fun k => w.heap.size ≤ k) hgr (fun k hk => by cases hk)) (fun k hk => hk)⟩

end Go.Proofs.Ythbcgimmbcdnmaa.Pk
