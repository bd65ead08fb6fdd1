/-
  The document's answer (chapter 2): Int and Bytes.
-/
import Derived.Test.YthbcgimmbcdnmaaPkRefV2
import Derived.Test.YthbcgimmbcdnmaaPkW
namespace Go.Proofs.Ythbcgimmbcdnmaa.Pk
open Go.RowKit
set_option maxRecDepth 100000

theorem refuint_at (w : World) (x : Value) (b : List UInt8) (n : Nat) (m : Int) (hm : m = (n : Int)) (hx : Slc w x b) (hn : (n : Int) ≤ 18446744073709551615) (hlen : b.length + 9 ≤ 140737488355328) :
    Calls Try.prog 56 #[x, .int .u64 m] w fun e w' => ∃ v, e = .returned v ∧ Owns w.heap.size w' v (b ++ spellB n) ∧ Stay (fun _ => False) w w' := by
  subst hm
  exact refuint_any w x b n hx hn hlen

theorem refbytes_any (w : World) (x y : Value) (b l : List UInt8) (hx : Slc w x b) (hy : Slc w y l) (hlen : b.length + 9 + l.length ≤ 140737488355328) :
    Calls Try.prog 55 #[x, y] w fun e w' => ∃ v, e = .returned v ∧ Owns w.heap.size w' v (b ++ bytesB l) ∧ Stay (fun _ => False) w w' := by
  obtain ⟨i0, hi, hz0, hz1, hz2⟩ := info_parts info5
  have HI := Lib.hid hi
  have HZ0 := Lib.hid hz0
  have HZ1 := Lib.hid hz1
  have HZ2 := Lib.hid hz2
  have HX := Lib.hid hx
  have HY := Lib.hid hy
  obtain ⟨a0, c, rfl, _⟩ := id hy
  clear hi hz0 hz1 hz2 hx hy
  have hs := len_spell l.length
  go_enter Try.func55, Try.ntmps55
  go_wp2_with fail
  refine (refuint_at w x b l.length _ rfl HX.out (by omega) (by omega)).mono ?_
  rintro e w1 ⟨v, rfl, how, hst⟩
  have hz := hst.size
  obtain ⟨a1, c1, rfl⟩ := how.form
  rw [List.length_append] at how
  have HO := Lib.hid how
  have HY1 := Lib.hid (HY.out.stay0 hst)
  clear how
  go_wp2_with (at_builtin; refine wpList_append_slc rfl (.tmp 9) (.tmp 10) 36 rfl w.heap.size i0 Try.underlying36 HI.out HZ0.out HZ1.out HZ2.out (.slice a1 (b.length + (spellB l.length).length) c1) (.slice a0 l.length c) (b ++ spellB l.length) l rfl rfl HO.out HY1.out (by rw [List.length_append]; omega) hz ?_; intro v2 w2 hown2 hgr2 hnn2)
  go_ret
  refine ⟨v2, rfl, ?_, stay_seal (X := fun k => w.heap.size ≤ k) ((hst.mono (fun _ x => x.elim)).trans (Stay.grown (X := fun k => w.heap.size ≤ k) hgr2 (fun k hk => (HO.out.lt k hk).1))) (fun k hk => hk)⟩
  unfold bytesB
  rw [← List.append_assoc]
  exact hown2

end Go.Proofs.Ythbcgimmbcdnmaa.Pk
