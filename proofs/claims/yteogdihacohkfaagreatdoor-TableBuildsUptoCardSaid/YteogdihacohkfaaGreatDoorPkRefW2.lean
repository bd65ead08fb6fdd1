/-
  The document's answer (chapter 2): what is laid: own, Bool, Print, Bytes, Text.
-/
import Derived.Test.YteogdihacohkfaaGreatDoorGaK
import Derived.Test.YteogdihacohkfaaGreatDoorPkRef
namespace Go.Proofs.YteogdihacohkfaaGreatDoor.Pk
open Go.RowKit
set_option maxRecDepth 100000

theorem own_any (w : World) (x : Value) (b : List UInt8) (hx : Slc w x b) (hlen : b.length ≤ 140737488355328) :
    Calls Tryz.prog 71 #[x] w fun e w' => ∃ v, e = .returned v ∧ Owns w.heap.size w' v b ∧ Stay (fun _ => False) w w' := by
  obtain ⟨i0, hi, hz0, hz1, hz2⟩ := info_parts info5
  have HI := Lib.hid hi
  have HZ0 := Lib.hid hz0
  have HZ1 := Lib.hid hz1
  have HZ2 := Lib.hid hz2
  have HX := Lib.hid hx
  have how := Owns.nil w.heap.size w
  obtain ⟨a0, c, rfl, _⟩ := id hx
  clear hi hz0 hz1 hz2 hx
  go_enter Tryz.func71, Tryz.ntmps71
  go_wp2_with (at_builtin; refine wpList_append_slc rfl (.tmp 4) (.tmp 5) 26 rfl w.heap.size i0 Tryz.underlying26 HI.out HZ0.out HZ1.out HZ2.out (.slice none 0 0) _ [] b rfl rfl how HX.out (by simp; omega) (by simp) ?_; intro v' w1 hown hgr hnn)
  go_ret
  exact ⟨v', rfl, by simpa using hown, stay_seal (X := fun k => w.heap.size ≤ k) (Stay.grown (X := fun k => w.heap.size ≤ k) hgr (fun k hk => by cases hk)) (fun k hk => hk)⟩

theorem refbool_any (w : World) (x : Value) (b : List UInt8) (is : Bool) (hx : Slc w x b) (hlen : b.length + 1 ≤ 140737488355328) :
    Calls Tryz.prog 73 #[x, .bool is] w fun e w' => ∃ v, e = .returned v ∧ Owns w.heap.size w' v (b ++ boolB is) ∧ Stay (fun _ => False) w w' := by
  obtain ⟨i0, hi, hz0, hz1, hz2⟩ := info_parts info5
  have HI := Lib.hid hi
  have HZ0 := Lib.hid hz0
  have HZ1 := Lib.hid hz1
  have HZ2 := Lib.hid hz2
  clear hi hz0 hz1 hz2
  cases is
  · go_enter Tryz.func73, Tryz.ntmps73
    go_wp2_with fail
    refine (own_any w x b hx (by omega)).mono ?_
    rintro e w1 ⟨v, rfl, how, hst⟩
    obtain ⟨a1, c1, rfl⟩ := how.form
    have HO := Lib.hid (how.stay0 (Stay.alloc w1 (.cells #[.int .u8 0] 5)))
    have HS := Lib.hid (slc_one w1 0 0 rfl)
    have hz := hst.size
    clear how
    go_wp2_with (at_builtin; refine wpList_append_slc rfl (.tmp 11) (.tmp 12) 26 rfl w.heap.size i0 Tryz.underlying26 HI.out HZ0.out HZ1.out HZ2.out (.slice a1 b.length c1) _ b [0] rfl rfl HO.out HS.out (by simp; omega) (by simp; omega) ?_; intro v' w2 hown hgr hnn)
    go_ret
    exact ⟨v', rfl, hown, stay_seal (X := fun k => w.heap.size ≤ k) (((hst.trans (Stay.alloc _ _)).mono (fun _ x => x.elim)).trans (Stay.grown (X := fun k => w.heap.size ≤ k) hgr (fun k hk => (HO.out.lt k hk).1))) (fun k hk => hk)⟩
  · go_enter Tryz.func73, Tryz.ntmps73
    go_wp2_with fail
    refine (own_any w x b hx (by omega)).mono ?_
    rintro e w1 ⟨v, rfl, how, hst⟩
    obtain ⟨a1, c1, rfl⟩ := how.form
    have HO := Lib.hid (how.stay0 (Stay.alloc w1 (.cells #[.int .u8 1] 5)))
    have HS := Lib.hid (slc_one w1 1 1 rfl)
    have hz := hst.size
    clear how
    go_wp2_with (at_builtin; refine wpList_append_slc rfl (.tmp 7) (.tmp 8) 26 rfl w.heap.size i0 Tryz.underlying26 HI.out HZ0.out HZ1.out HZ2.out (.slice a1 b.length c1) _ b [1] rfl rfl HO.out HS.out (by simp; omega) (by simp; omega) ?_; intro v' w2 hown hgr hnn)
    go_ret
    exact ⟨v', rfl, hown, stay_seal (X := fun k => w.heap.size ≤ k) (((hst.trans (Stay.alloc _ _)).mono (fun _ x => x.elim)).trans (Stay.grown (X := fun k => w.heap.size ≤ k) hgr (fun k hk => (HO.out.lt k hk).1))) (fun k hk => hk)⟩

end Go.Proofs.YteogdihacohkfaaGreatDoor.Pk
