/-
  The document's answer (chapter 2): Text.
-/
import Derived.Test.YteogdihacohkfaaGreatDoorPkRefX3
import Derived.Lib.AppendStr
namespace Go.Proofs.YteogdihacohkfaaGreatDoor.Pk
open Go.RowKit
set_option maxRecDepth 100000

theorem reftext_any (w : World) (x : Value) (b l : List UInt8) (hx : Slc w x b) (hlen : b.length + 9 + l.length ≤ 140737488355328) :
    Calls Tryz.prog 32 #[x, strV l] w fun e w' => ∃ v, e = .returned v ∧ Owns w.heap.size w' v (b ++ bytesB l) ∧ Stay (fun _ => False) w w' := by
  obtain ⟨i0, hi, hz0, hz1, hz2⟩ := info_parts info5
  have HI := Lib.hid hi
  have HZ0 := Lib.hid hz0
  have HZ1 := Lib.hid hz1
  have HZ2 := Lib.hid hz2
  have HX := Lib.hid hx
  have hsz : (⟨l.toArray⟩ : ByteArray).size = l.length := by simp [ByteArray.size]
  have HSZ := Lib.hid hsz
  clear hi hz0 hz1 hz2 hx
  have hs := len_spell l.length
  unfold strV
  go_enter Tryz.func32, Tryz.ntmps32
  go_wp2_with fail
  refine (refuint_at w x b l.length _ rfl HX.out (by omega) (by omega)).mono ?_
  rintro e w1 ⟨v, rfl, how, hst⟩
  have hz := hst.size
  obtain ⟨a1, c1, rfl⟩ := how.form
  rw [List.length_append] at how
  have HO := Lib.hid how
  clear how
  have hcells : Lib.strCells ⟨l.toArray⟩ = cellsB l := by simp [Lib.strCells, cellsB, byteV]
  have HC := Lib.hid hcells
  clear hcells hsz
  go_wp2_with (at_builtin; refine Lib.wpList_append_own_string _ rfl (.tmp 9) (.tmp 10) 26 9 rfl w.heap.size 5 i0 Tryz.underlying26 Tryz.underlying9 HI.out HZ0.out HZ1.out HZ2.out (.slice a1 (b.length + (spellB l.length).length) c1) _ _ rfl HO.out ⟨l.toArray⟩ rfl (by rw [HSZ.out]; unfold maxLen; simp; omega) (by rw [HSZ.out]; simp; omega) hz ?_; intro v2 w2 hown2 hgr2 hnn2)
  go_ret
  refine ⟨v2, rfl, ?_, stay_seal (X := fun k => w.heap.size ≤ k) ((hst.mono (fun _ x => x.elim)).trans (Stay.grown (X := fun k => w.heap.size ≤ k) hgr2 (fun k hk => (HO.out.lt k hk).1))) (fun k hk => hk)⟩
  unfold bytesB
  rw [← List.append_assoc]
  exact owns_join hown2 HC.out HSZ.out

end Go.Proofs.YteogdihacohkfaaGreatDoor.Pk
