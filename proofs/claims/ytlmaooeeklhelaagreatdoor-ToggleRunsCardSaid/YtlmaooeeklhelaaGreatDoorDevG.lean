/-
  dev: the contract of Loose.
-/
import Derived.Test.YtlmaooeeklhelaaGreatDoorDevF
import Derived.Test.YtlmaooeeklhelaaGreatDoorLays
import Derived.OwnWalkIn
import Derived.TacticsInMore
import Derived.RegionIn
import Derived.LoopNIn
import Derived.LoopIn
namespace Go.Proofs.YtlmaooeeklhelaaGreatDoor
open Go.RowKit Go.Maps Go.Sort Go.Shelf
set_option maxRecDepth 100000

theorem sortsA (m : Nat) : AnyZI.SortsIn Tryz.prog Tryz.sortedA_ren Fence.wide m :=
  ⟨fun blk off cap ss W hH hblk hsz => callsIn_wide.2 (AnyM.slices_Sort_int Tryz.sortA blk off cap ss W hH hblk hsz),
   fun p cap W => callsIn_wide.2 (AnyM.slices_Sort_int_none Tryz.sortA p cap W)⟩

theorem sorted_keys {D : DataW Value} {L : Nat → Option (List UInt8)} {n : Nat} {ss : List Int} (hp : ss.Perm (intKeys D)) (hk : (keysI L n).Perm (intKeys D)) : ss.mergeSort (fun x y => decide (x ≤ y)) = keysI L n := by
  have h1 : ss.mergeSort leI = (keysI L n).mergeSort leI := mergeSort_of_perm_i (hp.trans hk.symm)
  have h2 : (keysI L n).mergeSort leI = keysI L n := List.mergeSort_of_pairwise ((keysI_sorted L n).imp (fun h => by simp [leI]; omega))
  exact h1.trans h2

set_option maxHeartbeats 1000000 in
/-- Loose: the numbers that are loose, ascending, in a new slice. -/
theorem loose_any (w : World) (pd ps pm : Nat) (d : DS) (h : DevAt w pd ps pm d) :
    Calls Tryz.prog 31 #[.pointer (some ⟨pd, 0, none⟩)] w fun e w' => ∃ v : Value, e = .returned v ∧
      w'.ownsRow w.heap.size 3 1 v (keysI d.L d.n).length ((keysI d.L d.n).map (Value.int .i64)) ∧ (v = .slice none 0 0 ↔ keysI d.L d.n = []) ∧ Stay (fun _ => False) w w' := by
  obtain ⟨hwl, D, hown, hagr⟩ := h.map
  have hkp := keys_perm hown Tryz.underlying3 hagr hwl
  have hsz := size_le hown Tryz.underlying3 hagr hwl
  have hn2 := h.n2
  have hmax : Maps.size D ≤ maxLen := by unfold maxLen; omega
  have hbytes : Maps.size D * 8 ≤ 140737488355328 := by omega
  refine (callsIn_wide (n := 6)).1 ?_
  have hbl := hown.lt
  have hseq : SeqGives Fence.wide 2 Tryz.prog 70 #[.pointer (some ⟨w.heap.size, 0, none⟩)] encZ (fun ss => ss.Perm (intKeys D)) (Maps.size D) (w.alloc (.cells #[.map (some pm)] 67)) :=
    AnyZI.keys_gives (ρ := Tryz.keysA_ren) { Tryz.keysA with } Fence.wide _ trivial rfl (by omega) w.heap.size pm d.n D _ (by simp) (by simp) (by
      obtain ⟨es, clock, hb, Ft, hs, hD⟩ := hown
      exact ⟨es, clock, (Below.heap_alloc _ _ pm hbl).trans hb, Ft, hs, hD⟩)
  have cK : ∀ mb W, CallsIn Fence.wide 5 Tryz.prog 48 #[.map mb] W fun e w' => e = .returned (.func (.func 70) #[] #[.pointer (some ⟨W.heap.size, 0, none⟩)]) ∧ w' = W.alloc (.cells #[.map mb] 67) := fun mb W => AnyZI.keys_in Tryz.keysA Fence.wide 5 trivial rfl mb W
  have cS := AnyZI.sorted_in Tryz.sortedA Fence.wide 5 trivial trivial trivial trivial rfl (by omega) (sortsA _) (enters_of Tryz.func69 (by kernel_rfl) rfl) 70 #[.pointer (some ⟨w.heap.size, 0, none⟩)] trivial (enters_of Tryz.func70 (by kernel_rfl) rfl) _ _ hmax hbytes _ hseq
  change CallsIn _ _ Tryz.prog 47 _ _ _ at cS
  have hfK : Fence.wide.fn 48 := trivial
  have hfS : Fence.wide.fn 47 := trivial
  have c1 := h.c1
  have HKP := Lib.hid hkp
  clear hkp hown hagr hwl hseq hmax hbytes hsz
  refine callsIn_of_wp Tryz.func31 rfl trivial ?_ rfl
  simp only [Tryz.ntmps31, List.size_toArray, List.length_cons, List.length_nil, Nat.reduceAdd, Nat.reduceSub, Array.replicate_succ, Array.replicate_zero, List.push_toArray, List.append_toArray, List.nil_append, List.cons_append]
  gi_wp2_with (first
    | (gi_at_call 48; refine (cK _ _).mono ?_; rintro e w' ⟨rfl, rfl⟩)
    | (gi_at_call 47; refine cS.mono ?_; rintro e w' ⟨v, ss, rfl, hS, hrow, hnil, hb⟩))
  go_ret
  have hss := sorted_keys hS HKP.out
  have hlen : ss.length = (keysI d.L d.n).length := (hS.trans HKP.out.symm).length_eq
  rw [hss, hlen] at hrow
  refine ⟨v, rfl, ownsRow_base_le hrow (by simp), ?_, (Stay.alloc (X := fun _ => False) w _).trans (Stay.below hb)⟩
  rw [hnil]
  constructor
  · intro e; rw [e] at hlen; exact List.eq_nil_of_length_eq_zero hlen.symm
  · intro e; rw [e] at hlen; exact List.eq_nil_of_length_eq_zero hlen

end Go.Proofs.YtlmaooeeklhelaaGreatDoor
