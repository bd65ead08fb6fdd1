/-
  keccak: New, end, Sum of a state.
-/
import Derived.Test.YtljhfccaoncjeaaDoorKeH
import Derived.Laws.CopyOwn
namespace Go.Proofs.YtljhfccaoncjeaaDoor.Ke
open Go.RowKit
set_option maxRecDepth 100000

theorem new_any (w : World) : Calls Tryd.prog 25 #[] w fun e w' => e = .returned (.pointer (some ⟨w.heap.size, 0, none⟩)) ∧ StAt w' w.heap.size zeroSt 0 ∧ Stay (fun _ => False) w w' := by
  go_enter Tryd.func25, Tryd.ntmps25
  go_wp2
  go_ret
  exact ⟨rfl, heap_alloc_new w _, Stay.alloc _ _⟩

theorem end_any (w : World) (g : Nat) (f : St) (t : Nat) (m : UInt8) (h : StAt w g f t) (ht : t < 136) (hp : PathAt w) (hg : g ≠ 2) :
    Calls Tryd.prog 38 #[.pointer (some ⟨g, 0, none⟩), .int .u8 (m.toNat : Int)] w fun e w' => e = .returned (.tuple #[]) ∧ StAt w' g (endK (f, t) m) t ∧ Stay (· = g) w w' := by
  have c25 := StAt.taken h
  have H := Lib.hid h
  have HP := Lib.hid hp
  have HT := Lib.hid ht
  clear h hp ht
  go_enter Tryd.func38, Tryd.ntmps38
  go_wp2
  refine wp_region_still_tail 8 (by kernel_rfl) (by kernel_rfl) ?_
  simp only [List.take_succ_cons, List.take_zero, List.drop_succ_cons, List.drop_zero]
  repeat still_step
  refine wpStill_nil ?_
  clear c25
  go_wp2_with fail
  refine (xor_any w.drew g f t t m (by have := HT.out; omega) H.out).mono ?_
  rintro e w1 ⟨rfl, hs1, hst1⟩
  have HS1 := Lib.hid hs1
  have HST1 := Lib.hid (Stay.drew.trans hst1)
  clear hs1 hst1
  go_wp2_with fail
  refine (xor_any _ g _ t 135 128 (by omega) HS1.out).mono ?_
  rintro e w2 ⟨rfl, hs2, hst2⟩
  have HS2 := Lib.hid hs2
  have HST2 := Lib.hid (HST1.out.trans hst2)
  clear hs2 hst2
  go_wp2_with fail
  refine (stir_any _ g _ t HS2.out (HP.out.stay HST2.out (fun e => hg e.symm)) hg).mono ?_
  rintro e w3 ⟨rfl, hs3, hst3⟩
  have HS3 := Lib.hid hs3
  have HST3 := Lib.hid (HST2.out.trans hst3)
  clear hs3 hst3
  go_wp2
  exact bodyPost_end (results_none rfl _ _ _) rfl ⟨rfl, HS3.out, HST3.out⟩

/-- A whole state by value. -/
def stV (f : St) (t : Nat) : Value := .agg (cellsU f 25 ++ [Value.int .i64 (t : Int)]).toArray
theorem info_st : (Tryd.prog.info? 75).map (·.size) = some 26 := by kernel_rfl
theorem zero_st (w : World) : (zeroValue 75).run Tryd.prog w = .ok (stV zeroSt 0) w := by kernel_rfl
theorem run_load_st {w : World} {g : Nat} {f : St} {t : Nat} (h : StAt w g f t) : (loadVar 75 ⟨g, 0, none⟩).run Tryd.prog w = .ok (stV f t) w :=
  run_loadVar_mid (P := Tryd.prog) w g 0 75 75 _ _ (0, 0) _ h Tryd.underlying75 rfl (by rw [List.size_toArray, List.length_append, length_cellsU]; exact info_st) (fun j _ => by rw [Nat.zero_add])
theorem store_st {ops : Array Oper} {rest : List Oper} {o : Oper} {a : Act} {w : World} {Q : Exit → Act → World → Prop} (hgd : o.guard = none) (x y : Operand) (ho : o.op = .store 75 x y)
    (g : Nat) (hx : a.eval x = .pointer (some ⟨g, 0, none⟩)) (f0 f : St) (t0 t : Nat) (hy : a.eval y = stV f t) (hg : StAt w g f0 t0)
    (hn : ∀ w', StAt w' g f t → Stay (· = g) w w' → wpList Tryd.prog ops Q rest (a.put o.dst undef) w') : wpList Tryd.prog ops Q (o :: rest) a w :=
  wpList_store_mid hgd 75 x y ho g 0 hx 75 (cellsU f0 25 ++ [Value.int .i64 (t0 : Int)]) (cellsU f 25 ++ [Value.int .i64 (t : Int)]) hy hg (by rw [List.length_append, length_cellsU]; exact info_st) (by simp [length_cellsU]) (by
    intro v hv
    rcases List.mem_append.1 hv with h | h
    · exact oneCell_cellsU _ _ v h
    · rw [List.mem_singleton.1 h]; rfl)
    (fun w' h1 h2 => hn w' (by
      have e : splice (cellsU f0 25 ++ [Value.int .i64 (t0 : Int)]) 0 (cellsU f 25 ++ [Value.int .i64 (t : Int)]) = cellsU f 25 ++ [Value.int .i64 (t : Int)] := by
        unfold splice
        rw [List.take_zero, List.nil_append, Nat.zero_add, List.drop_eq_nil_of_le (by simp [length_cellsU]), List.append_nil]
      rw [e] at h1
      exact h1) h2)

/-- Bytes copied from one block into another one. -/
theorem run_copy_bytes (w : World) (g o m c g2 n2 : Nat) (ty ty2 t : TypeId) (L S : List UInt8) (hg : BAt w g ty L) (h2 : BAt w g2 ty2 S) (ho : o + m ≤ L.length) (hS : n2 ≤ S.length) (k : Nat) (hk : k = min m n2) :
    ∃ w2, (Builtin.copy_ #[34, 34] t #[.slice (some ⟨g, o, none⟩) m c, .slice (some ⟨g2, 0, none⟩) n2 n2]).run Tryd.prog w = .ok (.int .i64 (k : Int)) w2 ∧
      BAt w2 g ty (L.take o ++ S.take k ++ L.drop (o + k)) ∧ Stay (· = g) w w2 := by
  have hu := Tryd.underlying34
  have hsz : (Tryd.prog.info? 5).map (·.size) = some 1 := by kernel_rfl
  have hcs : (cellsB (S.take k)).length = Nat.min n2 m := by rw [length_cellsB, List.length_take, hk]; show min (min m n2) S.length = min n2 m; omega
  have hrun := run_copy_row (P := Tryd.prog) w 34 34 t 5 g o m c ⟨g2, 0, none⟩ n2 n2 (cellsB L).toArray ty (cellsB (S.take k)) hu hsz hg hcs (fun j v hv => by
    rw [add_at, Nat.zero_add, h2.c]
    simp only [cellsB, List.map_take, List.getElem?_take] at hv ⊢
    split at hv
    · exact hv
    · cases hv) (by rw [hcs]; have : Nat.min n2 m ≤ m := Nat.min_le_right n2 m; simp [length_cellsB]; omega) (oneCell_cellsB _)
  have hlk : (cellsB (S.take k)).length = k := by rw [hcs, hk]; show min n2 m = min m n2; omega
  have he : (cellsB L).toArray.toList.take o ++ cellsB (S.take k) ++ (cellsB L).toArray.toList.drop (o + (cellsB (S.take k)).length) = cellsB (L.take o ++ S.take k ++ L.drop (o + k)) := by
    rw [hlk]
    simp [cellsB]
  rw [he] at hrun
  refine ⟨_, hrun.trans ?_, setRow_heap w g _ _ _ _ hg, Stay.setRow w g _ rfl⟩
  rw [hlk]
  rfl
end Go.Proofs.YtljhfccaoncjeaaDoor.Ke
