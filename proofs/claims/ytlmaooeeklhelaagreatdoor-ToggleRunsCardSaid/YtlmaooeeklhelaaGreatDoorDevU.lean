/-
  dev, for the layers above, where it is started anew: the contracts of Start, Arm, Lose, Replace (out of stage 1's texts).
-/
import Derived.Test.YtlmaooeeklhelaaGreatDoorDevT
import Derived.Test.YtlmaooeeklhelaaGreatDoorDevI
namespace Go.Proofs.YtlmaooeeklhelaaGreatDoor
open Go.RowKit Go.Maps
set_option maxRecDepth 100000

/-- Start, with a slice of marks that is not nil and lies elsewhere. -/
theorem start_any (w : World) (pd ps pm : Nat) (d : DS) (kb ko cap : Nat) (ks : List Bool) (h : DevAt w pd ps pm d) (hlo : d.lo = false)
    (hkc : ∀ j, j < ks.length → w.cell? ⟨kb, ko + j, none⟩ = some (.bool (ks.getD j false))) (hko : ¬ own pd ps pm kb) (hkn : ks.length ≤ 9223372036854775807) :
    Calls Tryz.prog 10 #[.pointer (some ⟨pd, 0, none⟩), .slice (some ⟨kb, ko, none⟩) ks.length cap] w fun e w' => e = .returned (.tuple #[]) ∧ DevAt w' pd ps pm (d.started ks) ∧ Stay (own pd ps pm) w w' := by
  by_cases hk : keysL d.L d.n = []
  · exact start_idle w pd ps pm d _ cap ks h hlo hk
  · exact start_kept w pd ps pm d kb ko cap ks h hlo hk hkc hko hkn

theorem start_nils (w : World) (pd ps pm : Nat) (d : DS) (h : DevAt w pd ps pm d) (hlo : d.lo = false) :
    Calls Tryz.prog 10 #[.pointer (some ⟨pd, 0, none⟩), .slice none 0 0] w fun e w' => e = .returned (.tuple #[]) ∧ DevAt w' pd ps pm (d.started []) ∧ Stay (own pd ps pm) w w' := by
  by_cases hk : keysL d.L d.n = []
  · exact start_idle w pd ps pm d none 0 [] h hlo hk
  · exact start_nil w pd ps pm d none 0 h hlo hk

theorem cur_started (d : DS) (ks : List Bool) (i : Nat) : (d.started ks).cur i = (d.started ks).s i := by simp [DS.started, DS.cur, none64]

theorem stepS_miss (s : Nat → List UInt8) (L : Nat → Option (List UInt8)) (keys : List Nat) (ks : List Bool) (j : Nat) : ∀ i, (∀ r, r < i → keys.getD r 0 ≠ j) → stepS s L keys ks i j = s j
  | 0, _ => rfl
  | i + 1, h => by
    have ih := stepS_miss s L keys ks j i (fun r hr => h r (by omega))
    unfold stepS
    split
    · unfold upd
      rw [if_neg (fun e => h i (by omega) e.symm)]; exact ih
    · exact ih

theorem started_miss (d : DS) (ks : List Bool) (j : Nat) (hl : d.L j = none) : (d.started ks).cur j = d.s j := by
  rw [cur_started]
  show stepS d.s d.L (keysL d.L d.n) ks (keysL d.L d.n).length j = _
  refine stepS_miss _ _ _ _ j _ (fun r hr he => ?_)
  have hm : (keysL d.L d.n).getD r 0 ∈ keysL d.L d.n := by
    rw [List.getD_eq_getElem?_getD, List.getElem?_eq_getElem hr]; exact List.getElem_mem hr
  have := (mem_keysL.1 hm).2
  rw [he, hl] at this
  cases this

theorem arm_up (w : World) (pd ps pm : Nat) (d : DS) (k : Int) (h : DevAt w pd ps pm d) (hcr : d.cr = false) (hlo : d.lo = false) (hk : 0 ≤ k) :
    Calls Tryz.prog 9 #[.pointer (some ⟨pd, 0, none⟩), .int .i64 k] w fun e w' => e = .returned .nilIface ∧ DevAt w' pd ps pm { d with ar := true, left := k } ∧ Stay (own pd ps pm) w w' := by
  have c2 := h.c2
  have c3 := h.c3
  rw [hcr] at c2
  rw [hlo] at c3
  clear hcr hlo
  obtain ⟨h1, s1⟩ := dev_set h 4 (.bool true) { d with ar := true } rfl rfl rfl rfl
  obtain ⟨h2, s2⟩ := dev_set h1 5 (.int .i64 k) { d with ar := true, left := k } rfl rfl rfl rfl
  have c4 := h.c4
  have f4 := h.fz 4
  have c5 := h1.c5
  have f5 := h1.fz 5
  go_enter Tryz.func9, Tryz.ntmps9
  go_wp2_with fail
  refine (awake_up _ _ c2 c3).mono ?_
  rintro e w' ⟨rfl, rfl⟩
  go_wp2
  go_ret
  exact ⟨rfl, h2, s1.trans s2⟩

theorem start_lost (w : World) (pd ps pm : Nat) (d : DS) (v : Value) (h : DevAt w pd ps pm d) (hlo : d.lo = true) :
    Calls Tryz.prog 10 #[.pointer (some ⟨pd, 0, none⟩), v] w fun e w' => e = .returned (.tuple #[]) ∧ w = w' := by
  have c3 := h.c3
  rw [hlo] at c3
  clear hlo
  go_enter Tryz.func10, Tryz.ntmps10
  go_wp2
  refine bodyPost_ret (results_none rfl _ _ _) rfl ?_
  exact ⟨rfl, rfl⟩

theorem replace_lost (w : World) (pd ps pm : Nat) (d : DS) (h : DevAt w pd ps pm d) (hlo : d.lo = true) :
    Calls Tryz.prog 15 #[.pointer (some ⟨pd, 0, none⟩)] w fun e w' => e = .returned (.tuple #[]) ∧ DevAt w' pd ps pm { d with lo := false, cr := false, ar := false } ∧ Stay (own pd ps pm) w w' := by
  have c3 := h.c3
  rw [hlo] at c3
  have f3 := h.fz 3
  obtain ⟨h1, s1⟩ := dev_set h 3 (.bool false) { d with lo := false } rfl rfl rfl rfl
  obtain ⟨h2, s2⟩ := dev_set h1 2 (.bool false) { d with lo := false, cr := false } rfl rfl rfl rfl
  obtain ⟨h3, s3⟩ := dev_set h2 4 (.bool false) { d with lo := false, cr := false, ar := false } rfl rfl rfl rfl
  have c2 := h1.c2
  have f2 := h1.fz 2
  have c4 := h2.c4
  have f4 := h2.fz 4
  clear hlo
  go_enter Tryz.func15, Tryz.ntmps15
  go_wp2
  go_end0
  exact ⟨rfl, h3, (s1.trans s2).trans s3⟩

theorem zeros_flat (n : Nat) : zeros (n * 64) = (cellsB (flat (fun _ => zsec) n)).toArray := by
  rw [flat_zero]; simp [zeros, cellsB, byteV]

theorem zeroCells_sec (n : Nat) : Builtin.zeroCells (secV zsec).cells n = (cellsB (flat (fun _ => zsec) n)).toArray := by
  have e : (secV zsec).cells = zeros 64 := by
    show (cellsB zsec).toArray = zeros 64
    simp only [zeros, cellsB, zsec, List.map_replicate, List.toArray_replicate]
    rfl
  have h : Builtin.zeroCells (secV zsec).cells n = madeCells (secV zsec).cells (n * (secV zsec).cells.size) := rfl
  rw [h, e, size_zeros, made_zeros _ (by rw [size_zeros]; decide) (by rw [size_zeros]), zeros_flat]

theorem run_clear_slice {P : Program} (w w' : World) (t ty e : TypeId) (g k cap : Nat) (z : Value) (ht : P.underlying t = some (.slice e)) (hz : (zeroValue e).run P w = .ok z w)
    (hst : (storeCells ⟨g, 0, none⟩ (Builtin.zeroCells z.cells (k + 1)).toList).run P w = .ok () w') : (Builtin.clear_ #[t] ty #[.slice (some ⟨g, 0, none⟩) (k + 1) cap]).run P w = .ok (.tuple #[]) w' := by
  simp [Builtin.clear_, run_underlying ht, hz, hst, Result.andThen]

/-- clear on the row of sectors: noughts. -/
theorem wpList_clear_sec {ops : Array Oper} {rest : List Oper} {o : Oper} {a : Act} {w : World} {Q : Exit → Act → World → Prop} (hg : o.guard = none) (m : Operand) (hop : o.op = Op.call { callee := Callee.builtin Builtin.clear, args := #[m], argTypes := #[66] })
    (ps n : Nat) (h1 : 1 ≤ n) (hm : a.eval m = .slice (some ⟨ps, 0, none⟩) n n) (S : List Value) (hS : S.length = n * 64) (hsec : w.heap[ps]? = some (.cells S.toArray 73 (0, 0)))
    (hK : ∀ w', w'.heap[ps]? = some (.cells (cellsB (flat (fun _ => zsec) n)).toArray 73 (0, 0)) → Stay (· = ps) w w' → wpList Tryz.prog ops Q rest (a.put o.dst (.tuple #[])) w') : wpList Tryz.prog ops Q (o :: rest) a w := by
  have hl : (cellsB (flat (fun _ => zsec) n)).length = n * 64 := by rw [length_cellsB, length_flat (fun _ => length_zsec)]
  have hst := run_storeCells_at Tryz.prog ps 0 73 (cellsB (flat (fun _ => zsec) n)) 0 S.toArray w hsec (by simp; omega) (oneCell_cellsB _)
  have hd : (S.toArray.toList.take (0 + 0) ++ cellsB (flat (fun _ => zsec) n) ++ S.toArray.toList.drop (0 + 0 + (cellsB (flat (fun _ => zsec) n)).length)) = cellsB (flat (fun _ => zsec) n) := by
    rw [hl]; simp; omega
  rw [hd] at hst
  have hrun : (Builtin.clear_ #[66] o.type #[.slice (some ⟨ps, 0, none⟩) n n]).run Tryz.prog w = .ok (.tuple #[]) (w.setRow ps (cellsB (flat (fun _ => zsec) n)).toArray) := by
    obtain ⟨k, rfl⟩ : ∃ k, n = k + 1 := ⟨n - 1, by omega⟩
    exact run_clear_slice w _ _ _ _ ps k _ _ Tryz.underlying66 (zero_blk w) (by rw [zeroCells_sec]; exact hst)
  refine wpList_plain hg fun K' hK' => ?_
  unfold Oper.wp
  simp [execOp, hop, resolve, invoke, builtin, hm, hrun, Result.andThen]
  exact hK' _ _ (hK _ (setRow_heap w ps _ _ _ _ hsec) (Stay.setRow w ps _ rfl))

/-- Lose: the mark, nothing loose, noughts. -/
theorem lose_any (w : World) (pd ps pm : Nat) (d : DS) (h : DevAt w pd ps pm d) :
    Calls Tryz.prog 13 #[.pointer (some ⟨pd, 0, none⟩)] w fun e w' => e = .returned (.tuple #[]) ∧ DevAt w' pd ps pm { d with lo := true, L := none64, s := fun _ => zsec } ∧ Stay (own pd ps pm) w w' := by
  have c3 := h.c3
  have f3 := h.fz 3
  obtain ⟨h1, s1⟩ := dev_set h 3 (.bool true) { d with lo := true } rfl rfl rfl rfl
  have c1 := h1.c1
  have H1 := Lib.hid h1
  go_enter Tryz.func13, Tryz.ntmps13
  go_wp2_with (first
    | ((with_reducible refine wpList_clear rfl (.tmp 10) 67 73 rfl H1.out.map Tryz.underlying67 rfl ?_)
       intro w2 hm2 hs2
       have hd2 := (hs2.block pd H1.out.lt1 h.ne2).trans H1.out.hd
       have hsec2 := (hs2.block ps H1.out.lt2 h.ne3).trans H1.out.sec
       have d0 : w2.cell? ⟨pd, 0, none⟩ = some (.slice (some ⟨ps, 0, none⟩) d.n d.n) := cell_of_row w2 pd 0 _ _ _ hd2
       have HD2 := Lib.hid hd2
       have HS2 := Lib.hid hsec2
       clear hd2 hsec2)
    | ((with_reducible refine wpList_clear_sec rfl (.tmp 14) rfl ps d.n h.n1 ?q1 (cellsB (flat d.s d.n)) ?q2 HS2.out ?_)
       case q1 => rfl
       case q2 => rw [length_cellsB, length_flat h.wide]
       intro w3 hg3 hs3))
  go_end0
  refine ⟨rfl, ?_, (s1.trans (hs2.mono (fun k e => Or.inr (Or.inr e)))).trans (hs3.mono (fun k e => Or.inr (Or.inl e)))⟩
  exact {
    hd := (hs3.block pd (Nat.lt_of_lt_of_le H1.out.lt1 hs2.size) h.ne1).trans HD2.out
    sec := hg3
    map := hm2.stay hs3 (Ne.symm h.ne3)
    wide := fun _ => length_zsec
    n1 := h.n1, n2 := h.n2, ne1 := h.ne1, ne2 := h.ne2, ne3 := h.ne3 }

end Go.Proofs.YtlmaooeeklhelaaGreatDoor
