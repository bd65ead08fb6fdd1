/-
  dev: the contracts of Arm, Writes, Lost, Down, and of Write and Read where it is armed, crashed or lost; Start of one that is lost; Replace.
-/
import Derived.Test.YtobofagalblhiaaDoorKeptFacts
namespace Go.Proofs.YtobofagalblhiaaDoor
open Go.RowKit Go.Maps
set_option maxRecDepth 100000

/-- One cell of the header is written. -/
theorem dev_set {w : World} {pd ps pm : Nat} {d : DS} (h : DevAt w pd ps pm d) (j : Nat) (v : Value) (d' : DS) (hn : d'.n = d.n) (hs : d'.s = d.s) (hL : d'.L = d.L)
    (hh : (hdr ps d.n pm d.cr d.lo d.ar d.left d.wr).setIfInBounds j v = hdr ps d'.n pm d'.cr d'.lo d'.ar d'.left d'.wr) :
    DevAt (w.setCell ⟨pd, j, none⟩ v) pd ps pm d' ∧ Stay (own pd ps pm) w (w.setCell ⟨pd, j, none⟩ v) := by
  refine ⟨?_, Stay.setCell (X := own pd ps pm) w _ _ (Or.inl rfl)⟩
  exact {
    hd := by rw [heap_setCell_same w pd j _ _ _ h.hd, hh]
    sec := by rw [heap_setCell_other _ _ _ _ (Ne.symm h.ne1), hs, hn]; exact h.sec
    map := by rw [hn, hL]; exact h.map.stay (Stay.setCell (X := fun k => k = pd) w _ _ rfl) (Ne.symm h.ne2)
    wide := by rw [hs]; exact h.wide
    n1 := by rw [hn]; exact h.n1
    n2 := by rw [hn]; exact h.n2
    ne1 := h.ne1, ne2 := h.ne2, ne3 := h.ne3 }

theorem writes_any (w : World) (pd ps pm : Nat) (d : DS) (h : DevAt w pd ps pm d) :
    Calls Tryd.prog 9 #[.pointer (some ⟨pd, 0, none⟩)] w fun e w' => e = .returned (.int .i64 d.wr) ∧ w = w' := by
  have c6 := h.c6
  go_enter Tryd.func9, Tryd.ntmps9
  go_wp2
  go_ret
  exact ⟨rfl, rfl⟩

theorem lost_any (w : World) (pd ps pm : Nat) (d : DS) (h : DevAt w pd ps pm d) :
    Calls Tryd.prog 15 #[.pointer (some ⟨pd, 0, none⟩)] w fun e w' => e = .returned (.bool d.lo) ∧ w = w' := by
  have c3 := h.c3
  go_enter Tryd.func15, Tryd.ntmps15
  go_wp2
  go_ret
  exact ⟨rfl, rfl⟩

theorem down_any (w : World) (pd ps pm : Nat) (d : DS) (h : DevAt w pd ps pm d) :
    Calls Tryd.prog 8 #[.pointer (some ⟨pd, 0, none⟩)] w fun e w' => e = .returned (.bool (d.cr || d.lo)) ∧ w = w' := down_yes pd d.cr d.lo w h.c2 h.c3

theorem arm_up (w : World) (pd ps pm : Nat) (d : DS) (k : Int) (h : DevAt w pd ps pm d) (hcr : d.cr = false) (hlo : d.lo = false) (hk : 0 ≤ k) :
    Calls Tryd.prog 5 #[.pointer (some ⟨pd, 0, none⟩), .int .i64 k] w fun e w' => e = .returned .nilIface ∧ DevAt w' pd ps pm { d with ar := true, left := k } ∧ Stay (own pd ps pm) w w' := by
  have c2 := h.c2
  have c3 := h.c3
  rw [hcr] at c2
  rw [hlo] at c3
  clear hcr hlo
  obtain ⟨h1, s1⟩ := dev_set h 4 (.bool true) { d with ar := true } rfl rfl rfl rfl
  obtain ⟨h2, s2⟩ := dev_set h1 5 (.int .i64 k) { d with ar := true, left := k } rfl rfl rfl rfl
  have c4 := h.c4
  have f4 := h.fz 4
  have c5 := h1.c5
  have f5 := h1.fz 5
  go_enter Tryd.func5, Tryd.ntmps5
  go_wp2_with fail
  refine (awake_up _ _ c2 c3).mono ?_
  rintro e w' ⟨rfl, rfl⟩
  go_wp2
  go_ret
  exact ⟨rfl, h2, s1.trans s2⟩

/-- Write, armed, with writes left. -/
theorem write_some (w : World) (pd ps pm : Nat) (d : DS) (i : Nat) (sp : Option Addr) (cap : Nat) (l : List UInt8) (h : DevAt w pd ps pm d) (hcr : d.cr = false) (hlo : d.lo = false) (har : d.ar = true) (hl0 : 0 < d.left) (hl1 : d.left ≤ 9223372036854775807) (hi : i < d.n) (hl : l.length ≤ 64)
    (hr : ReadsAs w sp l) (hro : 0 < l.length → ∀ ad, sp = some ad → ¬ own pd ps pm ad.block) (hw0 : 0 ≤ d.wr) (hw1 : d.wr < 4611686018427387904) :
    Calls Tryd.prog 7 #[.pointer (some ⟨pd, 0, none⟩), .int .i64 i, .slice sp l.length cap] w fun e w' => e = .returned .nilIface ∧ DevAt w' pd ps pm ({ d with left := d.left - 1 }.wrote i l) ∧ Stay (own pd ps pm) w w' := by
  refine write_with w pd ps pm d { d with left := d.left - 1 } i sp cap l h hcr hlo hi hl hr hro ?_ rfl hw0 hw1
  have c4 := h.c4
  rw [har] at c4
  refine (spend_some pd d.left w c4 h.c5 (h.fz 5) hl0 hl1).mono ?_
  rintro e w' ⟨rfl, rfl⟩
  obtain ⟨h1, s1⟩ := dev_set h 5 (.int .i64 (d.left - 1)) { d with left := d.left - 1 } rfl rfl rfl rfl
  exact ⟨rfl, h1, s1⟩

/-- Write, armed, with none left: it crashes. -/
theorem write_last (w : World) (pd ps pm : Nat) (d : DS) (i : Nat) (sp : Option Addr) (n cap : Nat) (h : DevAt w pd ps pm d) (hcr : d.cr = false) (hlo : d.lo = false) (har : d.ar = true) (hl0 : d.left = 0) (hi : i < d.n) (hn : n ≤ 64) :
    Calls Tryd.prog 7 #[.pointer (some ⟨pd, 0, none⟩), .int .i64 i, .slice sp n cap] w fun e w' => e = .returned (.iface 38 (.int .i64 13)) ∧ DevAt w' pd ps pm { d with cr := true } ∧ Stay (own pd ps pm) w w' := by
  have c0 := h.c0
  have c2 := h.c2
  have c3 := h.c3
  have c4 := h.c4
  have c5 := h.c5
  have f2 := h.fz 2
  obtain ⟨h1, s1⟩ := dev_set h 2 (.bool true) { d with cr := true } rfl rfl rfl rfl
  rw [hcr] at c2
  rw [hlo] at c3
  rw [har] at c4
  rw [hl0] at c5
  clear hcr hlo har hl0
  go_enter Tryd.func7, Tryd.ntmps7
  go_wp2_with fail
  refine (reach_in _ _ _ _ _ c0 c2 c3 (by omega) (by omega)).mono ?_
  rintro e w' ⟨rfl, rfl⟩
  go_wp2_with fail
  refine (spend_none pd w c4 c5 c2 f2).mono ?_
  rintro e w' ⟨rfl, rfl⟩
  go_wp2
  go_ret
  exact ⟨rfl, h1, s1⟩

theorem reach_down (pd : Nat) (i : Int) (cr lo : Bool) (w : World) (c2 : w.cell? ⟨pd, 2, none⟩ = some (.bool cr)) (c3 : w.cell? ⟨pd, 3, none⟩ = some (.bool lo)) (h : (cr || lo) = true) :
    Calls Tryd.prog 18 #[.pointer (some ⟨pd, 0, none⟩), .int .i64 i] w fun e w' => e = .returned (.iface 38 (.int .i64 13)) ∧ w = w' := by
  go_enter Tryd.func18, Tryd.ntmps18
  go_wp2_with fail
  refine (awake_down _ _ _ _ c2 c3 h).mono ?_
  rintro e w' ⟨rfl, rfl⟩
  go_wp2
  go_ret
  exact ⟨rfl, rfl⟩

theorem write_down (w : World) (pd ps pm : Nat) (d : DS) (i : Int) (v : Value) (h : DevAt w pd ps pm d) (hd : (d.cr || d.lo) = true) :
    Calls Tryd.prog 7 #[.pointer (some ⟨pd, 0, none⟩), .int .i64 i, v] w fun e w' => e = .returned (.iface 38 (.int .i64 13)) ∧ w = w' := by
  have c2 := h.c2
  have c3 := h.c3
  have HD := Lib.hid hd
  clear hd
  go_enter Tryd.func7, Tryd.ntmps7
  go_wp2_with fail
  refine (reach_down pd i d.cr d.lo w c2 c3 HD.out).mono ?_
  rintro e w' ⟨rfl, rfl⟩
  go_wp2
  go_ret
  exact ⟨rfl, rfl⟩

theorem read_down (w : World) (pd ps pm : Nat) (d : DS) (i : Int) (h : DevAt w pd ps pm d) (hd : (d.cr || d.lo) = true) :
    Calls Tryd.prog 12 #[.pointer (some ⟨pd, 0, none⟩), .int .i64 i] w fun e w' => e = .returned (.tuple #[.slice none 0 0, .iface 38 (.int .i64 13)]) ∧ w = w' := by
  have c2 := h.c2
  have c3 := h.c3
  have HD := Lib.hid hd
  clear hd
  go_enter Tryd.func12, Tryd.ntmps12
  go_wp2_with fail
  refine (reach_down pd i d.cr d.lo w c2 c3 HD.out).mono ?_
  rintro e w' ⟨rfl, rfl⟩
  go_wp2
  go_ret2
  exact ⟨rfl, rfl⟩

theorem start_lost (w : World) (pd ps pm : Nat) (d : DS) (v : Value) (h : DevAt w pd ps pm d) (hlo : d.lo = true) :
    Calls Tryd.prog 10 #[.pointer (some ⟨pd, 0, none⟩), v] w fun e w' => e = .returned (.tuple #[]) ∧ w = w' := by
  have c3 := h.c3
  rw [hlo] at c3
  clear hlo
  go_enter Tryd.func10, Tryd.ntmps10
  go_wp2
  refine bodyPost_ret (results_none rfl _ _ _) rfl ?_
  exact ⟨rfl, rfl⟩

theorem replace_lost (w : World) (pd ps pm : Nat) (d : DS) (h : DevAt w pd ps pm d) (hlo : d.lo = true) :
    Calls Tryd.prog 13 #[.pointer (some ⟨pd, 0, none⟩)] w fun e w' => e = .returned (.tuple #[]) ∧ DevAt w' pd ps pm { d with lo := false, cr := false, ar := false } ∧ Stay (own pd ps pm) w w' := by
  have c3 := h.c3
  rw [hlo] at c3
  have f3 := h.fz 3
  obtain ⟨h1, s1⟩ := dev_set h 3 (.bool false) { d with lo := false } rfl rfl rfl rfl
  obtain ⟨h2, s2⟩ := dev_set h1 2 (.bool false) { d with lo := false, cr := false } rfl rfl rfl rfl
  obtain ⟨h3, s3⟩ := dev_set h2 4 (.bool false) { d with lo := false, cr := false, ar := false } rfl rfl rfl rfl
  have c2 := h1.c2
  have f2 := h1.fz 2
  have c4 := h2.c4
  have f4 := h2.fz 4
  clear hlo
  go_enter Tryd.func13, Tryd.ntmps13
  go_wp2
  go_end0
  exact ⟨rfl, h3, (s1.trans s2).trans s3⟩

theorem zeros_flat (n : Nat) : zeros (n * 64) = (cellsB (flat (fun _ => zsec) n)).toArray := by
  rw [flat_zero]; simp [zeros, cellsB, byteV]

theorem zeroCells_sec (n : Nat) : Builtin.zeroCells (secV zsec).cells n = (cellsB (flat (fun _ => zsec) n)).toArray := by
  have e : (secV zsec).cells = zeros 64 := by
    show (cellsB zsec).toArray = zeros 64
    simp only [zeros, cellsB, zsec, List.map_replicate, List.toArray_replicate]
    rfl
  have h : Builtin.zeroCells (secV zsec).cells n = madeCells (secV zsec).cells (n * (secV zsec).cells.size) := rfl
  rw [h, e, size_zeros, made_zeros _ (by rw [size_zeros]; decide) (by rw [size_zeros]), zeros_flat]

theorem run_clear_slice {P : Program} (w w' : World) (t ty e : TypeId) (g k cap : Nat) (z : Value) (ht : P.underlying t = some (.slice e)) (hz : (zeroValue e).run P w = .ok z w)
    (hst : (storeCells ⟨g, 0, none⟩ (Builtin.zeroCells z.cells (k + 1)).toList).run P w = .ok () w') : (Builtin.clear_ #[t] ty #[.slice (some ⟨g, 0, none⟩) (k + 1) cap]).run P w = .ok (.tuple #[]) w' := by
  simp [Builtin.clear_, run_underlying ht, hz, hst, Result.andThen]

/-- clear on the row of sectors: noughts. -/
theorem wpList_clear_sec {ops : Array Oper} {rest : List Oper} {o : Oper} {a : Act} {w : World} {Q : Exit → Act → World → Prop} (hg : o.guard = none) (m : Operand) (hop : o.op = Op.call { callee := Callee.builtin Builtin.clear, args := #[m], argTypes := #[39] })
    (ps n : Nat) (h1 : 1 ≤ n) (hm : a.eval m = .slice (some ⟨ps, 0, none⟩) n n) (S : List Value) (hS : S.length = n * 64) (hsec : w.heap[ps]? = some (.cells S.toArray 46 (0, 0)))
    (hK : ∀ w', w'.heap[ps]? = some (.cells (cellsB (flat (fun _ => zsec) n)).toArray 46 (0, 0)) → Stay (· = ps) w w' → wpList Tryd.prog ops Q rest (a.put o.dst (.tuple #[])) w') : wpList Tryd.prog ops Q (o :: rest) a w := by
  have hl : (cellsB (flat (fun _ => zsec) n)).length = n * 64 := by rw [length_cellsB, length_flat (fun _ => length_zsec)]
  have hst := run_storeCells_at Tryd.prog ps 0 46 (cellsB (flat (fun _ => zsec) n)) 0 S.toArray w hsec (by simp; omega) (oneCell_cellsB _)
  have hd : (S.toArray.toList.take (0 + 0) ++ cellsB (flat (fun _ => zsec) n) ++ S.toArray.toList.drop (0 + 0 + (cellsB (flat (fun _ => zsec) n)).length)) = cellsB (flat (fun _ => zsec) n) := by
    rw [hl]; simp; omega
  rw [hd] at hst
  have hrun : (Builtin.clear_ #[39] o.type #[.slice (some ⟨ps, 0, none⟩) n n]).run Tryd.prog w = .ok (.tuple #[]) (w.setRow ps (cellsB (flat (fun _ => zsec) n)).toArray) := by
    obtain ⟨k, rfl⟩ : ∃ k, n = k + 1 := ⟨n - 1, by omega⟩
    exact run_clear_slice w _ _ _ _ ps k _ _ Tryd.underlying39 (zero_blk w) (by rw [zeroCells_sec]; exact hst)
  refine wpList_plain hg fun K' hK' => ?_
  unfold Oper.wp
  simp [execOp, hop, resolve, invoke, builtin, hm, hrun, Result.andThen]
  exact hK' _ _ (hK _ (setRow_heap w ps _ _ _ _ hsec) (Stay.setRow w ps _ rfl))

/-- Lose: the mark, nothing loose, noughts. -/
theorem lose_any (w : World) (pd ps pm : Nat) (d : DS) (h : DevAt w pd ps pm d) :
    Calls Tryd.prog 11 #[.pointer (some ⟨pd, 0, none⟩)] w fun e w' => e = .returned (.tuple #[]) ∧ DevAt w' pd ps pm { d with lo := true, L := none64, s := fun _ => zsec } ∧ Stay (own pd ps pm) w w' := by
  have c3 := h.c3
  have f3 := h.fz 3
  obtain ⟨h1, s1⟩ := dev_set h 3 (.bool true) { d with lo := true } rfl rfl rfl rfl
  have c1 := h1.c1
  have H1 := Lib.hid h1
  go_enter Tryd.func11, Tryd.ntmps11
  go_wp2_with (first
    | ((with_reducible refine wpList_clear rfl (.tmp 10) 40 46 rfl H1.out.map Tryd.underlying40 rfl ?_)
       intro w2 hm2 hs2
       have hd2 := (hs2.block pd H1.out.lt1 h.ne2).trans H1.out.hd
       have hsec2 := (hs2.block ps H1.out.lt2 h.ne3).trans H1.out.sec
       have d0 : w2.cell? ⟨pd, 0, none⟩ = some (.slice (some ⟨ps, 0, none⟩) d.n d.n) := cell_of_row w2 pd 0 _ _ _ hd2
       have HD2 := Lib.hid hd2
       have HS2 := Lib.hid hsec2
       clear hd2 hsec2)
    | ((with_reducible refine wpList_clear_sec rfl (.tmp 14) rfl ps d.n h.n1 ?q1 (cellsB (flat d.s d.n)) ?q2 HS2.out ?_)
       case q1 => rfl
       case q2 => rw [length_cellsB, length_flat h.wide]
       intro w3 hg3 hs3))
  go_end0
  refine ⟨rfl, ?_, (s1.trans (hs2.mono (fun k e => Or.inr (Or.inr e)))).trans (hs3.mono (fun k e => Or.inr (Or.inl e)))⟩
  exact {
    hd := (hs3.block pd (Nat.lt_of_lt_of_le H1.out.lt1 hs2.size) h.ne1).trans HD2.out
    sec := hg3
    map := hm2.stay hs3 (Ne.symm h.ne3)
    wide := fun _ => length_zsec
    n1 := h.n1, n2 := h.n2, ne1 := h.ne1, ne2 := h.ne2, ne3 := h.ne3 }

end Go.Proofs.YtobofagalblhiaaDoor
