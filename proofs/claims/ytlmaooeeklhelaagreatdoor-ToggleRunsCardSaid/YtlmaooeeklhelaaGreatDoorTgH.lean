/-
  toggle: what a sector tells; a sector read.
-/
import Derived.Test.YtlmaooeeklhelaaGreatDoorTgB
import Derived.Test.YtlmaooeeklhelaaGreatDoorPkG
import Derived.Stop.BytesEq
namespace Go.Proofs.YtlmaooeeklhelaaGreatDoor.Tg
open Go.RowKit Pk
set_option maxRecDepth 100000

theorem cur64 {w : World} {pd ps pm : Nat} {d : DS} (h : DevAt w pd ps pm d) (i : Nat) : (d.cur i).length = 64 := by
  exact cur_len h.wide h.map.1 i

/-- Read, as a function: a sector that there is. -/
def readD (d : DS) (i : Nat) : List UInt8 × Nat := if down d = true then ([], 13) else (d.cur i, 0)

theorem read_all (w : World) (pd ps pm : Nat) (d : DS) (i : Nat) (h : DevAt w pd ps pm d) (hi : i < d.n) :
    Calls Tryz.prog 22 #[.pointer (some ⟨pd, 0, none⟩), .int .i64 i] w fun e w' => ∃ v, e = .returned (.tuple #[v, errV (readD d i).2]) ∧ Owns w.heap.size w' v (readD d i).1 ∧ Stay (fun _ => False) w w' := by
  by_cases hd : down d = true
  · have e1 : readD d i = ([], 13) := if_pos hd
    rw [e1]
    refine (read_down w pd ps pm d i h hd).mono ?_
    rintro e w' ⟨rfl, rfl⟩
    exact ⟨_, rfl, Owns.nil _ _, Stay.refl _ _⟩
  · have e1 : readD d i = (d.cur i, 0) := if_neg hd
    obtain ⟨hcr, hlo⟩ := up_cr hd
    rw [e1]
    have hl := cur64 h i
    have key : Calls Tryz.prog 22 #[.pointer (some ⟨pd, 0, none⟩), .int .i64 i] w fun e w' => ∃ v, e = .returned (.tuple #[v, .nilIface]) ∧
        w'.ownsRow w.heap.size 5 1 v 64 (cellsB (d.cur i)) ∧ Stay (fun _ => False) w w' ∧ v ≠ .slice none 0 0 := by
      cases hL : d.L i with
      | none => unfold DS.cur; rw [hL]; exact read_none w pd ps pm d i h hcr hlo hi hL
      | some l => unfold DS.cur; rw [hL]; exact read_some w pd ps pm d i l h hcr hlo hi hL
    refine key.mono ?_
    rintro e w' ⟨v, rfl, hrow, hs, _⟩
    exact ⟨v, rfl, by unfold Owns; rw [hl]; exact hrow, hs⟩

/-- The greatest number that a teller may tell. -/
def topN : Nat := 18446744073709551614
/-- What a sector tells: a number, whether the second place counts, how many bytes; and an error's number. -/
def tellD (l : List UInt8) (room : Nat) : (Nat × Bool × Nat) × Nat :=
  if l = zsec then ((0, false, 0), 8) else
  if (takeB (numB room) 0 (takeB truB false (takeB (numB topN) 0 ⟨l, 0⟩).2).2).2.err ≠ 0 ∨ (takeB (numB topN) 0 ⟨l, 0⟩).1 = 0 then ((0, false, 0), 3) else
  (((takeB (numB topN) 0 ⟨l, 0⟩).1, (takeB truB false (takeB (numB topN) 0 ⟨l, 0⟩).2).1, (takeB (numB room) 0 (takeB truB false (takeB (numB topN) 0 ⟨l, 0⟩).2).2).1), 0)
/-- A teller, as a value. -/
def tellW (t : Nat × Bool × Nat) : Value := .agg #[.int .u64 t.1, .bool t.2.1, .int .i64 t.2.2]

theorem run_load_at (w : World) (ad : Addr) (ty : TypeId) (cs : List Value) (d : TypeDesc)
    (hu : Tryz.prog.underlying ty = some d) (hd : (match d with | .struct _ | .array _ _ => true | _ => false) = true) (hi : (Tryz.prog.info? ty).map (·.size) = some cs.length)
    (hcs : ∀ j v, cs[j]? = some v → w.cell? (ad.add j) = some v) :
    (loadVar ty ad).run Tryz.prog w = .ok (.agg cs.toArray) w := by
  have hl : (loadCells ad cs.length).run Tryz.prog w = .ok cs.toArray w := run_loadCells_list (P := Tryz.prog) w ad cs hcs
  cases hq : Tryz.prog.info? ty with
  | none => simp [hq] at hi
  | some i =>
    have hs : i.size = cs.length := by simpa [hq] using hi
    have hagg : (isAgg ty).run Tryz.prog w = .ok true w := by
      unfold isAgg
      rw [Sem.run_bind, run_underlying hu w]
      cases d <;> simp_all
    simp [loadVar, Sem.run_bind, hagg, sizeOf, typeInfo, hq, hs, hl]
theorem wpList_load_at {ops : Array Oper} {rest : List Oper} {o : Oper} {a : Act} {w : World} {Q : Exit → Act → World → Prop} (hgd : o.guard = none) (ty : TypeId) (x : Operand) (ho : o.op = .load ty x)
    (ad : Addr) (hx : a.eval x = .pointer (some ad)) (cs : List Value) (hl : (loadVar ty ad).run Tryz.prog w = .ok (.agg cs.toArray) w)
    (h : wpList Tryz.prog ops Q rest (a.put o.dst (.agg cs.toArray)) w) : wpList Tryz.prog ops Q (o :: rest) a w :=
  wpList_plain hgd fun _ hK => by
    unfold Oper.wp execOp
    simp only [ho, hx, Instr.loadAt, Instr.sureAddr, Sem.run_bind, Sem.run_pure, Result.andThen_ok, hl]
    exact hK _ _ h
theorem size_u8 (w : World) : (sizeOf 5).run Tryz.prog w = .ok 1 w := by
  obtain ⟨i0, hi, hz0, hz1, hz2⟩ := info_parts info5
  simp [sizeOf, typeInfo, hi, hz1]
theorem eq_block (w : World) (p q : List UInt8) (hp : p.length = 64) (hq : q.length = 64) : (Op.equalIn 10000 73 (.agg (cellsB p).toArray) (.agg (cellsB q).toArray)).run Tryz.prog w = .ok (p == q) w :=
  run_equalIn_bytes (P := Tryz.prog) w 9998 73 5 64 Tryz.underlying73 Tryz.underlying5 size_u8 p q hp hq
theorem array_block (w : World) (a : Option Addr) (c : Nat) : (Instr.arrayAt 73 (.slice a 64 c)).run Tryz.prog w = .ok (.pointer a) w := by
  simp [Instr.arrayAt, Sem.run_bind, run_underlying Tryz.underlying73]
theorem info_block {l : List UInt8} (h : l.length = 64) : (Tryz.prog.info? 73).map (·.size) = some (cellsB l).length := by
  rw [length_cellsB, h]; kernel_rfl

theorem take_num_le (most : Nat) (s : RS) : (takeB (numB most) 0 s).1 ≤ most := by
  by_cases h : s.err = 0
  · cases hr : numB most s.b with
    | error c => rw [takeB_error h hr]; exact Nat.zero_le _
    | ok v =>
      obtain ⟨n, r⟩ := v
      rw [takeB_ok h hr]; exact numB_le hr
  · rw [takeB_bad h]; exact Nat.zero_le _

theorem three_set {w : World} {b : Nat} {a0 a1 a2 v0 v1 v2 : Value} {t : TypeId} (h : w.heap[b]? = some (.cells #[a0, a1, a2] t (0, 0))) :
    (((w.setCell ⟨b, 0, none⟩ v0).setCell ⟨b, 1, none⟩ v1).setCell ⟨b, 2, none⟩ v2).heap[b]? = some (.cells #[v0, v1, v2] t (0, 0)) := by
  have h0 := heap_setCell_same w b 0 _ t v0 h
  have h1 := heap_setCell_same _ b 1 _ t v1 h0
  exact heap_setCell_same _ b 2 _ t v2 h1
theorem three_stay {w w' : World} {b : Nat} {v0 v1 v2 : Value} (h : Stay (fun _ => False) w w') (hb : w.heap.size ≤ b) :
    Stay (fun _ => False) w (((w'.setCell ⟨b, 0, none⟩ v0).setCell ⟨b, 1, none⟩ v1).setCell ⟨b, 2, none⟩ v2) :=
  stay_seal (X := fun k => k = b) ((((h.mono (fun _ x => x.elim)).trans (Stay.setCell (X := fun k => k = b) w' ⟨b, 0, none⟩ v0 rfl)).trans (Stay.setCell (X := fun k => k = b) _ ⟨b, 1, none⟩ v1 rfl)).trans (Stay.setCell (X := fun k => k = b) _ ⟨b, 2, none⟩ v2 rfl)) (fun k hk => by have e : k = b := hk; omega)

theorem tell_res (tm : Array Value) (w : World) (b : Nat) (n : Int) (bb : Bool) (m : Int) (v : Value) (h4 : tm.getD 4 undef = .pointer (some ⟨b, 0, none⟩)) (h5 : tm.getD 5 undef = v)
    (hb : w.heap[b]? = some (.cells #[.int .u64 n, .bool bb, .int .i64 m] 77 (0, 0))) :
    (results Tryz.f50 tm).run Tryz.prog w = .ok (.tuple #[.agg #[.int .u64 n, .bool bb, .int .i64 m], v]) w := by
  have c0 := cell_of_row w b 0 _ _ _ hb
  have c1 := cell_of_row w b 1 _ _ _ hb
  have c2 := cell_of_row w b 2 _ _ _ hb
  rw [Array.getD_eq_getD_getElem?] at h4 h5
  subst h5
  simp [results, Tryz.results50, go_sem, h4, c0, c1, c2]

set_option maxHeartbeats 2000000 in
theorem tell_any (w : World) (x : Value) (l : List UInt8) (room : Nat) (hx : Slc w x l) (hl : l.length = 64) (hr : (room : Int) ≤ 9223372036854775807) :
    Calls Tryz.prog 50 #[x, .int .i64 room] w fun e w' => e = .returned (.tuple #[tellW (tellD l room).1, errV (tellD l room).2]) ∧ Stay (fun _ => False) w w' := by
  have HX := Lib.hid hx
  obtain ⟨a0, c0, rfl, hrd, _, hc0, hcm⟩ := id hx
  obtain ⟨ad, rfl, hcell⟩ := hrd (by omega)
  have hld : ∀ W, Stay (fun _ => False) w W → (loadVar 73 ad).run Tryz.prog W = .ok (.agg (cellsB l).toArray) W := fun W hW =>
    run_load_at W ad 73 (cellsB l) _ Tryz.underlying73 rfl (info_block hl) (fun j v hv => hW.cell (hcell j v hv) (fun x => x))
  have HL := Lib.hid hl
  rw [hl] at hx ⊢
  have HX64 := Lib.hid hx
  have karr := array_block
  have HK1 := Lib.hid (hld _ (Stay.alloc w (.cells #[.int .u64 0, .bool false, .int .i64 0] 77)))
  have k2 := fun w => eq_block w l zsec hl length_zsec
  have kz : ∀ w, (zeroValue 73).run Tryz.prog w = .ok (.agg (cellsB zsec).toArray) w := zero_blk
  clear hx hrd hcell hld hl
  by_cases hzs : l = zsec
  · have hb : (l == zsec) = true := beq_iff_eq.2 hzs
    have e1 : tellD l room = ((0, false, 0), 8) := if_pos hzs
    rw [e1]
    rw [hb] at k2
    clear hb e1 hzs
    go_enter Tryz.func50, Tryz.ntmps50
    go_wp2_with (refine wpList_load_at rfl 73 (.tmp 11) rfl ad rfl _ HK1.out ?_)
    exact bodyPost_ret (v := .tuple #[tellW (0, false, 0), errV 8]) (tell_res _ _ w.heap.size 0 false 0 _ rfl rfl (heap_alloc_new w _)) rfl ⟨rfl, Stay.alloc _ _⟩
  have hb : (l == zsec) = false := by simpa using hzs
  rw [hb] at k2
  have e1 : tellD l room = if (takeB (numB room) 0 (takeB truB false (takeB (numB topN) 0 ⟨l, 0⟩).2).2).2.err ≠ 0 ∨ (takeB (numB topN) 0 ⟨l, 0⟩).1 = 0 then ((0, false, 0), 3) else
    (((takeB (numB topN) 0 ⟨l, 0⟩).1, (takeB truB false (takeB (numB topN) 0 ⟨l, 0⟩).2).1, (takeB (numB room) 0 (takeB truB false (takeB (numB topN) 0 ⟨l, 0⟩).2).2).1), 0) := if_neg hzs
  obtain ⟨r1, hr1⟩ : ∃ r, r = takeB (numB topN) 0 ⟨l, 0⟩ := ⟨_, rfl⟩
  obtain ⟨r2, hr2⟩ : ∃ r, r = takeB truB false r1.2 := ⟨_, rfl⟩
  obtain ⟨r3, hr3⟩ : ∃ r, r = takeB (numB room) 0 r2.2 := ⟨_, rfl⟩
  rw [← hr1, ← hr2, ← hr3] at e1
  have HE := Lib.hid e1
  have HR1 := Lib.hid hr1
  have HR2 := Lib.hid hr2
  have HR3 := Lib.hid hr3
  clear hb hzs e1 hr1 hr2 hr3
  go_enter Tryz.func50, Tryz.ntmps50
  go_wp2_with (refine wpList_load_at rfl 73 (.tmp 11) rfl ad rfl _ HK1.out ?_)
  clear kz k2 karr
  refine (read_any _ _ l (HX64.out.alloc _) (by rw [HL.out]; decide)).mono ?_
  rintro e w2 ⟨p, rfl, hp2, hs2⟩
  obtain ⟨X, hX⟩ : ∃ X : Nat → Prop, X = fun k => (w.alloc (.cells #[.int .u64 0, .bool false, .int .i64 0] 77)).heap.size ≤ k := ⟨_, rfl⟩
  have HXI := Lib.hid (show ∀ k, X k → w.heap.size + 1 ≤ k by intro k hk; rw [hX] at hk; simpa using hk)
  rw [← hX] at hp2
  clear hX
  have HPX := Lib.hid (HXI.out _ hp2.own)
  have HP2 := Lib.hid hp2
  have HS2 := Lib.hid ((Stay.alloc w _).trans hs2)
  have HB2 := Lib.hid ((hs2.block w.heap.size (by simp) (fun x => x)).trans (heap_alloc_new w _))
  clear hp2 hs2
  go_wp2_with (
    go_at_call 73
    refine (ruint_at X w2 p ⟨l, 0⟩ topN _ rfl HP2.out).mono ?_
    rintro e w3 ⟨rfl, hp3, hs3⟩
    rw [← HR1.out] at hp3 ⊢
    have HP3 := Lib.hid hp3
    have HS3 := Lib.hid hs3
    clear hp3 hs3)
  refine (rbool_any X w3 p r1.2 HP3.out).mono ?_
  rintro e w4 ⟨rfl, hp4, hs4⟩
  rw [← HR2.out] at hp4 ⊢
  have HP4 := Lib.hid hp4
  have HS4 := Lib.hid hs4
  clear hp4 hs4
  go_wp2_with (
    go_at_call 73
    refine (ruint_at X w4 p r2.2 room _ rfl HP4.out).mono ?_
    rintro e w5 ⟨rfl, hp5, hs5⟩
    rw [← HR3.out] at hp5 ⊢
    have HP5 := Lib.hid hp5
    have HS5 := Lib.hid hs5
    clear hp5 hs5)
  unfold u64V boolV
  have hr3 : (r3.1 : Int) ≤ 9223372036854775807 := by have := take_num_le room r2.2; rw [← HR3.out] at this; omega
  have HST := Lib.hid (stay_seal (X := fun k => k = p) ((((HS2.out.mono (fun _ x => x.elim)).trans HS3.out).trans HS4.out).trans HS5.out) (fun k hk => by have := HPX.out; omega))
  have HB5 := Lib.hid ((HS5.out.block w.heap.size (by have h1 := HS2.out.size; have h2 := HS3.out.size; have h3 := HS4.out.size; have h4 := lt_of_block HB2.out; omega) (by have := HPX.out; omega)).trans
    ((HS4.out.block w.heap.size (by have h1 := HS2.out.size; have h2 := HS3.out.size; have h4 := lt_of_block HB2.out; omega) (by have := HPX.out; omega)).trans ((HS3.out.block w.heap.size (lt_of_block HB2.out) (by have := HPX.out; omega)).trans HB2.out)))
  have HQ5 := Lib.hid (show w.heap.size < w5.heap.size from lt_of_block HB5.out)
  have hce := err_any X w5 p r3.2 HP5.out
  have hc0 := cell_of_row w5 w.heap.size 0 _ _ _ HB5.out
  have hc1 := cell_of_row w5 w.heap.size 1 _ _ _ HB5.out
  have hc2 := cell_of_row w5 w.heap.size 2 _ _ _ HB5.out
  have hf := fun j => frozen_of_row w5 w.heap.size j _ _ HB5.out
  by_cases he : r3.2.err = 0
  · rw [he, errV_zero] at hce
    have HCE := Lib.hid hce
    clear hce
    by_cases hn0 : r1.1 = 0
    · have HF := Lib.hid (HE.out.trans (if_pos (Or.inr hn0)))
      have hn1 : (r1.1 : Int) = 0 := by omega
      rw [hn1]
      clear he hn0 hn1
      go_wp2_with (go_at_call 75; refine HCE.out.mono ?_; rintro e w6 ⟨rfl, rfl⟩)
      exact bodyPost_ret (v := .tuple #[tellW (0, false, 0), errV 3]) (tell_res _ _ w.heap.size 0 false 0 _ rfl rfl (three_set HB5.out)) rfl ⟨by rw [HF.out], three_stay HST.out (Nat.le_refl _)⟩
    · have HF := Lib.hid (HE.out.trans (if_neg (by omega)))
      have hn1 : ((r1.1 : Int) == 0) = false := by simpa using hn0
      clear he hn0
      go_wp2_with (go_at_call 75; refine HCE.out.mono ?_; rintro e w6 ⟨rfl, rfl⟩)
      exact bodyPost_ret (v := .tuple #[tellW (r1.1, r2.1, r3.1), errV 0]) (tell_res _ _ w.heap.size (r1.1 : Int) r2.1 (r3.1 : Int) _ rfl rfl (three_set HB5.out)) rfl ⟨by rw [HF.out], three_stay HST.out (Nat.le_refl _)⟩
  · have HF := Lib.hid (HE.out.trans (if_pos (Or.inl he)))
    rw [errV_pos he] at hce
    unfold errI at hce
    have HCE := Lib.hid hce
    clear hce he
    go_wp2_with (go_at_call 75; refine HCE.out.mono ?_; rintro e w6 ⟨rfl, rfl⟩)
    exact bodyPost_ret (v := .tuple #[tellW (0, false, 0), errV 3]) (tell_res _ _ w.heap.size 0 false 0 _ rfl rfl (three_set HB5.out)) rfl ⟨by rw [HF.out], three_stay HST.out (Nat.le_refl _)⟩

end Go.Proofs.YtlmaooeeklhelaaGreatDoor.Tg
