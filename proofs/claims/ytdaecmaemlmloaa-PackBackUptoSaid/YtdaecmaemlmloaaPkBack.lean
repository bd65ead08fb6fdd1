/-
  PackBack, walked.
-/
import Derived.Test.YtdaecmaemlmloaaPkTake
import Derived.Stop.BytesEq
namespace Go.Proofs.Ytdaecmaemlmloaa.Pk
open Go.RowKit
set_option maxRecDepth 100000

section
variable {P : Program}
/-- A struct or an array read where its cells are known. -/
theorem run_loadVar_at (w : World) (ad : Addr) (ty : TypeId) (cs : List Value) (d : TypeDesc)
    (hu : P.underlying ty = some d) (hd : (match d with | .struct _ | .array _ _ => true | _ => false) = true) (hi : (P.info? ty).map (·.size) = some cs.length)
    (hcs : ∀ j v, cs[j]? = some v → w.cell? (ad.add j) = some v) :
    (loadVar ty ad).run P w = .ok (.agg cs.toArray) w := by
  have hl : (loadCells ad cs.length).run P w = .ok cs.toArray w := run_loadCells_list (P := P) w ad cs hcs
  cases hq : P.info? ty with
  | none => simp [hq] at hi
  | some i =>
    have hs : i.size = cs.length := by simpa [hq] using hi
    have hagg : (isAgg ty).run P w = .ok true w := by
      unfold isAgg
      rw [Sem.run_bind, run_underlying hu w]
      cases d <;> simp_all
    simp [loadVar, Sem.run_bind, hagg, sizeOf, typeInfo, hq, hs, hl]
theorem wpList_load_at {ops : Array Oper} {rest : List Oper} {o : Oper} {a : Act} {w : World} {Q : Exit → Act → World → Prop} (hgd : o.guard = none) (ty : TypeId) (x : Operand) (ho : o.op = .load ty x)
    (ad : Addr) (hx : a.eval x = .pointer (some ad)) (cs : List Value) (d : TypeDesc)
    (hu : P.underlying ty = some d) (hd : (match d with | .struct _ | .array _ _ => true | _ => false) = true) (hi : (P.info? ty).map (·.size) = some cs.length)
    (hcs : ∀ j v, cs[j]? = some v → w.cell? (ad.add j) = some v)
    (h : wpList P ops Q rest (a.put o.dst (.agg cs.toArray)) w) : wpList P ops Q (o :: rest) a w :=
  wpList_plain hgd fun _ hK => by
    unfold Oper.wp execOp
    simp only [ho, hx, Instr.loadAt, Instr.sureAddr, Sem.run_bind, Sem.run_pure, Result.andThen_ok, run_loadVar_at w ad ty cs d hu hd hi hcs]
    exact hK _ _ h
end

theorem info_thing : (Try.prog.info? 30).map (·.size) = some 35 := by kernel_rfl

theorem info_cells {t : Th} (hp : t.pr.length = 32) : (Try.prog.info? 30).map (·.size) = some t.cells.length := by
  rw [info_thing]
  simp [Th.cells, thingC, length_cellsB, hp]

/-- The bytes of many things. -/
def laidB (L : List Th) : List UInt8 := L.flatMap fun t => thingB t.k t.n t.b t.pr

def Th.laid (t : Th) : List UInt8 := thingB t.k t.n t.b t.pr
theorem intB_len (n : Int) : (intB n).length ≤ 10 := by
  have h2 := len_spell (-1 - n).toNat
  have h3 := len_spell n.toNat
  by_cases h : n < 0
  · rw [show intB n = boolB true ++ spellB (-1 - n).toNat from if_pos h, List.length_append]
    exact Nat.add_le_add (Nat.le_refl 1) h2
  · rw [show intB n = boolB false ++ spellB n.toNat from if_neg h, List.length_append]
    exact Nat.add_le_add (Nat.le_refl 1) h3
theorem Th.laid_len (t : Th) (hp : t.pr.length = 32) : t.laid.length ≤ t.b.length + 32 := by
  unfold Th.laid thingB
  have h1 := len_spell (IntKind.u64.wrap t.n).toNat
  have h4 := len_spell t.b.length
  by_cases k0 : kindOf t.k = 0
  · rw [if_pos k0]; omega
  rw [if_neg k0]
  by_cases k1 : kindOf t.k = 1
  · rw [if_pos k1]
    exact Nat.le_trans (intB_len t.n) (by omega)
  rw [if_neg k1]
  by_cases k2 : kindOf t.k = 2
  · rw [if_pos k2]; unfold boolB; simp only [List.length_cons, List.length_nil]; omega
  rw [if_neg k2]
  by_cases k3 : kindOf t.k = 3 ∨ kindOf t.k = 4
  · rw [if_pos k3]; unfold bytesB; rw [List.length_append]; omega
  rw [if_neg k3]; omega
theorem laidB_succ {L : List Th} {i : Nat} {t : Th} (h : L[i]? = some t) : laidB (L.take (i + 1)) = laidB (L.take i) ++ t.laid := by
  rw [List.take_add_one, h]
  simp [laidB, Th.laid]
theorem laidB_len {L : List Th} (hp : ∀ t ∈ L, t.pr.length = 32) (hb : ∀ t ∈ L, t.b.length ≤ 1048576) : ∀ i, (laidB (L.take i)).length ≤ i * 1048608
  | 0 => by simp [laidB]
  | i + 1 => by
    have ih := laidB_len hp hb i
    cases h : L[i]? with
    | none =>
      rw [List.take_add_one, h, Option.toList_none, List.append_nil]
      exact Nat.le_trans ih (Nat.mul_le_mul_right _ (Nat.le_succ i))
    | some t =>
      have hm := List.mem_of_getElem? h
      rw [laidB_succ h, List.length_append]
      have h1 := t.laid_len (hp t hm)
      have h2 := hb t hm
      omega

theorem laidB_drop {L : List Th} {i j : Nat} {t : Th} (h : L[j]? = some t) (hj : j < i) : laidB ((L.take i).drop j) = t.laid ++ laidB ((L.take i).drop (j + 1)) := by
  have h1 : (L.take i)[j]? = some t := by rw [List.getElem?_take_of_lt hj]; exact h
  obtain ⟨h2, h3⟩ := List.getElem?_eq_some_iff.1 h1
  rw [List.drop_eq_getElem_cons h2, h3]
  simp [laidB, Th.laid]

theorem laid0 {t : Th} (h : kindOf t.k = 0) : t.laid = spellB (IntKind.u64.wrap t.n).toNat := by unfold Th.laid thingB; rw [if_pos h]
theorem laid1 {t : Th} (h : kindOf t.k = 1) : t.laid = intB t.n := by unfold Th.laid thingB; rw [if_neg (by omega), if_pos h]
theorem laid2 {t : Th} (h : kindOf t.k = 2) : t.laid = boolB (decide (0 < t.n)) := by unfold Th.laid thingB; rw [if_neg (by omega), if_neg (by omega), if_pos h]
theorem laid3 {t : Th} (h : kindOf t.k = 3) : t.laid = bytesB t.b := by unfold Th.laid thingB; rw [if_neg (by omega), if_neg (by omega), if_neg (by omega), if_pos (by omega)]
theorem laid4 {t : Th} (h : kindOf t.k = 4) : t.laid = bytesB t.b := by unfold Th.laid thingB; rw [if_neg (by omega), if_neg (by omega), if_neg (by omega), if_pos (by omega)]
theorem laid5 {t : Th} (h : kindOf t.k = 5) : t.laid = t.pr := by unfold Th.laid thingB; rw [if_neg (by omega), if_neg (by omega), if_neg (by omega), if_neg (by omega)]
theorem six (k : Int) : kindOf k = 0 ∨ kindOf k = 1 ∨ kindOf k = 2 ∨ kindOf k = 3 ∨ kindOf k = 4 ∨ kindOf k = 5 := by
  have := kindOf_range k
  omega

theorem tk0 (X : Nat → Prop) (w : World) (p : Nat) (t : Th) (rest : List UInt8) (hk : t.laid = spellB (IntKind.u64.wrap t.n).toNat) (h : RdAt X w p ⟨t.laid ++ rest, 0⟩) :
    Calls Try.prog 12 #[.pointer (some ⟨p, 0, none⟩), .int .u64 18446744073709551615] w fun e w' => e = .returned (.int .u64 (IntKind.u64.wrap t.n)) ∧ RdAt X w' p ⟨rest, 0⟩ ∧ Stay (fun k => k = p) w w' := by
  obtain ⟨hu0, hu1⟩ := u64_range t.n
  rw [hk] at h
  have := uint_back X w p (IntKind.u64.wrap t.n).toNat 18446744073709551615 rfl rest (by omega) h
  rw [Int.toNat_of_nonneg hu0] at this
  exact this
theorem tk1 (X : Nat → Prop) (w w0 : World) (p : Nat) (t : Th) (rest : List UInt8) (hok : t.Ok w0) (hk : t.laid = intB t.n) (h : RdAt X w p ⟨t.laid ++ rest, 0⟩) :
    Calls Try.prog 13 #[.pointer (some ⟨p, 0, none⟩)] w fun e w' => e = .returned (.int .i64 t.n) ∧ RdAt X w' p ⟨rest, 0⟩ ∧ Stay (fun k => k = p) w w' := by
  rw [hk] at h
  exact int_back X w p t.n rest hok.n1 hok.n2 h
theorem tk2 (X : Nat → Prop) (w : World) (p : Nat) (t : Th) (rest : List UInt8) (hk : t.laid = boolB (decide (0 < t.n))) (h : RdAt X w p ⟨t.laid ++ rest, 0⟩) :
    Calls Try.prog 14 #[.pointer (some ⟨p, 0, none⟩)] w fun e w' => e = .returned (.bool (decide (0 < t.n))) ∧ RdAt X w' p ⟨rest, 0⟩ ∧ Stay (fun k => k = p) w w' := by
  rw [hk] at h
  exact bool_back X w p _ rest h
theorem tk3 (X : Nat → Prop) (w : World) (p : Nat) (t : Th) (rest : List UInt8) (hl : (t.laid ++ rest).length ≤ 140737488355328) (hk : t.laid = bytesB t.b) (h : RdAt X w p ⟨t.laid ++ rest, 0⟩) :
    Calls Try.prog 15 #[.pointer (some ⟨p, 0, none⟩), .int .i64 t.b.length] w fun e w' => e = .returned (.string ⟨t.b.toArray⟩) ∧ RdAt X w' p ⟨rest, 0⟩ ∧ Stay (fun k => k = p) w w' := by
  rw [hk] at h hl
  exact text_back X w p t.b rest hl h
theorem tk4 (X : Nat → Prop) (w : World) (p : Nat) (t : Th) (rest : List UInt8) (hl : (t.laid ++ rest).length ≤ 140737488355328) (hk : t.laid = bytesB t.b) (h : RdAt X w p ⟨t.laid ++ rest, 0⟩) :
    Calls Try.prog 16 #[.pointer (some ⟨p, 0, none⟩), .int .i64 t.b.length] w fun e w' => (∃ a c, e = .returned (.slice a t.b.length c) ∧ Slc w' (.slice a t.b.length c) t.b) ∧ RdAt X w' p ⟨rest, 0⟩ ∧ Stay (fun k => k = p) w w' := by
  rw [hk] at h hl
  refine (bytes_back X w p t.b rest hl h).mono ?_
  rintro e w' ⟨⟨v, rfl, how⟩, h2, h3⟩
  obtain ⟨a, c, rfl⟩ := how.form
  exact ⟨⟨a, c, rfl, how.slc⟩, h2, h3⟩
theorem tk5 (X : Nat → Prop) (w w0 : World) (p : Nat) (t : Th) (rest : List UInt8) (hok : t.Ok w0) (hk : t.laid = t.pr) (h : RdAt X w p ⟨t.laid ++ rest, 0⟩) :
    Calls Try.prog 17 #[.pointer (some ⟨p, 0, none⟩)] w fun e w' => e = .returned (.agg (cellsB t.pr).toArray) ∧ RdAt X w' p ⟨rest, 0⟩ ∧ Stay (fun k => k = p) w w' := by
  rw [hk] at h
  exact print_back X w p t.pr rest hok.pr h

theorem Slc.stay' {X : Nat → Prop} {w w' : World} {x : Value} {l : List UInt8} (h : Slc w x l) (hs : Stay X w w') (hx : 0 < l.length → ∀ k, x.ownBlock = some k → ¬ X k) : Slc w' x l := by
  obtain ⟨a0, c, rfl, hr, hn⟩ := h
  exact ⟨a0, c, rfl, hr.stay hs (fun h0 ad e => by subst e; exact hx h0 ad.block rfl), hn⟩

theorem size_u8 (w : World) : (sizeOf 5).run Try.prog w = .ok 1 w := by
  obtain ⟨i0, hi, hz0, hz1, hz2⟩ := info_parts info5
  simp [sizeOf, typeInfo, hi, hz1]
theorem eq_prt (w : World) (pr : List UInt8) (h : pr.length = 32) : (Op.equalIn 10000 28 (.agg (cellsB pr).toArray) (.agg (cellsB pr).toArray)).run Try.prog w = .ok true w := by
  have := run_equalIn_bytes (P := Try.prog) w 9998 28 5 32 Try.underlying28 Try.underlying5 size_u8 pr pr h h
  have h2 : (pr == pr) = true := by simp
  rw [h2] at this
  exact this

/-- The zero thing. -/
def zT : List Value := thingC 0 0 (.slice none 0 0) z32
theorem zero_thing (w : World) : (zeroValue 30).run Try.prog w = .ok (.agg zT.toArray) w := by kernel_rfl
theorem Th.len {t : Th} (hp : t.pr.length = 32) : t.cells.length = 35 := by simp [Th.cells, thingC, length_cellsB, hp]
theorem splice_thing {t : Th} (hp : t.pr.length = 32) : splice zT 0 t.cells = t.cells := by
  unfold splice
  rw [List.take_zero, List.nil_append, Nat.zero_add, Th.len hp, List.drop_eq_nil_of_le (by decide), List.append_nil]
theorem Th.one {w : World} {t : Th} (h : t.Ok w) : ∀ v ∈ t.cells, v.oneCell' = true := by
  obtain ⟨a0, c, hx, _⟩ := h.slc
  intro v hv
  unfold Th.cells thingC at hv
  rw [hx] at hv
  rcases List.mem_append.1 hv with hv | hv
  · simp at hv
    rcases hv with rfl | rfl | rfl <;> rfl
  · exact oneCell_cellsB _ v hv

/-- A thing's cells are old ones. -/
theorem Th.Ok.stay {X : Nat → Prop} {w w' : World} {t : Th} (h : t.Ok w) (hs : Stay X w w') (hX : ∀ k, X k → w.heap.size ≤ k) : t.Ok w' :=
  ⟨h.n1, h.n2, h.slc.stay hs (fun k _ h1 h2 => by have := hX k h2; omega), h.pr⟩

set_option maxHeartbeats 40000000 in
theorem back_walk (w : World) (L : List Th) (a0 : Option Addr) (c : Nat) (hok : ∀ t ∈ L, t.Ok w) (hat : ThsAt w a0 L) (hsz : L.length ≤ 9223372036854775806) (hb : ∀ t ∈ L, t.b.length ≤ 1048576) :
    Calls Try.prog 4 #[.slice a0 L.length c] w fun e w' => e = .returned (.bool true) ∧ Stay (fun _ => False) w w' := by
  have hlen : ∀ i, i ≤ 200 → (laidB (L.take i)).length ≤ 209721600 := fun i hi => by
    have := laidB_len (fun t h => (hok t h).pr) hb i
    omega
  have HOK := Lib.hid hok
  have HAT := Lib.hid hat
  have HLEN := Lib.hid hlen
  have HB := Lib.hid hb
  clear hok hat hlen hb
  go_enter Try.func4, Try.ntmps4
  go_wp2_with fail
  refine (new_any w).mono ?_
  rintro e w1 ⟨rfl, rfl⟩
  go_wp2
  go_loopw [3, 4] (fun pv k wr => ∃ i : Nat, i ≤ L.length ∧ i ≤ 200 ∧ pv = .pointer (some ⟨w.heap.size, 0, none⟩) ∧ k = .int .i64 (i : Int) ∧ WrAt (fun k => w.heap.size ≤ k) wr w.heap.size (laidB (L.take i)) ∧ Stay (fun k => w.heap.size ≤ k) w wr) (fun _ k _ => 200 - (intOf k).toNat)
  case atStart => exact ⟨0, by omega, by omega, rfl, rfl, by simpa [laidB] using WrAt.new w, Stay.alloc _ _⟩
  case round =>
    obtain ⟨i, hi1, hi2, rfl, rfl, hwr, hst⟩ := hrel
    by_cases hi : i < L.length ∧ i < 200
    · obtain ⟨hil, hi200⟩ := hi
      obtain ⟨ad, rfl, hcells⟩ := HAT.out (by omega)
      obtain ⟨t, ht⟩ : ∃ t, L[i]? = some t := ⟨_, List.getElem?_eq_getElem hil⟩
      have hcs := hcells i t ht
      have hI1 : (i : Int) < (L.length : Int) := by omega
      have hI2 : (i : Int) < 200 := by omega
      have e1 : IntKind.i64.wrap ((i : Int) + 1) = (i : Int) + 1 := IntWalk.i64_in _ (by omega)
      have HWR := Lib.hid hwr
      have HST := Lib.hid hst
      have HT := Lib.hid ht
      have HC := Lib.hid hcs
      have hold : ∀ j v, t.cells[j]? = some v → wr.cell? ((ad.add (i * 35)).add j) = some v := fun j v hv => by
        have h1 := HC.out j v hv
        have h2 := World.block_lt_of_cell? w _ h1
        exact HST.out.cell h1 (by omega)
      have HOLD := Lib.hid hold
      have hmem := List.mem_of_getElem? ht
      have hto := HOK.out t hmem
      have HIN := Lib.hid (info_cells hto.pr)
      have HTO := Lib.hid (hto.stay HST.out (fun k h => h))
      have HTW := Lib.hid hto
      have hbt := HB.out t hmem
      have hle := HLEN.out i hi2
      clear hwr hst ht hcs hcells hold hmem hto
      go_wp2_with (refine wpList_load_at rfl 30 (.tmp 23) rfl (ad.add (i * 35)) rfl t.cells _ Try.underlying30 rfl HIN.out HOLD.out ?_)
      refine (lay_thing w.heap.size wr w.heap.size _ t.k t.n t.x t.b t.pr HWR.out HTO.out.slc (fun h0 k e => HTW.out.slc.blk_lt h0 k e) HTO.out.pr HTO.out.n1 HTO.out.n2 (by omega)).mono ?_
      rintro e w2 ⟨rfl, hw2, hst2⟩
      go_wp2
      go_roundw
      case rel => exact ⟨i + 1, by omega, by omega, rfl, by go_num, by rw [laidB_succ HT.out]; exact hw2, HST.out.trans hst2⟩
      case measure => simp [intOf]; omega
    · have hend : ¬ ((i : Int) < (L.length : Int)) ∨ ((i : Int) < (L.length : Int) ∧ ¬ ((i : Int) < 200)) := by
        by_cases h : i < L.length
        · exact .inr ⟨by omega, by omega⟩
        · exact .inl (by omega)
      have hle := HLEN.out i hi2
      have HWR := Lib.hid hwr
      have HST := Lib.hid hst
      clear hwr hst
      rcases hend with hd | ⟨hd, hd2⟩
      all_goals
        go_wp2_with fail
        refine (done_any _ wr w.heap.size _ HWR.out (by omega)).mono ?_
        rintro e w2 ⟨v, rfl, how, hst2⟩
        have HSL := Lib.hid how.slc
        have HS2 := Lib.hid (HST.out.trans (hst2.mono (fun _ x => x.elim)))
        clear how hst2
        go_wp2_with fail
        refine (read_cap w2 v _ HSL.out (by omega)).mono ?_
        rintro e w3 ⟨p, rfl, hrd, hst3⟩
        have HRD := Lib.hid hrd
        have HS3 := Lib.hid (hst3.mono (Y := fun k => w2.heap.size ≤ k) (fun _ x => x.elim))
        have hz3 := hst3.size
        clear hrd hst3
        go_wp2
        go_loopw [6, 7, 8] (fun k _ _ wy => ∃ j : Nat, j ≤ i ∧ k = .int .i64 (j : Int) ∧ RdAt (fun k => w2.heap.size ≤ k ∧ k < w3.heap.size) wy p ⟨laidB ((L.take i).drop j), 0⟩ ∧ Stay (fun k => w2.heap.size ≤ k) w2 wy ∧ w3.heap.size ≤ wy.heap.size) (fun k _ _ _ => 200 - (intOf k).toNat)
        case atStart => exact ⟨0, Nat.zero_le _, rfl, HRD.out, HS3.out, Nat.le_refl _⟩
        case round =>
          obtain ⟨j, hj, rfl, hrd, hsy, hzy⟩ := hrel
          by_cases hji : j < i
          · obtain ⟨ad, rfl, hcells⟩ := HAT.out (by omega)
            obtain ⟨t, ht⟩ : ∃ t, L[j]? = some t := ⟨_, List.getElem?_eq_getElem (by omega)⟩
            rw [laidB_drop ht hji] at hrd
            have hcs := hcells j t ht
            have hJ1 : (j : Int) < (L.length : Int) := by omega
            have hJ2 : (j : Int) < 200 := by omega
            have e1 : IntKind.i64.wrap ((j : Int) + 1) = (j : Int) + 1 := IntWalk.i64_in _ (by omega)
            have hz2 := HS2.out.size
            have hsw := HS2.out.trans (hsy.mono (fun k hk => by omega))
            have hold : ∀ m v, t.cells[m]? = some v → wr.cell? ((ad.add (j * 35)).add m) = some v := fun m v hv => by
              have h1 := hcs m v hv
              have h2 := World.block_lt_of_cell? w _ h1
              exact hsw.cell h1 (by omega)
            have HOLD := Lib.hid hold
            have hto := HOK.out t (List.mem_of_getElem? ht)
            have HIN := Lib.hid (info_cells hto.pr)
            have HTO := Lib.hid (hto.stay hsw (fun k h => h))
            have hbt := HB.out t (List.mem_of_getElem? ht)
            have HSY := Lib.hid hsy
            have hlr := HLEN.out i hi2
            obtain ⟨a1, c1, hx1, _⟩ := id hto.slc
            have HX1 := Lib.hid hx1
            have HNB := Lib.hid (show 0 < t.b.length → ∀ k, (Value.slice a1 t.b.length c1).ownBlock = some k → k < w.heap.size by rw [← hx1]; exact hto.slc.blk_lt)
            have HONE := Lib.hid (Th.one hto)
            have HPR := Lib.hid hto.pr
            obtain ⟨rest, hrest⟩ : ∃ rest, rest = laidB ((L.take i).drop (j + 1)) := ⟨_, rfl⟩
            rw [← hrest] at hrd
            have HREST := Lib.hid hrest
            have hll : (t.laid ++ rest).length ≤ 140737488355328 := by
              have h1 := HB.out t (List.mem_of_getElem? ht)
              have h2 := t.laid_len hto.pr
              have h3 : rest.length ≤ 209721600 := by
                rw [hrest]
                have h4 : (laidB ((L.take i).drop (j + 1))).length ≤ (laidB (L.take i)).length := by
                  conv => rhs; rw [← List.take_append_drop (j + 1) (L.take i)]
                  unfold laidB
                  rw [List.flatMap_append, List.length_append]
                  omega
                omega
              rw [List.length_append]
              omega
            have HLR := Lib.hid hll
            clear hll
            have HRDY := Lib.hid hrd
            clear ht hcs hcells hold hto hrd hsy hsw hx1 hrest
            rcases six t.k with hk | hk | hk | hk | hk | hk
            · have HLD := Lib.hid (laid0 hk)
              unfold kindOf at hk
              go_wp2_with (first
                | (refine wpList_load_at rfl 30 (.tmp 41) rfl (ad.add (j * 35)) rfl t.cells _ Try.underlying30 rfl HIN.out HOLD.out ?_)
                | (with_reducible refine wpList_alloc_at rfl 30 rfl _ (zero_thing _) ?_)
                | (refine wpList_store_mid rfl 30 (.tmp 7) (.tmp 42) rfl wr.heap.size 0 rfl 30 zT t.cells rfl (heap_alloc_new wr _) HIN.out (by rw [Th.len HPR.out]; decide) HONE.out ?_
                   intro w5 hp5 hs5
                   rw [splice_thing HPR.out] at hp5
                   have hs15 := (Stay.alloc (X := fun k => k = wr.heap.size) wr (.cells zT.toArray 30)).trans hs5
                   have hc0 : w5.cell? ⟨wr.heap.size, 0, none⟩ = some (.int .i64 t.k) := by rw [cell_of_row w5 _ 0 _ _ _ hp5]; simp [Th.cells, thingC]
                   have hc1 : w5.cell? ⟨wr.heap.size, 1, none⟩ = some (.int .i64 t.n) := by rw [cell_of_row w5 _ 1 _ _ _ hp5]; simp [Th.cells, thingC]
                   have hc2 : w5.cell? ⟨wr.heap.size, 2, none⟩ = some (.slice a1 t.b.length c1) := by rw [cell_of_row w5 _ 2 _ _ _ hp5]; simp [Th.cells, thingC, HX1.out]
                   have HR5 := Lib.hid (HRDY.out.stay hs15 (fun k hk _ e => by omega))
                   have HP5 := Lib.hid hp5
                   have HS15 := Lib.hid hs15
                   have HT5 := Lib.hid (show Slc w5.drew (.slice a1 t.b.length c1) t.b by rw [← HX1.out]; exact (HTO.out.slc.stay hs15 (fun k _ h1 h2 => by omega)).stay0 Stay.drew)
                   clear hp5 hs5 hs15))
              have hdrew : ∀ {a : Addr} {v : Value}, w5.cell? a = some v → w5.drew.cell? a = some v := fun h => h
              have hpr := HR5.out.own
              have hcv := conv_slc HT5.out
              unfold strV at hcv
              go_region_with (go_at_call 12; refine (tk0 _ _ p t rest HLD.out (HR5.out.stay0 Stay.drew)).mono ?_; rintro e w6 ⟨rfl, hr6, hs6⟩; have hc1' := hs6.cell (hdrew hc1) (by simp; omega); have HR6 := Lib.hid hr6; have HS6 := Lib.hid hs6; clear hr6 hs6)
              all_goals
                clear hcv hc0 hc1 hc2
                go_wp2
                go_roundw
                case rel => exact ⟨j + 1, by omega, by go_num, by rw [← HREST.out]; exact HR6.out, ((HSY.out.trans (HS15.out.mono (fun k e => by have e' : k = wr.heap.size := e; omega))).trans Stay.drew).trans (HS6.out.mono (fun k e => by have e' : k = p := e; omega)), Nat.le_trans hzy (Nat.le_trans HS15.out.size HS6.out.size)⟩
                case measure => simp [intOf]; omega
            · have HLD := Lib.hid (laid1 hk)
              unfold kindOf at hk
              go_wp2_with (first
                | (refine wpList_load_at rfl 30 (.tmp 41) rfl (ad.add (j * 35)) rfl t.cells _ Try.underlying30 rfl HIN.out HOLD.out ?_)
                | (with_reducible refine wpList_alloc_at rfl 30 rfl _ (zero_thing _) ?_)
                | (refine wpList_store_mid rfl 30 (.tmp 7) (.tmp 42) rfl wr.heap.size 0 rfl 30 zT t.cells rfl (heap_alloc_new wr _) HIN.out (by rw [Th.len HPR.out]; decide) HONE.out ?_
                   intro w5 hp5 hs5
                   rw [splice_thing HPR.out] at hp5
                   have hs15 := (Stay.alloc (X := fun k => k = wr.heap.size) wr (.cells zT.toArray 30)).trans hs5
                   have hc0 : w5.cell? ⟨wr.heap.size, 0, none⟩ = some (.int .i64 t.k) := by rw [cell_of_row w5 _ 0 _ _ _ hp5]; simp [Th.cells, thingC]
                   have hc1 : w5.cell? ⟨wr.heap.size, 1, none⟩ = some (.int .i64 t.n) := by rw [cell_of_row w5 _ 1 _ _ _ hp5]; simp [Th.cells, thingC]
                   have hc2 : w5.cell? ⟨wr.heap.size, 2, none⟩ = some (.slice a1 t.b.length c1) := by rw [cell_of_row w5 _ 2 _ _ _ hp5]; simp [Th.cells, thingC, HX1.out]
                   have HR5 := Lib.hid (HRDY.out.stay hs15 (fun k hk _ e => by omega))
                   have HP5 := Lib.hid hp5
                   have HS15 := Lib.hid hs15
                   have HT5 := Lib.hid (show Slc w5.drew (.slice a1 t.b.length c1) t.b by rw [← HX1.out]; exact (HTO.out.slc.stay hs15 (fun k _ h1 h2 => by omega)).stay0 Stay.drew)
                   clear hp5 hs5 hs15))
              have hdrew : ∀ {a : Addr} {v : Value}, w5.cell? a = some v → w5.drew.cell? a = some v := fun h => h
              have hpr := HR5.out.own
              have hcv := conv_slc HT5.out
              unfold strV at hcv
              go_region_with (go_at_call 13; refine (tk1 _ _ _ p t rest HTO.out HLD.out (HR5.out.stay0 Stay.drew)).mono ?_; rintro e w6 ⟨rfl, hr6, hs6⟩; have hc1' := hs6.cell (hdrew hc1) (by simp; omega); have HR6 := Lib.hid hr6; have HS6 := Lib.hid hs6; clear hr6 hs6)
              all_goals
                clear hcv hc0 hc1 hc2
                go_wp2
                go_roundw
                case rel => exact ⟨j + 1, by omega, by go_num, by rw [← HREST.out]; exact HR6.out, ((HSY.out.trans (HS15.out.mono (fun k e => by have e' : k = wr.heap.size := e; omega))).trans Stay.drew).trans (HS6.out.mono (fun k e => by have e' : k = p := e; omega)), Nat.le_trans hzy (Nat.le_trans HS15.out.size HS6.out.size)⟩
                case measure => simp [intOf]; omega
            · have HLD := Lib.hid (laid2 hk)
              unfold kindOf at hk
              go_wp2_with (first
                | (refine wpList_load_at rfl 30 (.tmp 41) rfl (ad.add (j * 35)) rfl t.cells _ Try.underlying30 rfl HIN.out HOLD.out ?_)
                | (with_reducible refine wpList_alloc_at rfl 30 rfl _ (zero_thing _) ?_)
                | (refine wpList_store_mid rfl 30 (.tmp 7) (.tmp 42) rfl wr.heap.size 0 rfl 30 zT t.cells rfl (heap_alloc_new wr _) HIN.out (by rw [Th.len HPR.out]; decide) HONE.out ?_
                   intro w5 hp5 hs5
                   rw [splice_thing HPR.out] at hp5
                   have hs15 := (Stay.alloc (X := fun k => k = wr.heap.size) wr (.cells zT.toArray 30)).trans hs5
                   have hc0 : w5.cell? ⟨wr.heap.size, 0, none⟩ = some (.int .i64 t.k) := by rw [cell_of_row w5 _ 0 _ _ _ hp5]; simp [Th.cells, thingC]
                   have hc1 : w5.cell? ⟨wr.heap.size, 1, none⟩ = some (.int .i64 t.n) := by rw [cell_of_row w5 _ 1 _ _ _ hp5]; simp [Th.cells, thingC]
                   have hc2 : w5.cell? ⟨wr.heap.size, 2, none⟩ = some (.slice a1 t.b.length c1) := by rw [cell_of_row w5 _ 2 _ _ _ hp5]; simp [Th.cells, thingC, HX1.out]
                   have HR5 := Lib.hid (HRDY.out.stay hs15 (fun k hk _ e => by omega))
                   have HP5 := Lib.hid hp5
                   have HS15 := Lib.hid hs15
                   have HT5 := Lib.hid (show Slc w5.drew (.slice a1 t.b.length c1) t.b by rw [← HX1.out]; exact (HTO.out.slc.stay hs15 (fun k _ h1 h2 => by omega)).stay0 Stay.drew)
                   clear hp5 hs5 hs15))
              have hdrew : ∀ {a : Addr} {v : Value}, w5.cell? a = some v → w5.drew.cell? a = some v := fun h => h
              have hpr := HR5.out.own
              have hcv := conv_slc HT5.out
              unfold strV at hcv
              go_region_with (go_at_call 14; refine (tk2 _ _ p t rest HLD.out (HR5.out.stay0 Stay.drew)).mono ?_; rintro e w6 ⟨rfl, hr6, hs6⟩; have hc1' := hs6.cell (hdrew hc1) (by simp; omega); have HR6 := Lib.hid hr6; have HS6 := Lib.hid hs6; clear hr6 hs6)
              all_goals
                clear hcv hc0 hc1 hc2
                go_wp2
                go_roundw
                case rel => exact ⟨j + 1, by omega, by go_num, by rw [← HREST.out]; exact HR6.out, ((HSY.out.trans (HS15.out.mono (fun k e => by have e' : k = wr.heap.size := e; omega))).trans Stay.drew).trans (HS6.out.mono (fun k e => by have e' : k = p := e; omega)), Nat.le_trans hzy (Nat.le_trans HS15.out.size HS6.out.size)⟩
                case measure => simp [intOf]; omega
            · have HLD := Lib.hid (laid3 hk)
              unfold kindOf at hk
              go_wp2_with (first
                | (refine wpList_load_at rfl 30 (.tmp 41) rfl (ad.add (j * 35)) rfl t.cells _ Try.underlying30 rfl HIN.out HOLD.out ?_)
                | (with_reducible refine wpList_alloc_at rfl 30 rfl _ (zero_thing _) ?_)
                | (refine wpList_store_mid rfl 30 (.tmp 7) (.tmp 42) rfl wr.heap.size 0 rfl 30 zT t.cells rfl (heap_alloc_new wr _) HIN.out (by rw [Th.len HPR.out]; decide) HONE.out ?_
                   intro w5 hp5 hs5
                   rw [splice_thing HPR.out] at hp5
                   have hs15 := (Stay.alloc (X := fun k => k = wr.heap.size) wr (.cells zT.toArray 30)).trans hs5
                   have hc0 : w5.cell? ⟨wr.heap.size, 0, none⟩ = some (.int .i64 t.k) := by rw [cell_of_row w5 _ 0 _ _ _ hp5]; simp [Th.cells, thingC]
                   have hc1 : w5.cell? ⟨wr.heap.size, 1, none⟩ = some (.int .i64 t.n) := by rw [cell_of_row w5 _ 1 _ _ _ hp5]; simp [Th.cells, thingC]
                   have hc2 : w5.cell? ⟨wr.heap.size, 2, none⟩ = some (.slice a1 t.b.length c1) := by rw [cell_of_row w5 _ 2 _ _ _ hp5]; simp [Th.cells, thingC, HX1.out]
                   have HR5 := Lib.hid (HRDY.out.stay hs15 (fun k hk _ e => by omega))
                   have HP5 := Lib.hid hp5
                   have HS15 := Lib.hid hs15
                   have HT5 := Lib.hid (show Slc w5.drew (.slice a1 t.b.length c1) t.b by rw [← HX1.out]; exact (HTO.out.slc.stay hs15 (fun k _ h1 h2 => by omega)).stay0 Stay.drew)
                   clear hp5 hs5 hs15))
              have hdrew : ∀ {a : Addr} {v : Value}, w5.cell? a = some v → w5.drew.cell? a = some v := fun h => h
              have hpr := HR5.out.own
              have hcv := conv_slc HT5.out
              unfold strV at hcv
              go_region_with (go_at_call 15; refine (tk3 _ _ p t rest HLR.out HLD.out (HR5.out.stay0 Stay.drew)).mono ?_; rintro e w6 ⟨rfl, hr6, hs6⟩; have hc2' := hs6.cell (hdrew hc2) (by simp; omega); have hcv' := conv_slc (HT5.out.stay' hs6 (fun h0 k e1 h1 => by have h2 := HNB.out h0 k e1; have h3 : k = p := h1; omega)); unfold strV at hcv'; have HR6 := Lib.hid hr6; have HS6 := Lib.hid hs6; clear hr6 hs6)
              all_goals
                clear hcv hc0 hc1 hc2
                go_wp2
                go_roundw
                case rel => exact ⟨j + 1, by omega, by go_num, by rw [← HREST.out]; exact HR6.out, ((HSY.out.trans (HS15.out.mono (fun k e => by have e' : k = wr.heap.size := e; omega))).trans Stay.drew).trans (HS6.out.mono (fun k e => by have e' : k = p := e; omega)), Nat.le_trans hzy (Nat.le_trans HS15.out.size HS6.out.size)⟩
                case measure => simp [intOf]; omega
            · have HLD := Lib.hid (laid4 hk)
              unfold kindOf at hk
              go_wp2_with (first
                | (refine wpList_load_at rfl 30 (.tmp 41) rfl (ad.add (j * 35)) rfl t.cells _ Try.underlying30 rfl HIN.out HOLD.out ?_)
                | (with_reducible refine wpList_alloc_at rfl 30 rfl _ (zero_thing _) ?_)
                | (refine wpList_store_mid rfl 30 (.tmp 7) (.tmp 42) rfl wr.heap.size 0 rfl 30 zT t.cells rfl (heap_alloc_new wr _) HIN.out (by rw [Th.len HPR.out]; decide) HONE.out ?_
                   intro w5 hp5 hs5
                   rw [splice_thing HPR.out] at hp5
                   have hs15 := (Stay.alloc (X := fun k => k = wr.heap.size) wr (.cells zT.toArray 30)).trans hs5
                   have hc0 : w5.cell? ⟨wr.heap.size, 0, none⟩ = some (.int .i64 t.k) := by rw [cell_of_row w5 _ 0 _ _ _ hp5]; simp [Th.cells, thingC]
                   have hc1 : w5.cell? ⟨wr.heap.size, 1, none⟩ = some (.int .i64 t.n) := by rw [cell_of_row w5 _ 1 _ _ _ hp5]; simp [Th.cells, thingC]
                   have hc2 : w5.cell? ⟨wr.heap.size, 2, none⟩ = some (.slice a1 t.b.length c1) := by rw [cell_of_row w5 _ 2 _ _ _ hp5]; simp [Th.cells, thingC, HX1.out]
                   have HR5 := Lib.hid (HRDY.out.stay hs15 (fun k hk _ e => by omega))
                   have HP5 := Lib.hid hp5
                   have HS15 := Lib.hid hs15
                   have HT5 := Lib.hid (show Slc w5.drew (.slice a1 t.b.length c1) t.b by rw [← HX1.out]; exact (HTO.out.slc.stay hs15 (fun k _ h1 h2 => by omega)).stay0 Stay.drew)
                   clear hp5 hs5 hs15))
              have hdrew : ∀ {a : Addr} {v : Value}, w5.cell? a = some v → w5.drew.cell? a = some v := fun h => h
              have hpr := HR5.out.own
              have hcv := conv_slc HT5.out
              unfold strV at hcv
              go_region_with (go_at_call 16; refine (tk4 _ _ p t rest HLR.out HLD.out (HR5.out.stay0 Stay.drew)).mono ?_; rintro e w6 ⟨⟨a6, c6, rfl, hsl6⟩, hr6, hs6⟩; have hc2' := hs6.cell (hdrew hc2) (by simp; omega); have hcv' := conv_slc (HT5.out.stay' hs6 (fun h0 k e1 h1 => by have h2 := HNB.out h0 k e1; have h3 : k = p := h1; omega)); have hcv6 := conv_slc hsl6; unfold strV at hcv' hcv6; have HR6 := Lib.hid hr6; have HS6 := Lib.hid hs6; clear hr6 hs6 hsl6)
              all_goals
                clear hcv hc0 hc1 hc2
                go_wp2
                go_roundw
                case rel => exact ⟨j + 1, by omega, by go_num, by rw [← HREST.out]; exact HR6.out, ((HSY.out.trans (HS15.out.mono (fun k e => by have e' : k = wr.heap.size := e; omega))).trans Stay.drew).trans (HS6.out.mono (fun k e => by have e' : k = p := e; omega)), Nat.le_trans hzy (Nat.le_trans HS15.out.size HS6.out.size)⟩
                case measure => simp [intOf]; omega
            · have HLD := Lib.hid (laid5 hk)
              unfold kindOf at hk
              go_wp2_with (first
                | (refine wpList_load_at rfl 30 (.tmp 41) rfl (ad.add (j * 35)) rfl t.cells _ Try.underlying30 rfl HIN.out HOLD.out ?_)
                | (with_reducible refine wpList_alloc_at rfl 30 rfl _ (zero_thing _) ?_)
                | (refine wpList_store_mid rfl 30 (.tmp 7) (.tmp 42) rfl wr.heap.size 0 rfl 30 zT t.cells rfl (heap_alloc_new wr _) HIN.out (by rw [Th.len HPR.out]; decide) HONE.out ?_
                   intro w5 hp5 hs5
                   rw [splice_thing HPR.out] at hp5
                   have hs15 := (Stay.alloc (X := fun k => k = wr.heap.size) wr (.cells zT.toArray 30)).trans hs5
                   have hc0 : w5.cell? ⟨wr.heap.size, 0, none⟩ = some (.int .i64 t.k) := by rw [cell_of_row w5 _ 0 _ _ _ hp5]; simp [Th.cells, thingC]
                   have hc1 : w5.cell? ⟨wr.heap.size, 1, none⟩ = some (.int .i64 t.n) := by rw [cell_of_row w5 _ 1 _ _ _ hp5]; simp [Th.cells, thingC]
                   have hc2 : w5.cell? ⟨wr.heap.size, 2, none⟩ = some (.slice a1 t.b.length c1) := by rw [cell_of_row w5 _ 2 _ _ _ hp5]; simp [Th.cells, thingC, HX1.out]
                   have HR5 := Lib.hid (HRDY.out.stay hs15 (fun k hk _ e => by omega))
                   have HP5 := Lib.hid hp5
                   have HS15 := Lib.hid hs15
                   have HT5 := Lib.hid (show Slc w5.drew (.slice a1 t.b.length c1) t.b by rw [← HX1.out]; exact (HTO.out.slc.stay hs15 (fun k _ h1 h2 => by omega)).stay0 Stay.drew)
                   clear hp5 hs5 hs15))
              have hdrew : ∀ {a : Addr} {v : Value}, w5.cell? a = some v → w5.drew.cell? a = some v := fun h => h
              have hpr := HR5.out.own
              have hcv := conv_slc HT5.out
              unfold strV at hcv
              have hin28 := info_prt_of (h := t.pr) HPR.out
              have heq : ∀ W : World, (Op.equalIn 10000 28 (.agg (cellsB t.pr).toArray) (.agg (cellsB t.pr).toArray)).run Try.prog W = .ok true W := fun W => eq_prt W t.pr HPR.out
              have hoff : ∀ j, j < (cellsB t.pr).toArray.size → t.cells.toArray[3 + j]? = (cellsB t.pr).toArray[j]? := fun j hj => by rw [Nat.add_comm]; simp [Th.cells, thingC]
              have HIN28 := Lib.hid hin28
              have HOFF := Lib.hid hoff
              clear hin28 hoff hcv hc0 hc1 hc2
              refine wp_region_any (by kernel_rfl) ?_
              change wpAny _ _ _ _ _ _ _ (World.drew _)
              refine wpAny_take (i := 0) (v := ?_) rfl (by kernel_rfl) (by kernel_rfl) (by kernel_rfl) (fun _ _ _ h => h) (Or.inl ⟨by rfl, ?_⟩) ?_
              rotate_left
              · intro w
                go_simp
                with_reducible rfl
              refine wpAny_take (i := 2) (v := ?_) rfl (by kernel_rfl) (by kernel_rfl) (by kernel_rfl) (fun _ _ _ h => h) (Or.inl ⟨by rfl, ?_⟩) ?_
              rotate_left
              · intro w
                go_simp
                with_reducible rfl
              refine wpAny_ready (rs := [1, 3]) (by kernel_rfl) (by simp) (AllReady.cons rfl (fun K hK => ?_) (AllReady.cons rfl (fun K hK => ?_) AllReady.nil))
              · go_simp
                go_wp2_with (go_at_call 17; refine (tk5 _ _ _ p t rest HTO.out HLD.out (HR5.out.stay0 Stay.drew)).mono ?_; rintro e w6 ⟨rfl, hr6, hs6⟩; have HP6 := Lib.hid ((hs6.block wr.heap.size (lt_of_block HP5.out) (fun e1 => by have e2 : wr.heap.size = p := e1; omega)).trans HP5.out); have HR6 := Lib.hid hr6; have HS6 := Lib.hid hs6; clear hr6 hs6)
                refine wpAny_ready (rs := [3]) (by kernel_rfl) (by simp) (AllReady.cons rfl (fun K hK => ?_) AllReady.nil)
                refine step_load_mid rfl 28 (.tmp 50) rfl wr.heap.size 3 rfl 30 t.cells.toArray (cellsB t.pr).toArray (0, 0) _ HP6.out Try.underlying28 rfl HIN28.out HOFF.out ?_
                refine hK _ _ ?_
                clear hK K
                refine wpAny_ready (rs := [4]) (by kernel_rfl) (by simp) (AllReady.cons rfl (fun K hK => ?_) AllReady.nil)
                go_simp
                refine hK _ _ ?_
                clear hK K
                refine wpAny_ready (rs := [5]) (by kernel_rfl) (by simp) (AllReady.cons rfl (fun K hK => ?_) AllReady.nil)
                go_simp
                refine hK _ _ ?_
                clear hK K
                refine wpAny_done (by kernel_rfl) ?_ _
                clear heq
                go_wp2
                go_roundw
                case rel => exact ⟨j + 1, by omega, by go_num, by rw [← HREST.out]; exact HR6.out, ((HSY.out.trans (HS15.out.mono (fun k e => by have e' : k = wr.heap.size := e; omega))).trans Stay.drew).trans (HS6.out.mono (fun k e => by have e' : k = p := e; omega)), Nat.le_trans hzy (Nat.le_trans HS15.out.size HS6.out.size)⟩
                case measure => simp [intOf]; omega
              · refine step_load_mid rfl 28 (.tmp 50) rfl wr.heap.size 3 rfl 30 t.cells.toArray (cellsB t.pr).toArray (0, 0) _ HP5.out Try.underlying28 rfl HIN28.out HOFF.out ?_
                refine hK _ _ ?_
                clear hK K
                refine wpAny_ready (rs := [1]) (by kernel_rfl) (by simp) (AllReady.cons rfl (fun K hK => ?_) AllReady.nil)
                go_simp
                go_wp2_with (go_at_call 17; refine (tk5 _ _ _ p t rest HTO.out HLD.out (HR5.out.stay0 Stay.drew)).mono ?_; rintro e w6 ⟨rfl, hr6, hs6⟩; have HP6 := Lib.hid ((hs6.block wr.heap.size (lt_of_block HP5.out) (fun e1 => by have e2 : wr.heap.size = p := e1; omega)).trans HP5.out); have HR6 := Lib.hid hr6; have HS6 := Lib.hid hs6; clear hr6 hs6)
                refine wpAny_ready (rs := [4]) (by kernel_rfl) (by simp) (AllReady.cons rfl (fun K hK => ?_) AllReady.nil)
                go_simp
                refine hK _ _ ?_
                clear hK K
                refine wpAny_ready (rs := [5]) (by kernel_rfl) (by simp) (AllReady.cons rfl (fun K hK => ?_) AllReady.nil)
                go_simp
                refine hK _ _ ?_
                clear hK K
                refine wpAny_done (by kernel_rfl) ?_ _
                clear heq
                go_wp2
                go_roundw
                case rel => exact ⟨j + 1, by omega, by go_num, by rw [← HREST.out]; exact HR6.out, ((HSY.out.trans (HS15.out.mono (fun k e => by have e' : k = wr.heap.size := e; omega))).trans Stay.drew).trans (HS6.out.mono (fun k e => by have e' : k = p := e; omega)), Nat.le_trans hzy (Nat.le_trans HS15.out.size HS6.out.size)⟩
                case measure => simp [intOf]; omega
          · obtain rfl : j = i := by omega
            have hnil : laidB ((L.take j).drop j) = [] := by
              rw [List.drop_eq_nil_of_le (by rw [List.length_take]; omega)]
              rfl
            rw [hnil] at hrd
            have HRN := Lib.hid hrd
            have HSZ := Lib.hid (HS2.out.trans (hsy.mono (fun k hk => Nat.le_trans HS2.out.size hk)))
            clear hrd hsy hnil
            go_wp2_with fail
            refine (rdone_any _ wr p _ HRN.out).mono ?_
            rintro e w6 ⟨rfl, rfl⟩
            rw [show errV (doneB ⟨[], 0⟩) = .nilIface from rfl]
            go_wp2_with fail
            refine (sure_any wr).mono ?_
            rintro e w7 ⟨rfl, hs7⟩
            go_wp2
            go_ret
            exact ⟨rfl, stay_seal (X := fun k => w.heap.size ≤ k) (HSZ.out.trans (hs7.mono (fun _ x => x.elim))) (fun k hk => hk)⟩

end Go.Proofs.Ytdaecmaemlmloaa.Pk
