/-
  delta: a part taken off; a part's block in memory.
-/
import Derived.Test.YtnlknnhibnfhcaaDoorDeE
import Derived.Test.YtnlknnhibnfhcaaDoorDeG
namespace Go.Proofs.YtnlknnhibnfhcaaDoor.De
open Go.RowKit Pk
set_option maxRecDepth 100000

/-- A block that holds a part. -/
def PoAt (w : World) (g : Nat) (ty : TypeId) (q : Po) : Prop := w.heap[g]? = some (.cells (poC q).toArray ty (0, 0))
section
variable {w : World} {g : Nat} {ty : TypeId} {q : Po}
theorem PoAt.lt (h : PoAt w g ty q) : g < w.heap.size := (Array.getElem?_eq_some_iff.1 h).1
theorem PoAt.c (h : PoAt w g ty q) (j : Nat) : w.cell? ⟨g, j, none⟩ = (poC q)[j]? := by
  rw [cell_of_row w g j _ _ _ h]
  simp only [List.getElem?_toArray]
theorem PoAt.fr (h : PoAt w g ty q) (i : Nat) : w.frozen? ⟨g, i, none⟩ = false := frozen_of_row w g i _ _ h
theorem PoAt.stay {X : Nat → Prop} {w' : World} (h : PoAt w g ty q) (hs : Stay X w w') (hx : ¬ X g) : PoAt w' g ty q := (hs.block g h.lt hx).trans h
theorem PoAt.stay0 {w' : World} (h : PoAt w g ty q) (hs : Stay (fun _ => False) w w') : PoAt w' g ty q := h.stay hs (fun x => x)
theorem PoAt.new (w : World) (ty : TypeId) (q : Po) : PoAt (w.alloc (.cells (poC q).toArray ty)) w.heap.size ty q := heap_alloc_new w _
theorem PoAt.run (h : PoAt w g ty q) (A : IsPt ty) : (loadVar ty ⟨g, 0, none⟩).run Tryd.prog w = .ok (poV q) w :=
  A.run_load (o := 0) (fun j u hu => by rw [Nat.zero_add, h.c]; exact hu)
theorem PoAt.store (h : PoAt w g ty q) (A : IsPt ty) {ops : Array Oper} {rest : List Oper} {o : Oper} {a : Act} {Q : Exit → Act → World → Prop} (hgd : o.guard = none) (x y : Operand) (ho : o.op = .store ty x y)
    (hx : a.eval x = .pointer (some ⟨g, 0, none⟩)) (q1 : Po) (hy : a.eval y = poV q1) (hone : ∀ u ∈ poC q1, u.oneCell' = true)
    (hn : ∀ w', PoAt w' g ty q1 → Stay (· = g) w w' → wpList Tryd.prog ops Q rest (a.put o.dst undef) w') : wpList Tryd.prog ops Q (o :: rest) a w :=
  wpList_store_mid hgd ty x y ho g 0 hx ty (poC q) (poC q1) hy h A.size (Nat.le_refl _) hone (fun w' h1 h2 => hn w' h1 h2)
end

/-- A part taken off. -/
def takeP (s : RS) : Pt × RS :=
  if (takeB truB false s).1 then
    (⟨true, (takeB (numB 64) 0 (takeB truB false s).2).1, (takeB (numB 64) 0 (takeB (numB 64) 0 (takeB truB false s).2).2).1, []⟩, (takeB (numB 64) 0 (takeB (numB 64) 0 (takeB truB false s).2).2).2)
  else (tellP (takeB (textB 64) [] (takeB truB false s).2).1, (takeB (textB 64) [] (takeB truB false s).2).2)
/-- So many parts taken off. -/
def takesN (s : RS) : Nat → List Pt × RS
  | 0 => ([], s)
  | k + 1 => ((takesN s k).1 ++ [(takeP (takesN s k).2).1], (takeP (takesN s k).2).2)
/-- The parts of bytes, and the error (0: none). -/
def decN (b : List UInt8) : List Pt × Nat :=
  if doneB (takesN (takeB (cntB 64) 0 ⟨b, 0⟩).2 (takeB (cntB 64) 0 ⟨b, 0⟩).1.toNat).2 = 0 then ((takesN (takeB (cntB 64) 0 ⟨b, 0⟩).2 (takeB (cntB 64) 0 ⟨b, 0⟩).1.toNat).1, 0) else ([], 3)

theorem take_len {α : Type} {rule : List UInt8 → Except Nat (α × List UInt8)} {zero : α} (hr : ∀ b v r, rule b = .ok (v, r) → r.length ≤ b.length) (s : RS) : (takeB rule zero s).2.b.length ≤ s.b.length := by
  by_cases he : s.err = 0
  · cases h : rule s.b with
    | error c => rw [takeB_error he h]; exact Nat.le_refl _
    | ok p => rw [takeB_ok he h]; exact hr _ _ _ h
  · rw [takeB_bad he]; exact Nat.le_refl _
theorem truB_len (b : List UInt8) (v : Bool) (r : List UInt8) (h : truB b = .ok (v, r)) : r.length ≤ b.length := by
  cases b with
  | nil => cases h
  | cons c l =>
    by_cases h1 : 1 < c.toNat
    · rw [show truB (c :: l) = .error 3 by simp [truB, h1]] at h
      cases h
    · rw [show truB (c :: l) = .ok (c.toNat == 1, l) by simp [truB, h1]] at h
      cases h
      simp
theorem textB_len (most : Int) (b : List UInt8) (v : List UInt8) (r : List UInt8) (h : textB most b = .ok (v, r)) : r.length ≤ b.length := by
  by_cases h0 : most < 0
  · rw [textB_neg h0] at h; cases h
  · cases hn : numB M64 b with
    | error c => rw [textB_err h0 hn] at h; cases h
    | ok p =>
      obtain ⟨n, r1⟩ := p
      have hl := numB_len hn
      by_cases h1 : most < (n : Int)
      · rw [textB_long h0 hn h1] at h; cases h
      · by_cases h2 : r1.length < n
        · rw [textB_end h0 hn h1 h2] at h; cases h
        · rw [textB_ok h0 hn h1 h2] at h
          cases h
          rw [List.length_drop]
          omega
theorem cntB_len (most : Int) (b : List UInt8) (v : Int) (r : List UInt8) (h : cntB most b = .ok (v, r)) : r.length ≤ b.length := by
  cases hn : numB most.toNat b with
  | error c => rw [cntB_error hn] at h; cases h
  | ok p =>
    obtain ⟨n, r1⟩ := p
    have hl := numB_len hn
    by_cases h1 : r1.length < n
    · rw [cntB_long hn h1] at h; cases h
    · rw [cntB_ok hn h1] at h; cases h; exact hl
theorem takeP_len (s : RS) : (takeP s).2.b.length ≤ s.b.length := by
  have h1 := take_len (zero := false) (truB_len) s
  unfold takeP
  split
  · have h2 := take_len (rule := numB 64) (zero := 0) (fun b v r h => numB_len h) (takeB truB false s).2
    have h3 := take_len (rule := numB 64) (zero := 0) (fun b v r h => numB_len h) (takeB (numB 64) 0 (takeB truB false s).2).2
    dsimp only
    omega
  · have h2 := take_len (rule := textB 64) (zero := []) (textB_len 64) (takeB truB false s).2
    dsimp only
    omega
theorem takes_len (s : RS) : ∀ k, (takesN s k).2.b.length ≤ s.b.length
  | 0 => Nat.le_refl _
  | k + 1 => Nat.le_trans (takeP_len _) (takes_len s k)
theorem take_num_le (s : RS) : (takeB (numB 64) 0 s).1 ≤ 64 := by
  by_cases he : s.err = 0
  · cases h : numB 64 s.b with
    | error c => rw [takeB_error he h]; exact Nat.zero_le _
    | ok p =>
      obtain ⟨n, r⟩ := p
      rw [takeB_ok he h]
      have := numB_le h
      exact this
  · rw [takeB_bad he]; exact Nat.zero_le _
theorem take_cnt_le (s : RS) : 0 ≤ (takeB (cntB 64) 0 s).1 ∧ (takeB (cntB 64) 0 s).1 ≤ 64 := by
  by_cases he : s.err = 0
  · cases h : cntB 64 s.b with
    | error c => rw [takeB_error he h]; exact ⟨Int.le_refl _, by show (0 : Int) ≤ 64; omega⟩
    | ok p =>
      obtain ⟨n, r⟩ := p
      rw [takeB_ok he h]
      cases hn : numB (64 : Int).toNat s.b with
      | error c => rw [cntB_error hn] at h; cases h
      | ok p =>
        obtain ⟨m, r1⟩ := p
        have hl := numB_le hn
        by_cases h1 : r1.length < m
        · rw [cntB_long hn h1] at h; cases h
        · rw [cntB_ok hn h1] at h
          cases h
          simp at hl ⊢
          omega
  · rw [takeB_bad he]; exact ⟨Int.le_refl _, by show (0 : Int) ≤ 64; omega⟩

theorem i64_small {n : Nat} (h : n ≤ 64) : IntKind.i64.wrap (n : Int) = (n : Int) := IntWalk.i64_in _ (by omega)

set_option maxHeartbeats 4000000 in
theorem takep_any (X : Nat → Prop) (w : World) (p : Nat) (s : RS) (h : RdAt X w p s) (hX : ∀ k, X k → k < w.heap.size) (hlen : s.b.length ≤ 140737488355328) :
    Calls Tryd.prog 20 #[.pointer (some ⟨p, 0, none⟩)] w fun e w' => (∃ q : Po, e = .returned (poV q) ∧ q.p = (takeP s).1 ∧ Slc w' q.x q.p.b ∧ ∀ k, q.x.ownBlock = some k → w.heap.size ≤ k) ∧ RdAt X w' p (takeP s).2 ∧ Stay (fun k => k = p) w w' := by
  have hp : p < w.heap.size := by
    obtain ⟨_, x, hx, _⟩ := h
    exact lt_of_block hx
  have hs1 : Stay (fun _ => False) w (w.alloc (.cells (poC ⟨tellP [], .slice none 0 0⟩).toArray 49)) := Stay.alloc _ _
  have hq1 := PoAt.new w 49 ⟨tellP [], .slice none 0 0⟩
  obtain ⟨w1, hw1⟩ : ∃ w1, w.alloc (.cells #[.bool false, .int .i64 0, .int .i64 0, .slice none 0 0] 49) = w1 := ⟨_, rfl⟩
  rw [show w.alloc (.cells (poC ⟨tellP [], .slice none 0 0⟩).toArray 49) = w1 from hw1] at hs1 hq1
  have H1 := Lib.hid (h.stay0 hs1)
  have HX := Lib.hid hX
  have HQ1 := Lib.hid hq1
  have HS1 := Lib.hid hs1
  have W1 := Lib.hid hw1
  have hlt := take_len (zero := false) truB_len s
  obtain ⟨T, hT⟩ : ∃ T, T = takeP s := ⟨_, rfl⟩
  rw [← hT]
  have HT := Lib.hid hT
  clear hs1 hq1 hw1 h hT hX
  go_enter Tryd.func20, Tryd.ntmps20
  go_wp2_with fail
  rw [W1.out]
  refine (rbool_any X w1 p s H1.out).mono ?_
  rintro e w2 ⟨rfl, hr2, hs2⟩
  have HR2 := Lib.hid hr2
  have HQ2 := Lib.hid (HQ1.out.stay hs2 (by omega))
  have HS2 := Lib.hid ((HS1.out.mono (fun _ x => x.elim)).trans hs2)
  have hz2 := HS2.out.size
  clear hr2 hs2
  unfold takeP at HT
  generalize takeB truB false s = t at *
  obtain ⟨tb, ts⟩ := t
  unfold boolV
  cases tb
  · go_wp2_with fail
    refine (rbytes_any X w2 p ts 64 HR2.out (by omega) (by decide)).mono ?_
    rintro e w3 ⟨⟨v, rfl, how⟩, hr3, hs3⟩
    obtain ⟨va, vc, rfl⟩ := how.form
    have HO3 := Lib.hid how
    have HR3 := Lib.hid hr3
    have HQ3 := Lib.hid (HQ2.out.stay hs3 (by omega))
    have HS3 := Lib.hid (HS2.out.trans hs3)
    have hz3 := hs3.size
    clear how hr3 hs3
    generalize takeB (textB 64) [] ts = z at *
    obtain ⟨zb, zs⟩ := z
    go_wp2_with (refine HQ3.out.store pt_prog rfl (.tmp 2) (.tmp 14) rfl rfl ⟨tellP zb, .slice va zb.length vc⟩ rfl (one_po _ _ _ _ rfl) ?_; intro w4 h4 s4; have H4 := Lib.hid h4; clear h4)
    have hld := H4.out.run pt_prog
    have hnew := HQ2.out.lt
    refine bodyPost_ret (v := poV ⟨tellP zb, .slice va zb.length vc⟩) (by simp [results, Tryd.results20, asAddr, Act.put, hld]) rfl ⟨⟨_, rfl, ?_, ?_, ?_⟩, ?_, ?_⟩
    · rw [HT.out]
      rfl
    · exact HO3.out.slc.stay s4 (fun k hk _ e => by have := (HO3.out.lt k hk).1; omega)
    · intro k hk
      have := (HO3.out.lt k hk).1
      omega
    · rw [HT.out]
      exact HR3.out.stay s4 (fun k hk _ e => by have := HX.out k hk; omega)
    · exact HS3.out.andThen s4 (fun k hk e => by omega)
  · go_wp2_with fail
    refine (ruint_any X w2 p ts 64 HR2.out).mono ?_
    rintro e w3 ⟨rfl, hr3, hs3⟩
    have h64 := take_num_le ts
    have hl3 := take_len (rule := numB 64) (zero := 0) (fun b v r h => numB_len h) ts
    have HR3 := Lib.hid hr3
    have HQ3 := Lib.hid (HQ2.out.stay hs3 (by omega))
    have HS3 := Lib.hid (HS2.out.trans hs3)
    have hz3 := hs3.size
    clear hr3 hs3
    generalize takeB (numB 64) 0 ts = z at *
    obtain ⟨z1, zs⟩ := z
    have hw1 := i64_small h64
    unfold u64V
    go_wp2_with fail
    refine (ruint_any X w3 p zs 64 HR3.out).mono ?_
    rintro e w5 ⟨rfl, hr5, hs5⟩
    have h645 := take_num_le zs
    have HR5 := Lib.hid hr5
    have HQ5 := Lib.hid (HQ3.out.stay hs5 (by omega))
    have HS5 := Lib.hid (HS3.out.trans hs5)
    clear hr5 hs5
    generalize takeB (numB 64) 0 zs = y at *
    obtain ⟨y1, ys⟩ := y
    have hw2 := i64_small h645
    unfold u64V
    go_wp2_with (refine HQ5.out.store pt_prog rfl (.tmp 2) (.tmp 11) rfl rfl ⟨⟨true, z1, y1, []⟩, .slice none 0 0⟩ rfl (one_po _ _ _ _ rfl) ?_; intro w4 h4 s4; have H4 := Lib.hid h4; clear h4)
    have hld := H4.out.run pt_prog
    have hnew := HQ2.out.lt
    refine bodyPost_ret (v := poV ⟨⟨true, z1, y1, []⟩, .slice none 0 0⟩) (by simp [results, Tryd.results20, asAddr, Act.put, hld]) rfl ⟨⟨_, rfl, ?_, ?_, ?_⟩, ?_, ?_⟩
    · rw [HT.out]
      rfl
    · exact ⟨none, 0, rfl, fun h => absurd h (Nat.lt_irrefl 0), fun _ => rfl, Nat.le_refl _, by decide⟩
    · intro k hk
      cases hk
    · rw [HT.out]
      exact HR5.out.stay s4 (fun k hk _ e => by have := HX.out k hk; omega)
    · exact HS5.out.andThen s4 (fun k hk e => by omega)
end Go.Proofs.YtnlknnhibnfhcaaDoor.De
