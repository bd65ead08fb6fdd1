/-
  PackAsks, ahead of its walk: what is asked; the program's reader and the document's one, side by side.
-/
import Derived.Test.YtgfkeoicdjcfpaaDoorPkRefP
import Derived.Test.YtgfkeoicdjcfpaaDoorPkRefB
import Derived.Test.YtgfkeoicdjcfpaaDoorPkNums
import Derived.Test.YtgfkeoicdjcfpaaDoorHeld
import Derived.Test.YtgfkeoicdjcfpaaDoorPkOpen
import Derived.Deep.SlicePairs
import Derived.Stop.BytesEq
namespace Go.Proofs.YtgfkeoicdjcfpaaDoor.Pk
open Go.ChangeShapes Go.WideShapes Go.ChangeAt Go.RowKit Go.Deep
set_option maxRecDepth 100000

/-- What is asked, as it lies in memory. -/
def Asks (w : World) (lp : Option Addr) (L : List (Int × Int)) : Prop := L.length ≤ 4611686018427387903 ∧
  (0 < L.length → ∃ lb lo, lp = some ⟨lb, lo, none⟩ ∧ lb < w.heap.size ∧ ∀ i k m, L[i]? = some (k, m) → w.cell? ⟨lb, lo + i * 2, none⟩ = some (.int .i64 k) ∧ w.cell? ⟨lb, lo + i * 2 + 1, none⟩ = some (.int .i64 m) ∧ -9223372036854775808 ≤ m ∧ m ≤ 9223372036854775807)

theorem cells_ask : Tryd.prog.cellsOf 30 = 2 := by kernel_rfl
theorem cells_int : Tryd.prog.cellsOf 3 = 1 := by kernel_rfl

section
variable {H : Type} {enc : TypeId × Value → H}
theorem open_asks {w : World} {d : DataW H} {p : List MemPlace} {a0 : Option Addr} {n c : Nat} (h : DataW.Trod enc Tryd.prog w 0 (fun _ => true) true 23 (.slice a0 n c) d p) :
    ∃ L : List (Int × Int), n = L.length ∧ (n ≤ 4611686018427387903 → Asks w a0 L) ∧ (0 < n → ∃ e s : List (DataW H), d = .slice e s ∧ e.length = n) := by
  obtain ⟨fuel, hf⟩ := h
  have hf' : DataW.trod enc Tryd.prog w 0 (fun _ => true) true fuel 23 [.slice a0 n c] = some (d, p) := hf
  rcases open_slice_pairs Tryd.underlying23 Tryd.underlying30 cells_ask rfl rfl cells_int cells_int hf' with ⟨h0, _⟩ | ⟨a, len, cap, m, k, V0, V1, D0, D1, P0, P1, h0, _, hl, hm, hmm, hd, hx⟩
  · simp at h0
    obtain ⟨rfl, rfl, rfl⟩ := h0
    exact ⟨[], rfl, fun _ => ⟨by decide, fun h => by simp at h⟩, fun h => by omega⟩
  · simp at h0
    obtain ⟨rfl, rfl, rfl⟩ := h0
    simp only [if_true] at hmm
    subst hmm
    by_cases hn0 : n = 0
    · subst hn0; exact ⟨[], rfl, fun _ => ⟨by decide, fun h => by simp at h⟩, fun h => by omega⟩
    have ha : a = ⟨a.block, a.off, none⟩ ∧ a.block < w.heap.size := by
      have h0 := (hx 0 (by omega)).1
      have e0 : a.add (0 * 2) = a := rfl
      rw [e0] at h0
      refine ⟨?_, World.block_lt_of_cell? w a h0⟩
      obtain ⟨b, o, sp⟩ := a
      cases sp with
      | none => rfl
      | some q =>
        have : w.cell? ⟨b, o, some q⟩ = none := by unfold World.cell?; split <;> simp
        rw [this] at h0; cases h0
    have key : ∀ i, i < n → ∃ km : Int × Int, V0 i = .int .i64 km.1 ∧ V1 i = .int .i64 km.2 ∧ -9223372036854775808 ≤ km.2 ∧ km.2 ≤ 9223372036854775807 := by
      intro i hi
      obtain ⟨_, _, h2, h3⟩ := hx i (by omega)
      obtain ⟨x, h4, _, _⟩ := DataW.trod_int Tryd.underlying3 h2
      obtain ⟨y, h5, _, h6⟩ := DataW.trod_int Tryd.underlying3 h3
      have e1 : IntKind.i64.min = -9223372036854775808 := by decide
      have e2 : IntKind.i64.max = 9223372036854775807 := by decide
      simp only [Lit.wf, e1, e2, Bool.and_eq_true, decide_eq_true_eq] at h6
      exact ⟨(x, y), by simpa using h4, by simpa using h5, h6.1, h6.2⟩
    obtain ⟨B, hB⟩ := choose_lt (α := Int × Int) (p := fun i km => V0 i = .int .i64 km.1 ∧ V1 i = .int .i64 km.2 ∧ -9223372036854775808 ≤ km.2 ∧ km.2 ≤ 9223372036854775807) key
    have hln : ((List.range n).map B).length = n := by simp
    refine ⟨(List.range n).map B, hln.symm, fun hle => ⟨by rw [hln]; exact hle, fun _ => ⟨a.block, a.off, by rw [← ha.1], ha.2, fun i kk mm hv => ?_⟩⟩, fun _ => ?_⟩
    · have hi : i < n := by
        have := (List.getElem?_eq_some_iff.1 hv).1
        rwa [hln] at this
      obtain ⟨h1, h2, _, _⟩ := hx i (by omega)
      obtain ⟨h3, h4, h5, h6⟩ := hB i (by omega)
      rw [ha.1, add_at] at h1 h2
      rw [← Nat.add_assoc] at h2
      have e3 : (kk, mm) = B i := by
        simp [hi] at hv
        exact hv.symm
      rw [h1, h2, h3, h4, ← e3]
      rw [← e3] at h5 h6
      exact ⟨rfl, rfl, h5, h6⟩
    · cases hd
      exact ⟨_, _, rfl, by simp⟩
end

theorem slc_stayE {X : Nat → Prop} {W W' : World} {x : Value} {b : List UInt8} (h : Slc W x b) (hs : Stay X W W') (hx : 0 < b.length → ∀ k, x.ownBlock = some k → ¬ X k) : Slc W' x b := by
  obtain ⟨a0, c, rfl, hr, hn⟩ := h
  exact ⟨a0, c, rfl, hr.stay hs (fun h0 ad e => hx h0 _ (by rw [e]; rfl)), hn⟩

theorem takeB_len {α : Type} {rule : List UInt8 → Except Nat (α × List UInt8)} {zero : α} {s : RS} (hr : ∀ v r, rule s.b = .ok (v, r) → r.length ≤ s.b.length) : (takeB rule zero s).2.b.length ≤ s.b.length := by
  by_cases he : s.err = 0
  · cases hrs : rule s.b with
    | error c => rw [takeB_error he hrs]; exact Nat.le_refl _
    | ok p => obtain ⟨v, r⟩ := p; rw [takeB_ok he hrs]; exact hr v r hrs
  · rw [takeB_bad he]; exact Nat.le_refl _
theorem truB_len {b r : List UInt8} {v : Bool} (h : truB b = .ok (v, r)) : r.length ≤ b.length := by
  cases b with
  | nil => cases h
  | cons c l =>
    unfold truB at h
    simp only [] at h
    split at h
    · cases h
    · cases h; exact Nat.le_succ _
theorem sigB_len {b r : List UInt8} {v : Int} (h : sigB b = .ok (v, r)) : r.length ≤ b.length := by
  unfold sigB at h
  cases h1 : truB b with
  | error c => rw [h1] at h; cases h
  | ok p =>
    obtain ⟨bl, r1⟩ := p
    rw [h1] at h
    simp only [] at h
    cases h2 : numB M63 r1 with
    | error c => rw [h2] at h; cases h
    | ok q =>
      obtain ⟨n, r2⟩ := q
      rw [h2] at h
      cases h
      exact Nat.le_trans (numB_len h2) (truB_len h1)
theorem cntB_len {most : Int} {b r : List UInt8} {v : Int} (h : cntB most b = .ok (v, r)) : r.length ≤ b.length := by
  cases hn : numB most.toNat b with
  | error c => rw [cntB_error hn] at h; cases h
  | ok p =>
    obtain ⟨n, r1⟩ := p
    by_cases h1 : r1.length < n
    · rw [cntB_long hn h1] at h; cases h
    · rw [cntB_ok hn h1] at h; cases h; exact numB_len hn
theorem textB_len {most : Int} {b r t : List UInt8} (h : textB most b = .ok (t, r)) : r.length ≤ b.length := by
  by_cases h0 : most < 0
  · rw [textB_neg h0] at h; cases h
  cases hn : numB M64 b with
  | error c => rw [textB_err h0 hn] at h; cases h
  | ok p =>
    obtain ⟨n, r1⟩ := p
    have := numB_len hn
    by_cases h1 : most < (n : Int)
    · rw [textB_long h0 hn h1] at h; cases h
    · by_cases h2 : r1.length < n
      · rw [textB_end h0 hn h1 h2] at h; cases h
      · rw [textB_ok h0 hn h1 h2] at h; cases h; rw [List.length_drop]; omega
theorem sumB_len2 {b r t : List UInt8} (h : sumB b = .ok (t, r)) : r.length ≤ b.length := by
  unfold sumB at h
  split at h
  · cases h
  · cases h; rw [List.length_drop]; omega

theorem takeB_text_len (most : Int) (s : RS) : (takeB (textB most) [] s).1.length ≤ s.b.length := by
  by_cases he : s.err = 0
  · cases hrs : textB most s.b with
    | error c => rw [takeB_error he hrs]; exact Nat.zero_le _
    | ok p =>
      obtain ⟨t, r⟩ := p
      rw [takeB_ok he hrs]
      by_cases h0 : most < 0
      · rw [textB_neg h0] at hrs; cases hrs
      cases hn : numB M64 s.b with
      | error c => rw [textB_err h0 hn] at hrs; cases hrs
      | ok p =>
        obtain ⟨n, r1⟩ := p
        have := numB_len hn
        by_cases h1 : most < (n : Int)
        · rw [textB_long h0 hn h1] at hrs; cases hrs
        · by_cases h2 : r1.length < n
          · rw [textB_end h0 hn h1 h2] at hrs; cases hrs
          · rw [textB_ok h0 hn h1 h2] at hrs
            cases hrs
            simp only [List.length_take]
            omega
  · rw [takeB_bad he]; exact Nat.zero_le _
theorem takeB_sum_len (s : RS) : (takeB sumB z32 s).1.length = 32 := by
  by_cases he : s.err = 0
  · cases hr : sumB s.b with
    | error c => rw [takeB_error he hr]; exact len_z32
    | ok q => obtain ⟨n, r⟩ := q; rw [takeB_ok he hr]; exact sumB_len hr
  · rw [takeB_bad he]; exact len_z32

theorem rrprint_any (b : List UInt8) (err : Nat) (w : World) (x : Value) (hx : Slc w x b) : Calls Tryd.prog 18 #[rdV x err] w fun e w' => RdRet prtV w' x (takeB sumB z32 ⟨b, err⟩) e ∧ Stay (fun _ => False) w w' := by
  by_cases he : err = 0
  · subst he
    by_cases hl : b.length < 32
    · exact rrprint_short b w x hx hl
    · exact rrprint_ok b w x hx (Nat.le_of_not_lt hl)
  · exact rrprint_bad b err w x hx he

theorem exec_load {P : Program} {o : Oper} {a : Act} {W : World} {ty : TypeId} {x : Operand} {ad : Addr} {v : Value} (ho : o.op = .load ty x) (hx : a.eval x = .pointer (some ad)) (hl : (loadVar ty ad).run P W = .ok v W) :
    (execOp a.eval o).run P W = .ok (.value v) W := by
  unfold execOp
  simp only [ho, hx, Instr.loadAt, Instr.sureAddr, Sem.run_bind, Sem.run_pure, Result.andThen_ok, hl]

/-- The program's reader and the document's one, that are at the same. -/
structure AskInv (w W : World) (p q : Nat) (s : RS) (x : Value) : Prop where
  st : Stay (fun _ => False) w W
  r : RdAt (fun k => w.heap.size ≤ k ∧ k ≠ q) W p s
  b : W.heap[q]? = some (.cells #[x, .int .i64 (s.err : Int)] 27 (0, 0))
  l : Slc W x s.b
  xb : 0 < s.b.length → ∀ k, x.ownBlock = some k → k < w.heap.size
  len : s.b.length ≤ 140737488355328
  qge : w.heap.size ≤ q

theorem AskInv.stay0 {w W W' : World} {p q : Nat} {s : RS} {x : Value} (h : AskInv w W p q s x) (hs : Stay (fun _ => False) W W') : AskInv w W' p q s x :=
  ⟨h.st.trans hs, h.r.stay0 hs, (hs.block _ (lt_of_block h.b) (fun y => y)).trans h.b, h.l.stay0 hs, h.xb, h.len, h.qge⟩
theorem AskInv.next {w W W1 W2 W3 : World} {p q : Nat} {s s' : RS} {x x' : Value} (h : AskInv w W p q s x) (h1 : Stay (fun _ => False) W W1) (hsub : Sub W1 x x' s'.b) (hlen : s'.b.length ≤ s.b.length)
    (hr : RdAt (fun k => w.heap.size ≤ k ∧ k ≠ q) W2 p s') (h2 : Stay (fun k => k = p) W1 W2) (hb : W3.heap[q]? = some (.cells #[x', .int .i64 (s'.err : Int)] 27 (0, 0))) (h3 : Stay (fun k => k = q) W2 W3) : AskInv w W3 p q s' x' := by
  have hp := h.r.own.1
  have hq := h.qge
  have hxb : 0 < s'.b.length → ∀ k, x'.ownBlock = some k → k < w.heap.size := fun h0 k e => h.xb (by omega) k (hsub.2 k e)
  exact ⟨stay_seal (X := fun k => w.heap.size ≤ k) ((((h.st.trans h1).mono (fun _ y => y.elim)).trans (h2.mono (fun k (e : k = p) => by omega))).trans (h3.mono (fun k (e : k = q) => by omega))) (fun _ hk => hk), hr.stay h3 (fun k hk _ e => hk.2 e), hb,
    slc_stayE (slc_stayE hsub.1 h2 (fun h0 k e (e2 : k = p) => by have := hxb h0 k e; omega)) h3 (fun h0 k e (e2 : k = q) => by have := hxb h0 k e; omega), hxb, Nat.le_trans hlen h.len, hq⟩

theorem size_u8 (w : World) : (sizeOf 5).run Tryd.prog w = .ok 1 w := by
  obtain ⟨i0, hi, hz0, hz1, hz2⟩ := info_parts info5
  simp [sizeOf, typeInfo, hi, hz1]
theorem eq_prt (w : World) (pr : List UInt8) (h : pr.length = 32) : (Op.equalIn 10000 48 (.agg (cellsB pr).toArray) (.agg (cellsB pr).toArray)).run Tryd.prog w = .ok true w := by
  have := run_equalIn_bytes (P := Tryd.prog) w 9998 48 5 32 Tryd.underlying48 Tryd.underlying5 size_u8 pr pr h h
  have h2 : (pr == pr) = true := by simp
  rw [h2] at this
  exact this

theorem wrap_u64_le (n : Int) : IntKind.u64.wrap n ≤ 18446744073709551615 := by simp [IntKind.wrap, IntKind.bits, IntKind.signed]; omega

theorem mod7 (x : Int) : ∃ k : Nat, k < 7 ∧ wrap64 ((IntKind.u64.wrap x).tmod 7) = (k : Int) := by
  have h0 : 0 ≤ IntKind.u64.wrap x := wrap_u64_nonneg x
  rw [Int.tmod_eq_emod_of_nonneg h0]
  have h1 : 0 ≤ IntKind.u64.wrap x % 7 := Int.emod_nonneg _ (by decide)
  have h2 : IntKind.u64.wrap x % 7 < 7 := Int.emod_lt_of_pos _ (by decide)
  refine ⟨(IntKind.u64.wrap x % 7).toNat, by omega, ?_⟩
  generalize IntKind.u64.wrap x % 7 = y at *
  unfold wrap64
  omega

section
variable {P : Program} {ops : Array Oper} {Q : Exit → Act → World → Prop} {md : Region.Mode} {S : World → Prop}
/-- One of two operations comes up. -/
theorem wpAnyH_two {i j : Nat} {o o' : Oper} {fuel : Nat} {listed : Array Bool} {a : Act} {w : World} (li lj : Array Bool) (ho : ops[i]? = some o) (ho' : ops[j]? = some o') (hr : Region.ready md ops listed = [i, j]) (hl : listed.setIfInBounds i true = li) (hl' : listed.setIfInBounds j true = lj)
    (h : ∀ K : Act → World → Prop, (∀ a' w', S w' → wpAnyH P md ops Q S fuel li a' w' → K a' w') → if Region.wanted o (yielded ops a.tmps) = true then Oper.wp P o a w K Q else K (a.put o.dst undef) w)
    (h' : ∀ K : Act → World → Prop, (∀ a' w', S w' → wpAnyH P md ops Q S fuel lj a' w' → K a' w') → if Region.wanted o' (yielded ops a.tmps) = true then Oper.wp P o' a w K Q else K (a.put o'.dst undef) w) :
    wpAnyH P md ops Q S (fuel + 1) listed a w := by
  subst hl
  subst hl'
  refine wpAnyH_all hr (by simp) fun k hk => ?_
  have hk' : k = i ∨ k = j := by simpa using hk
  have g := h _ (fun a' w' h1 h2 => And.intro h1 h2)
  have g' := h' _ (fun a' w' h1 h2 => And.intro h1 h2)
  unfold wpOp
  rcases hk' with rfl | rfl
  · simp only [ho]
    split
    · rename_i hw
      rw [if_pos hw] at g
      exact .inl g
    · rename_i hw
      rw [if_neg hw] at g
      exact g
  · simp only [ho']
    split
    · rename_i hw
      rw [if_pos hw] at g'
      exact .inl g'
    · rename_i hw
      rw [if_neg hw] at g'
      exact g'
end

end Go.Proofs.YtgfkeoicdjcfpaaDoor.Pk
