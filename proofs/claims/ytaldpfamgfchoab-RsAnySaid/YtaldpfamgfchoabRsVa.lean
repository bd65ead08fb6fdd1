/-
  RsAny, ahead of its walk (a seat without the document's functions): sizes, truths of one's own, numbers taken by a bound.
-/
import Derived.Test.YtaldpfamgfchoabRsAb
namespace Go.Proofs.Ytaldpfamgfchoab.Rs
open Go.RowKit Gf
set_option maxRecDepth 100000

/-- How many parts of data and of parity, by value; laid out. -/
def sizeV (K M : Int) : Value := .agg #[.int .i64 K, .int .i64 M]
def Sz (w : World) (a : Nat) (K M : Int) : Prop := w.cell? ⟨a, 0, none⟩ = some (.int .i64 K) ∧ w.cell? ⟨a, 1, none⟩ = some (.int .i64 M)
theorem Sz.stay0 {w w' : World} {a : Nat} {K M : Int} (h : Sz w a K M) (hs : Stay (fun _ => False) w w') : Sz w' a K M := ⟨hs.cell h.1 (fun x => x), hs.cell h.2 (fun x => x)⟩
theorem Sz.new (w : World) (K M : Int) : Sz (w.alloc (.cells #[.int .i64 K, .int .i64 M] 23)) w.heap.size K M := by
  constructor <;> rw [cell_of_row _ _ _ _ _ _ (heap_alloc_new w _)] <;> rfl
theorem size_any {K M : Int} (h : ¬ (K < 1 ∨ M < 0 ∨ 32 - M < K)) : ∃ k m : Nat, K = k ∧ M = m ∧ 1 ≤ k ∧ k + m ≤ 32 := ⟨K.toNat, M.toNat, by omega, by omega, by omega, by omega⟩
theorem Sz.stay {X : Nat → Prop} {w w' : World} {a : Nat} {K M : Int} (h : Sz w a K M) (hs : Stay X w w') (hx : ¬ X a) : Sz w' a K M := ⟨hs.cell h.1 hx, hs.cell h.2 hx⟩
theorem lf_self (l : List UInt8) : lf l.length (fun b => l.getD b 0) = l := by
  unfold lf
  apply List.ext_getElem?
  intro j
  by_cases hj : j < l.length
  · simp [hj]
  · rw [List.getElem?_eq_none (by simp; omega), List.getElem?_eq_none (by omega)]
theorem Slc.own {w : World} {v : Value} {l : List UInt8} (h : Slc w v l) : SSlc (fun _ => False) w v (lf l.length (fun b => l.getD b 0)) := by rw [lf_self]; exact Slc.ss0 h
theorem infoB : (Try.prog.info? 4).map (fun i => (i.zero, i.size, i.bytes)) = some (some (.bool false), 1, 1) := by kernel_rfl
def cellsF (n : Nat) (fl : Nat → Bool) : List Value := (List.range n).map (fun i => .bool (fl i))
theorem cellsF_get {n i : Nat} (fl : Nat → Bool) (hi : i < n) : (cellsF n fl)[i]? = some (.bool (fl i)) := by simp [cellsF, hi]
theorem length_cellsF (n : Nat) (fl : Nat → Bool) : (cellsF n fl).length = n := by simp [cellsF]
/-- Truths of one's own. -/
def OB (base : Nat) (w : World) (v : Value) (n : Nat) (fl : Nat → Bool) : Prop := w.ownsRow base 4 1 v n (cellsF n fl)
theorem OB.nil (base : Nat) (w : World) (fl : Nat → Bool) : OB base w (.slice none 0 0) 0 fl := World.ownsRow_nil w base _ _
theorem OB.lt {base n : Nat} {w : World} {v : Value} {fl : Nat → Bool} (h : OB base w v n fl) : ∀ k, v.ownBlock = some k → base ≤ k ∧ k < w.heap.size := World.ownsRow.lt h
theorem OB.stay0 {base n : Nat} {w w' : World} {v : Value} {fl : Nat → Bool} (h : OB base w v n fl) (hs : Stay (fun _ => False) w w') : OB base w' v n fl := by
  refine ⟨h.1, ?_⟩
  rcases h.2 with h' | ⟨g, cap, cur, rfl, h4, hg, r⟩
  · exact .inl h'
  · exact .inr ⟨g, cap, cur, rfl, h4, (hs.block g (Array.getElem?_eq_some_iff.1 hg).1 (fun x => x)).trans hg, r⟩
theorem OB.sb {base n : Nat} {w : World} {v : Value} {fl : Nat → Bool} {X : Nat → Prop} (h : OB base w v n fl) (hX : ∀ i, X i → i < base) : SB X w v n fl := by
  have hcell := fun g hg => World.ownsRow.cells (g := g) h hg
  rcases h.2 with ⟨e, h0⟩ | ⟨g, cap, cur, e, hb, hg, h8, h9, _⟩
  · subst h0
    exact ⟨_, _, e, Nat.le_refl _, by decide, fun h => by omega⟩
  · refine ⟨_, _, e, h8, by unfold maxLen at h9; omega, fun h0 => ⟨g, 0, rfl, fun k hk => SCell.of ?_ (fun hx => ?_)⟩⟩
    · have := hcell g (by rw [e]; rfl) k _ (cellsF_get fl hk)
      rwa [add_at] at this
    · have := hX g hx
      omega
theorem cellsF_succ (n : Nat) (fl : Nat → Bool) : cellsF (n + 1) fl = cellsF n fl ++ [.bool (fl n)] := by unfold cellsF; rw [List.range_succ, List.map_append]; rfl
theorem run_append_f1 {w : World} {base n : Nat} {v : Value} {fl : Nat → Bool} (ty : TypeId) (hown : OB base w v n fl) (hb : base ≤ w.heap.size) (hn : n ≤ 65535) :
    ∃ v' w', (Builtin.append_ #[25, 25] ty #[v, .slice (some ⟨w.heap.size, 0, none⟩) 1 1]).run Try.prog (w.alloc (.cells #[.bool (fl n)] 4)) = .ok v' w' ∧ OB base w' v' (n + 1) fl ∧ Stay (fun i => v.ownBlock = some i) w w' := by
  obtain ⟨i0, hi, hz0, hz1, hz2⟩ := info_parts infoB
  obtain ⟨v', w', hrun, h4, h5, _, _⟩ := run_append_own_at (P := Try.prog) (w.alloc (.cells #[.bool (fl n)] 4)) base 25 ty 4 i0 (.bool false) 1 1 Try.underlying25 hi hz0 hz1 hz2 rfl (by decide) v n (cellsF n fl) (World.ownsRow.alloc hown _) ⟨w.heap.size, 0, none⟩ 1 1 [.bool (fl n)] rfl
    (fun j u hu => by
      have hj : j = 0 := by
        have := (List.getElem?_eq_some_iff.1 hu).1
        simp at this
        exact this
      subst hj
      cases hu
      rw [add_at, cell_of_row _ _ _ _ _ _ (heap_alloc_new w _)]
      rfl)
    (fun u hu => by rw [List.mem_singleton.1 hu]; rfl)
    (by unfold maxLen; omega) (by omega) (by simp; omega)
  refine ⟨v', w', hrun, ?_, (Stay.alloc w _).trans (Stay.grown h5 (fun k e => e))⟩
  unfold OB
  rw [cellsF_succ]
  exact h4
section
variable {ops : Array Oper} {rest : List Oper} {o : Oper} {a : Act} {w : World} {Q : Exit → Act → World → Prop}
theorem append_f1 (hgd : o.guard = none) (s x : Operand) (ho : o.op = .call { callee := .builtin .append, args := #[s, x], argTypes := #[25, 25] })
    {base n : Nat} {v : Value} {fl : Nat → Bool} {b : Bool} (hs : a.eval s = v) (hx : a.eval x = .slice (some ⟨w.heap.size, 0, none⟩) 1 1) (hown : OB base w v n fl) (hb1 : b = fl n) (hb : base ≤ w.heap.size) (hn : n ≤ 65535)
    (h : ∀ v' w', OB base w' v' (n + 1) fl → Stay (fun i => v.ownBlock = some i) w w' → wpList Try.prog ops Q rest (a.put o.dst v') w') : wpList Try.prog ops Q (o :: rest) a (w.alloc (.cells #[.bool b] 4)) := by
  subst hb1
  exact wpList_plain hgd fun _ hK => by
    obtain ⟨v', w', hrun, h2, h3⟩ := run_append_f1 (w := w) o.type hown hb hn
    unfold Oper.wp execOp
    simp only [ho, resolve, invoke, builtin, Sem.run_bind, Sem.run_pure, Result.andThen_ok, List.map_toArray, List.map_cons, List.map_nil, hs, hx, hrun]
    exact hK _ _ (h v' w' h2 h3)
end
theorem wrap_small (x : Int) (h0 : 0 ≤ x) (h1 : x ≤ 4611686018427387904) : IntKind.i64.wrap x = x := by
  simp [IntKind.wrap, IntKind.bits, IntKind.signed]; omega

/-- A number of any size, taken by a bound. -/
theorem mod_nat (x : Int) (n : Nat) (h0 : 0 < n) : ∃ k : Nat, k < n ∧ (IntKind.u64.wrap x).tmod (n : Int) = (k : Int) := by
  have h1 : 0 ≤ IntKind.u64.wrap x := wrap_u64_nonneg x
  rw [Int.tmod_eq_emod_of_nonneg h1]
  have h2 : 0 ≤ IntKind.u64.wrap x % (n : Int) := Int.emod_nonneg _ (by omega)
  have h3 : IntKind.u64.wrap x % (n : Int) < (n : Int) := Int.emod_lt_of_pos _ (by omega)
  exact ⟨(IntKind.u64.wrap x % (n : Int)).toNat, by omega, by omega⟩
end Go.Proofs.Ytaldpfamgfchoab.Rs
