/-
  sketch's laws: sketches and blocks held against each other; the least sum is that of some window.
-/
import Derived.Test.YtddgkckgbmgghaaSkF
import Derived.Test.YtddgkckgbmgghaaHeldS
import Derived.Stop.BytesEq
namespace Go.Proofs.Ytddgkckgbmgghaa.Sk
open Go.RowKit Hn
set_option maxRecDepth 100000

theorem step_store_q {ty : TypeId} (A : IsQ ty) {ops : Array Oper} {Q : Exit → Act → World → Prop} {o : Oper} {a : Act} {w : World} {K : Act → World → Prop} {E : Prop} (hw : Region.wanted o (yielded ops a.tmps) = true) (x y : Operand) (ho : o.op = .store ty x y)
    (g : Nat) (hx : a.eval x = .pointer (some ⟨g, 0, none⟩)) (f0 f : Nat → Nat) (hy : a.eval y = skV f) (hg : QAt w g ty f0)
    (hn : ∀ w', QAt w' g ty f → Stay (· = g) w w' → K (a.put o.dst undef) w') : if Region.wanted o (yielded ops a.tmps) = true then Oper.wp Try.prog o a w K Q else E :=
  step_store_run hw ty x y ho _ hx _ hy _ (run_storeVar_mid (P := Try.prog) w g 0 ty ty (qC f0) (qC f) hg A.info (Nat.le_refl _) (oneCell_qC _)) (hn _ (setRow_heap w g _ _ ty _ hg) (Stay.setRow w g _ rfl))

theorem size_u8' (w : World) : (sizeOf 5).run Try.prog w = .ok 1 w := by kernel_rfl
theorem size_u32 (w : World) : (sizeOf 24).run Try.prog w = .ok 1 w := by kernel_rfl
theorem eq_blk (w : World) (p q : List UInt8) (hp : p.length = 64) (hq : q.length = 64) : (Op.equalIn 10000 23 (arrV p) (arrV q)).run Try.prog w = .ok (p == q) w :=
  run_equalIn_bytes (P := Try.prog) w 9998 23 5 64 Try.underlying23 Try.underlying5 size_u8' p q hp hq

/-- Whether four numbers are the same. -/
def eqQ (f g : Nat → Nat) : Bool := (List.range' 0 4 1).all fun i => f i == g i
theorem eqQ_self (f : Nat → Nat) : eqQ f f = true := by simp [eqQ]
theorem run_equal_q (w : World) (d : Nat) (t : TypeId) (ht : Try.prog.underlying t = some (.array 4 24)) (f g : Nat → Nat) : (Op.equalIn (d + 2) t (skV f) (skV g)).run Try.prog w = .ok (eqQ f g) w := by
  unfold eqQ skV
  rw [Op.equalIn]
  simp only [Sem.run_bind, run_underlying ht, Result.andThen_ok, size_u32, Std.Legacy.Range.forIn_eq_forIn_range', Std.Legacy.Range.size, Nat.sub_zero, Nat.add_sub_cancel, Nat.div_one]
  have hl : ∀ i ∈ List.range' 0 4 1, i < 4 := fun i hi => by simpa using (List.mem_range'_1.1 hi).2
  generalize List.range' 0 4 1 = l at hl ⊢
  induction l with
  | nil => simp
  | cons i l ih =>
    have hi : i < 4 := hl i (by simp)
    have px : ∀ f : Nat → Nat, (part 24 (qC f).toArray (i * 1)).run Try.prog w = .ok (.int .u32 (f i : Int)) w := by
      intro f
      have := qC_get f hi
      simp [part, isAgg, run_underlying Try.underlying24, this]
    have pe : (Op.equalIn (d + 1) 24 (.int .u32 (f i : Int)) (.int .u32 (g i : Int))).run Try.prog w = .ok (f i == g i) w := by
      rw [run_equalIn_int w d 24 .u32 .u32 _ _ Try.underlying24]
      congr 1
      rw [Bool.eq_iff_iff]
      simp
      omega
    simp only [List.forIn_cons, Sem.run_bind, px, pe, Result.andThen_ok, List.all_cons]
    cases hb : (f i == g i)
    · simp
    · simp only [Bool.not_true, Bool.false_eq_true, if_false, Sem.run_pure, Result.andThen_ok, Bool.true_and]
      exact ih fun j hj => hl j (by simp [hj])
theorem eq_sk (w : World) (f g : Nat → Nat) : (Op.equalIn 10000 27 (skV f) (skV g)).run Try.prog w = .ok (eqQ f g) w := run_equal_q w 9998 _ Try.underlying27 f g

theorem leastN_le (c : UInt8) (b : List UInt8) : ∀ k i, i < k → leastN c b k ≤ winN c ((b.drop i).take 8)
  | 0, i, h => by omega
  | k + 1, i, h => by
    unfold leastN
    by_cases e : i = k
    · subst e; exact Nat.min_le_right _ _
    · exact Nat.le_trans (Nat.min_le_left _ _) (leastN_le c b k i (by omega))
theorem leastN_is (c : UInt8) (b : List UInt8) : ∀ k, 0 < k → ∃ i, i < k ∧ winN c ((b.drop i).take 8) = leastN c b k
  | 0, h => by omega
  | k + 1, _ => by
    have hw := winN_lt c ((b.drop k).take 8)
    unfold leastN
    by_cases h : winN c ((b.drop k).take 8) ≤ leastN c b k
    · exact ⟨k, by omega, by omega⟩
    · by_cases h0 : 0 < k
      · obtain ⟨i, hi, e⟩ := leastN_is c b k h0
        exact ⟨i, by omega, by omega⟩
      · obtain rfl : k = 0 := by omega
        exact absurd (show winN c ((b.drop 0).take 8) ≤ leastN c b 0 by unfold leastN; omega) h
/-- Whether one of the first k windows has a sum. -/
def hitN (c : UInt8) (b : List UInt8) (v : Nat) : Nat → Bool
  | 0 => false
  | k + 1 => hitN c b v k || decide (winN c ((b.drop k).take 8) = v)
theorem hitN_of (c : UInt8) (b : List UInt8) (v : Nat) : ∀ k i, i < k → winN c ((b.drop i).take 8) = v → hitN c b v k = true
  | 0, i, h, _ => by omega
  | k + 1, i, h, e => by
    unfold hitN
    by_cases h1 : i = k
    · subst h1; simp [e]
    · rw [hitN_of c b v k i (by omega) e]; rfl
theorem hitN_least (b : List UInt8) (i : Nat) : hitN (lowB (i : Int)) b (skN b i) 57 = true := by
  obtain ⟨k, hk, e⟩ := leastN_is (lowB (i : Int)) b 57 (by decide)
  exact hitN_of _ _ _ 57 k hk e
end Go.Proofs.Ytddgkckgbmgghaa.Sk
