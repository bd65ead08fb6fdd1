/-
  finger: Key, Text, Less, spell; the document's Less; what order bytes have.
-/
import Derived.Test.YtljhfccaoncjeaaDoorKeY
import Derived.Test.YtljhfccaoncjeaaDoorKeEq
import Derived.Test.YtljhfccaoncjeaaDoorHnM
import Derived.Test.YtljhfccaoncjeaaDoorNum
import Derived.Lib.BytesEntry
import Derived.Lib.Bytealg
namespace Go.Proofs.YtljhfccaoncjeaaDoor.Fg
open Go.RowKit Ke
set_option maxRecDepth 100000

/-- Whether bytes are ahead of others. -/
def ltB (p q : List UInt8) : Bool := decide (p < q)
theorem less_eq : ∀ (x y : List UInt8), Op.bytesLess x y = ltB x y
  | [], [] => by simp [Op.bytesLess, ltB]
  | _ :: _, [] => by simp [Op.bytesLess, ltB]
  | [], _ :: _ => by simp [Op.bytesLess, ltB]
  | a :: x, b :: y => by
    rw [Op.bytesLess, less_eq x y]
    unfold ltB
    simp only [List.cons_lt_cons_iff]
    by_cases h1 : a < b <;> by_cases h2 : a = b <;> by_cases h3 : x < y <;> simp [h1, h2, h3]
theorem cmp_lt : ∀ (x y : List UInt8), decide (Lib.compareBytes x y < 0) = ltB x y
  | [], [] => by simp [Lib.compareBytes, ltB]
  | _ :: _, [] => by simp [Lib.compareBytes, ltB]
  | [], _ :: _ => by simp [Lib.compareBytes, ltB]
  | a :: x, b :: y => by
    have ih := cmp_lt x y
    unfold ltB at ih ⊢
    unfold Lib.compareBytes
    by_cases h1 : a < b
    · simp [h1, List.cons_lt_cons_iff]
    · by_cases h2 : b < a
      · have h3 : a ≠ b := by rintro rfl; exact h1 h2
        simp [h1, h2, h3, List.cons_lt_cons_iff]
      · have h3 : a = b := UInt8.le_antisymm (UInt8.not_lt.1 h2) (UInt8.not_lt.1 h1)
        subst h3
        simp only [h1, if_false, List.cons_lt_cons_iff, false_or, true_and]
        exact ih
theorem lt_self (p : List UInt8) : ltB p p = false := by simp [ltB]
theorem lt_both (p q : List UInt8) : (ltB p q && ltB q p) = false := by
  unfold ltB
  by_cases h : p < q
  · have : ¬ q < p := List.lt_asymm h
    simp [h, this]
  · simp [h]
theorem lt_one {p q : List UInt8} (h1 : ltB p q = false) (h2 : ltB q p = false) : p = q := by
  unfold ltB at h1 h2
  exact List.le_antisymm (List.not_lt.1 (of_decide_eq_false h2)) (List.not_lt.1 (of_decide_eq_false h1))
theorem lt_at (c r s : List UInt8) (a b : UInt8) (h : a ≠ b) : ltB (c ++ a :: r) (c ++ b :: s) = decide (a < b) := by
  unfold ltB
  induction c with
  | nil => simp [List.cons_lt_cons_iff, h]
  | cons x c ih => simpa [List.cons_lt_cons_iff] using ih

theorem zero_64 (w : World) : (zeroValue 23).run Tryd.prog w = .ok (arrV (List.replicate 64 0)) w := by kernel_rfl
theorem info_64 : (Tryd.prog.info? 23).map (·.size) = some 64 := by kernel_rfl
theorem arr_64 : IsArr 23 64 := ⟨zero_64, info_64, _, Tryd.underlying23, rfl⟩

/-- A whole block as a slice. -/
theorem slc_of {w : World} {g n : Nat} {ty : TypeId} {l : List UInt8} (h : BAt w g ty l) (hl : l.length = n) (hn : n ≤ 9223372036854775807) : Slc w (.slice (some ⟨g, 0, none⟩) n n) l := by
  subst hl
  refine ⟨_, _, rfl, fun _ => ⟨_, rfl, fun j v hv => ?_⟩, (fun h => by cases h), Nat.le_refl _, hn⟩
  rw [add_at, Nat.zero_add, h.c]
  exact hv
theorem run_bytesOf {w : World} {x : Value} {b : List UInt8} (h : Slc w x b) : (Extern.Bytes.bytesOf x).run Tryd.prog w = .ok ⟨b.toArray⟩ w := by
  obtain ⟨a0, c, rfl, hr, hn, _⟩ := h
  cases a0 with
  | none =>
    have hb : b = [] := by
      rcases Nat.eq_zero_or_pos b.length with h0 | h0
      · exact List.eq_nil_of_length_eq_zero h0
      · obtain ⟨ad, e, _⟩ := hr h0
        cases e
    subst hb
    rfl
  | some ad =>
    have hl := Lib.run_loadBytesX (P := Tryd.prog) w (b.map fun c => (c.toNat : Int)) ad .empty (fun j x hj => by
      obtain ⟨c, hc, rfl⟩ : ∃ c, b[j]? = some c ∧ (c.toNat : Int) = x := by simpa using hj
      obtain ⟨ad', e, hcell⟩ := hr (by have := (List.getElem?_eq_some_iff.1 hc).1; omega)
      cases e
      exact hcell j _ (by simp [cellsB, hc, byteV]))
    rw [List.length_map] at hl
    change (Extern.Bytes.loadBytes ad b.length .empty).run Tryd.prog w = _
    rw [hl]
    congr 2
    simp [Lib.bytesOf, List.map_map, Function.comp_def]
theorem run_cmp {w : World} {x y : Value} {a b : List UInt8} (hx : Slc w x a) (hy : Slc w y b) : (Extern.BytealgCompare.compare #[x, y]).run Tryd.prog w = .ok (.int .i64 (Lib.compareBytes a b)) w := by
  change Sem.run Tryd.prog (do pure (goInt (Extern.BytealgCompare.cmp (← Extern.Bytes.bytesOf x) (← Extern.Bytes.bytesOf y)))) w = _
  simp only [Sem.run_bind, run_bytesOf hx, run_bytesOf hy, Sem.run_pure, Result.andThen]
  rw [Lib.cmp_eq]
  rfl

theorem cmp_any (w : World) (x y : Value) (a b : List UInt8) (hx : Slc w x a) (hy : Slc w y b) :
    Calls Tryd.prog 23 #[x, y] w fun e w' => e = .returned (.int .i64 (Lib.compareBytes a b)) ∧ w' = w := by
  have x1 := @run_callFunc_extern Tryd.prog 34 _ Extern.BytealgCompare.compare Tryd.func34 (by kernel_rfl) (by kernel_rfl) (by kernel_rfl) (by kernel_rfl)
  have k1 := run_cmp hx hy
  clear hx hy
  go_enter Tryd.func23, Tryd.ntmps23
  go_wp2
  go_ret
  exact ⟨rfl, rfl⟩

theorem key_any (w : World) (l : List UInt8) (hl : l.length = 32) :
    Calls Tryd.prog 12 #[arrV l] w fun e w' => e = .returned (strV l) ∧ Stay (fun _ => False) w w' := by
  have hb := BAt.new w 25 l
  have k1 := conv_slc (slc_of hb hl (by decide))
  unfold strV at k1 ⊢
  unfold arrV
  clear hb
  go_enter Tryd.func12, Tryd.ntmps12
  go_wp2
  go_ret
  exact ⟨rfl, Stay.alloc _ _⟩

theorem ftext_any (w : World) (l : List UInt8) (hl : l.length = 32) :
    Calls Tryd.prog 10 #[arrV l] w fun e w' => e = .returned (strV (textK l)) ∧ Stay (fun _ => False) w w' := by
  have HB := Lib.hid (BAt.new w 25 l)
  have HST := Lib.hid (Stay.alloc (X := fun _ => False) w (.cells (cellsB l).toArray 25))
  have HL := Lib.hid hl
  unfold arrV
  clear hl
  go_enter Tryd.func10, Tryd.ntmps10
  go_wp2_with (refine arr_32.load rfl (.tmp 1) rfl w.heap.size rfl l HL.out HB.out ?_)
  refine (text_any _ l HL.out).mono ?_
  rintro e w' ⟨rfl, s1⟩
  have hst := HST.out.trans s1
  clear s1
  go_wp2
  go_ret
  exact ⟨rfl, hst⟩
end Go.Proofs.YtljhfccaoncjeaaDoor.Fg
