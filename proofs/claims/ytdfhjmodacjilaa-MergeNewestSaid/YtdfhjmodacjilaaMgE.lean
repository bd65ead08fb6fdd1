/-
  merge: the last pointer taken off (slices.Delete, Pop); the heap's Push and Pop.
-/
import Derived.Test.YtdfhjmodacjilaaMgD
namespace Go.Proofs.Ytdfhjmodacjilaa.Mg
open Go.RowKit Go.Maps Me
set_option maxRecDepth 100000
set_option linter.unusedVariables false

theorem zero_ptr (w : World) : (zeroValue 48).run Try.prog w = .ok (.pointer none) w := by kernel_rfl
theorem run_clear_one {P : Program} (w w' : World) (t ty e : TypeId) (g off cap : Nat) (z : Value) (ht : P.underlying t = some (.slice e)) (hz : (zeroValue e).run P w = .ok z w)
    (hst : (storeCells ⟨g, off, none⟩ (Builtin.zeroCells z.cells 1).toList).run P w = .ok () w') : (Builtin.clear_ #[t] ty #[.slice (some ⟨g, off, none⟩) 1 cap]).run P w = .ok (.tuple #[]) w' := by
  simp [Builtin.clear_, run_underlying ht, hz, hst, Result.andThen]
theorem PO.take {base : Nat} {w : World} {g n c : Nat} {H : List Od} (h : PO base w (.slice (some ⟨g, 0, none⟩) n c) H) {k : Nat} (hk : k ≤ H.length) : PO base w (.slice (some ⟨g, 0, none⟩) k c) (H.take k) := by
  have hl : (H.take k).length = k := by rw [List.length_take]; omega
  unfold PO
  rw [hl]
  refine ⟨by rw [len_P, hl, Nat.mul_one], ?_⟩
  rcases h.2 with ⟨e, _⟩ | ⟨g', cap, cur, e, h4, hg, h5, h6, h7, h8⟩
  · cases e
  · cases e
    refine .inr ⟨g, c, cur, rfl, h4, hg, by omega, h6, h7, ?_⟩
    have : cellsP (H.take k) = (cellsP H).take k := by simp [cellsP, List.map_take]
    rw [this, ← h8, List.take_take]
    congr 1
    omega
/-- The one behind the last is let go. -/
theorem run_clear_po {base : Nat} {w : World} {g n c : Nat} {H : List Od} (t ty : TypeId) (ht : Try.prog.underlying t = some (.slice 48)) (h : PO base w (.slice (some ⟨g, 0, none⟩) n c) H) (hn : n = H.length) (hc : n + 1 ≤ c) (cap : Nat) :
    ∃ w', (Builtin.clear_ #[t] ty #[.slice (some ⟨g, n, none⟩) 1 cap]).run Try.prog w = .ok (.tuple #[]) w' ∧ PO base w' (.slice (some ⟨g, 0, none⟩) n c) H ∧ Stay (· = g) w w' := by
  subst hn
  rcases h.2 with ⟨e, _⟩ | ⟨g', cap', cur, e, h4, hg, h5, h6, h7, h8⟩
  · cases e
  · cases e
    have hst := run_storeCells_at Try.prog g H.length 48 [.pointer none] 0 cur w hg (by simp; omega) (fun u hu => by simp at hu; subst hu; rfl)
    simp only [Nat.add_zero] at hst
    rw [← show (Builtin.zeroCells (Value.pointer none).cells 1).toList = [Value.pointer none] by kernel_rfl] at hst
    have hrun := run_clear_one w _ t ty _ g H.length cap (.pointer none) ht (zero_ptr w) hst
    rw [show (Builtin.zeroCells (Value.pointer none).cells 1).toList = [Value.pointer none] by kernel_rfl] at hrun
    refine ⟨_, hrun, ?_, Stay.setRow w g _ rfl⟩
    refine ⟨h.1, .inr ⟨g, c, _, rfl, h4, setRow_heap w g cur _ _ _ hg, h5, h6, ?_, ?_⟩⟩
    · simp only [List.size_toArray, List.length_append, List.length_take, List.length_drop, Array.length_toList, List.length_singleton]
      omega
    · rw [← h8]
      simp only [Nat.mul_one]
      rw [List.append_assoc, List.take_left']
      have hal := Array.length_toList (xs := cur)
      rw [List.length_take]
      omega
theorem wpList_clear_po {ops : Array Oper} {rest : List Oper} {o : Oper} {a : Act} {w : World} {Q : Exit → Act → World → Prop} (hgd : o.guard = none) (m : Operand) (t : TypeId) (ho : o.op = Op.call { callee := Callee.builtin Builtin.clear, args := #[m], argTypes := #[t] }) (ht : Try.prog.underlying t = some (.slice 48))
    (g n c cap : Nat) (H : List Od) (hm : a.eval m = .slice (some ⟨g, n, none⟩) 1 cap) (h : PO 0 w (.slice (some ⟨g, 0, none⟩) n c) H) (hn : n = H.length) (hc : n + 1 ≤ c)
    (hK : ∀ w', PO 0 w' (.slice (some ⟨g, 0, none⟩) n c) H → Stay (· = g) w w' → wpList Try.prog ops Q rest (a.put o.dst (.tuple #[])) w') : wpList Try.prog ops Q (o :: rest) a w := by
  obtain ⟨w', hrun, h1, h2⟩ := run_clear_po t o.type ht h hn hc cap
  refine wpList_plain hgd fun K' hK' => ?_
  unfold Oper.wp
  simp [execOp, ho, resolve, invoke, builtin, hm, hrun, Result.andThen]
  exact hK' _ _ (hK _ h1 h2)
/-- Nothing put behind pointers: the same. -/
theorem step_append_no {ops : Array Oper} {o : Oper} {a : Act} {w : World} {K : Act → World → Prop} {Q : Exit → Act → World → Prop} {E : Prop} (hgd : o.guard = none) (s y : Operand) (t : TypeId)
    (ho : o.op = .call { callee := .builtin .append, args := #[s, y], argTypes := #[t, t] }) (ht : Try.prog.underlying t = some (.slice 48)) (g n c : Nat) (ad : Addr) (c2 : Nat) (H : List Od) (hs : a.eval s = .slice (some ⟨g, 0, none⟩) n c) (hy : a.eval y = .slice (some ad) 0 c2) (hn : n = H.length) (hnc : n ≤ c) (h : PO 0 w (.slice (some ⟨g, 0, none⟩) n c) H)
    (hK : ∀ w', PO 0 w' (.slice (some ⟨g, 0, none⟩) n c) H → Stay (· = g) w w' → K (a.put o.dst (.slice (some ⟨g, 0, none⟩) n c)) w') :
    if Region.wanted o (yielded ops a.tmps) = true then Oper.wp Try.prog o a w K Q else E := by
  have hw : Region.wanted o (yielded ops a.tmps) = true := by simp [Region.wanted, hgd]
  rw [if_pos hw]
  obtain ⟨i0, hi, hz, hsize, hby⟩ := info_parts info_ptr
  subst hn
  obtain ⟨w', hrun, h2, h3⟩ := run_append_fits (P := Try.prog) w 0 t o.type _ i0 1 ht hi hsize g H.length c (cellsP H) h ad 0 c2 [] rfl (fun j u hu => by simp at hu) (fun u hu => by simp at hu) hnc
  unfold Oper.wp execOp
  simp only [ho, resolve, invoke, builtin, Sem.run_bind, Sem.run_pure, Result.andThen_ok, List.map_toArray, List.map_cons, List.map_nil, hs, hy, hrun]
  refine hK w' ?_ (Stay.grown h3 (fun k hk => (Option.some.inj hk).symm))
  rw [List.append_nil] at h2
  exact h2

set_option maxHeartbeats 1000000 in
theorem delete_any (w : World) (g n c : Nat) (H : List Od) (hn : H.length = n + 1) (hnc : n + 1 ≤ c) (hcm : c ≤ 9223372036854775807) (h : PO 0 w (.slice (some ⟨g, 0, none⟩) (n + 1) c) H) :
    Calls Try.prog 44 #[.slice (some ⟨g, 0, none⟩) (n + 1) c, .int .i64 (n : Int), .int .i64 ((n : Int) + 1)] w fun e w' => e = .returned (.slice (some ⟨g, 0, none⟩) n c) ∧ PO 0 w' (.slice (some ⟨g, 0, none⟩) n c) (H.take n) ∧ Stay (· = g) w w' := by
  have HP := Lib.hid (h.take (k := n) (by omega))
  have hl : n = (H.take n).length := by rw [List.length_take]; omega
  have HL := Lib.hid hl
  generalize H.take n = T at *
  clear h hn hl
  have hnc0 : n ≤ c := by omega
  have hI1 : (n : Int) ≤ (n : Int) + 1 := by omega
  have hI2 : (0 : Int) ≤ (n : Int) + 1 := by omega
  by_cases hce : c = n + 1
  · subst hce
    go_enter Try.func44, Try.ntmps44
    go_wp2
    go_region_law (refine step_append_no rfl (.tmp 22) (.tmp 25) 43 rfl Try.underlying43 g n (n + 1) ⟨g, 0, none⟩ 0 T rfl rfl HL.out (by omega) (HP.out.stay0 Stay.drew) ?_; intro w1 hP1 hs1; have HP1 := Lib.hid hP1; have HS1 := Lib.hid (Stay.drew.trans hs1); clear hP1 hs1)
    go_frame
    go_wp2_with (refine wpList_clear_po rfl (.tmp 31) 43 rfl Try.underlying43 g n (n + 1) 1 T rfl HP1.out HL.out (by omega) ?_; intro w2 hP2 hs2; have HP2 := Lib.hid hP2; have HS2 := Lib.hid (HS1.out.trans hs2); clear hP2 hs2)
    go_ret
    exact ⟨rfl, HP2.out, HS2.out⟩
  · obtain ⟨d, hd⟩ : ∃ d, c - (n + 1) = d := ⟨_, rfl⟩
    have hd0 : ¬ d = 0 := by omega
    obtain ⟨d1, hd1⟩ : ∃ d1, c - n = d1 := ⟨_, rfl⟩
    go_enter Try.func44, Try.ntmps44
    go_wp2
    go_region_law (fail)
    have HP1 := Lib.hid (HP.out.stay0 (Stay.drew (w := w)))
    have HS1 := Lib.hid (Stay.drew (X := (· = g)) (w := w))
    go_frame
    go_wp2_with (refine wpList_clear_po rfl (.tmp 31) 43 rfl Try.underlying43 g n c d1 T rfl HP1.out HL.out (by omega) ?_; intro w2 hP2 hs2; have HP2 := Lib.hid hP2; have HS2 := Lib.hid (HS1.out.trans hs2); clear hP2 hs2)
    go_ret
    exact ⟨rfl, HP2.out, HS2.out⟩
end Go.Proofs.Ytdfhjmodacjilaa.Mg
