/-
  bloom's laws: numbers compared; the document's filter in a block; the numbers of errors.
-/
import Derived.Test.YtgchdgdhjafdbaaDoorBoW
import Derived.Test.YtgchdgdhjafdbaaDoorBoV
import Derived.Test.YtgchdgdhjafdbaaDoorErrPk
import Derived.Test.YtgchdgdhjafdbaaDoorHeldS
namespace Go.Proofs.YtgchdgdhjafdbaaDoor.Bo
open Go.RowKit Pk
set_option maxRecDepth 100000

theorem ints_any (w : World) (x y : Value) (L : List Nat) (b1 b2 : Nat) (hx : IO b1 w x L) (hy : IO b2 w y L) (hl : L.length ≤ 65535) :
    Calls Tryd.prog 18 #[x, y] w fun e w' => e = .returned (.bool true) ∧ Stay (fun _ => False) w w' := by
  obtain ⟨xa, xc, rfl⟩ := hx.form
  obtain ⟨ya, yc, rfl⟩ := hy.form
  obtain ⟨q, hq⟩ : ∃ q, q = L.length := ⟨_, rfl⟩
  rw [← hq] at hx hy hl ⊢
  have HX := Lib.hid hx
  have HY := Lib.hid hy
  have HQ := Lib.hid hq
  clear hx hy hq
  go_enter Tryd.func18, Tryd.ntmps18
  go_wp2
  go_loopw [5] (fun i wr => ∃ j : Nat, j ≤ q ∧ i = .int .i64 (j : Int) ∧ Stay (fun _ => False) w wr) (fun i _ => q - (intOf i).toNat)
  case atStart => exact ⟨0, Nat.zero_le _, rfl, Stay.refl _ _⟩
  case round =>
    obtain ⟨j, hj, rfl, hst⟩ := hrel
    have HST := Lib.hid hst
    clear hst
    by_cases hlt : j < q
    · obtain ⟨n, hn⟩ : ∃ n, L[j]? = some n := ⟨_, List.getElem?_eq_getElem (by rw [← HQ.out]; exact hlt)⟩
      obtain ⟨gx, xc', e, _, _⟩ := row_at HX.out (by rw [← HQ.out]; omega)
      rw [← HQ.out] at e
      cases e
      obtain ⟨gy, yc', e, _, _⟩ := row_at HY.out (by rw [← HQ.out]; omega)
      rw [← HQ.out] at e
      cases e
      have cx := IO.cell' HQ.out (HX.out.stay0 HST.out) hn
      have cy := IO.cell' HQ.out (HY.out.stay0 HST.out) hn
      clear hn
      go_wp2
      go_region
      have HSD := Lib.hid (HST.out.trans (Stay.drew (X := fun _ => False) (w := wr)))
      generalize wr.drew = wd at *
      go_wp2
      exact ⟨⟨j + 1, hlt, by go_num, HSD.out⟩, by simp [intOf]; omega⟩
    · obtain rfl : j = q := by omega
      go_wp2
      go_ret
      exact ⟨rfl, HST.out⟩

/-- The document's filter in a block. -/
def RfAt (w : World) (g q : Nat) (v : Value) : Prop := w.heap[g]? = some (.cells #[.int .i64 (q : Int), v] 33 (0, 0))
theorem RfAt.lt {w : World} {g q : Nat} {v : Value} (h : RfAt w g q v) : g < w.heap.size := lt_of_block h
theorem RfAt.stay {X : Nat → Prop} {w w' : World} {g q : Nat} {v : Value} (h : RfAt w g q v) (hs : Stay X w w') (hx : ¬ X g) : RfAt w' g q v := (hs.block g h.lt hx).trans h
theorem RfAt.stay0 {w w' : World} {g q : Nat} {v : Value} (h : RfAt w g q v) (hs : Stay (fun _ => False) w w') : RfAt w' g q v := h.stay hs (fun x => x)
theorem info_rf : (Tryd.prog.info? 33).map (·.size) = some 2 := by kernel_rfl
theorem RfAt.run {w : World} {g q : Nat} {v : Value} (h : RfAt w g q v) : (loadVar 33 ⟨g, 0, none⟩).run Tryd.prog w = .ok (.agg #[.int .i64 (q : Int), v]) w :=
  run_loadVar_mid (P := Tryd.prog) w g 0 33 33 #[.int .i64 (q : Int), v] #[.int .i64 (q : Int), v] (0, 0) _ h Tryd.underlying33 rfl info_rf (fun j hj => by rw [Nat.zero_add])

theorem num_of (c : Nat) (w : World) (hg : ErrCell w) (v : Value) (hv : v = if c = 0 then .nilIface else .iface 55 (.int .i64 (c : Int))) : Calls Tryd.prog 10 #[v] w fun e w' => e = .returned (.int .i64 (c : Int)) ∧ Stay (fun _ => False) w w' := num_any c w hg v hv

end Go.Proofs.YtgchdgdhjafdbaaDoor.Bo
