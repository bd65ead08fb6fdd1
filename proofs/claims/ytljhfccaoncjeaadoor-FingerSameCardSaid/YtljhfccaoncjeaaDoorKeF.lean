/-
  keccak: move.
-/
import Derived.Test.YtljhfccaoncjeaaDoorKeE
import Derived.Test.YtljhfccaoncjeaaDoorKeT
namespace Go.Proofs.YtljhfccaoncjeaaDoor.Ke
open Go.RowKit
set_option maxRecDepth 100000

/-- The variable that tells the path. -/
def PathAt (w : World) : Prop := ∀ k, k < 24 → w.cell? ⟨2, k, none⟩ = some (.int .i64 (pth k : Int))
theorem PathAt.stay {X : Nat → Prop} {w w' : World} (h : PathAt w) (hs : Stay X w w') (hx : ¬ X 2) : PathAt w' := fun k hk => hs.cell (h k hk) hx
def pathC : List Value := pathL.map fun (n : Nat) => .int .i64 (n : Int)
theorem pathC_get {k : Nat} (hk : k < 24) : pathC[k]? = some (.int .i64 (pth k : Int)) := by
  have h : ∀ k, k < 24 → pathC[k]? = some (.int .i64 (pth k : Int)) := by
    intro k hk
    unfold pathC pth
    rw [List.getElem?_map, List.getD_eq_getElem?_getD, List.getElem?_eq_getElem (show k < pathL.length from hk)]
    rfl
  exact h k hk

/-- A whole array read where its cells are known. -/
theorem run_load_cells {P : Program} (w : World) (a : Addr) (ty : TypeId) (cs : List Value) (d : TypeDesc) (hu : P.underlying ty = some d) (hd : (match d with | .struct _ | .array _ _ => true | _ => false) = true) (hi : (P.info? ty).map (·.size) = some cs.length)
    (hcs : ∀ j v, cs[j]? = some v → w.cell? (a.add j) = some v) : (loadVar ty a).run P w = .ok (.agg cs.toArray) w := by
  have hl : (loadCells a cs.length).run P w = .ok cs.toArray w := run_loadCells_list (P := P) w a cs hcs
  cases hq : P.info? ty with
  | none => simp [hq] at hi
  | some i =>
    have hs : i.size = cs.length := by simpa [hq] using hi
    have hagg : (isAgg ty).run P w = .ok true w := by
      unfold isAgg
      rw [Sem.run_bind, run_underlying hu w]
      cases d <;> simp_all
    simp [loadVar, Sem.run_bind, hagg, sizeOf, typeInfo, hq, hs, hl]
theorem load_cells {P : Program} {ops : Array Oper} {rest : List Oper} {o : Oper} {a : Act} {w : World} {Q : Exit → Act → World → Prop} (hgd : o.guard = none) (ty : TypeId) (x : Operand) (ho : o.op = .load ty x)
    (ad : Addr) (hx : a.eval x = .pointer (some ad)) (v : Value) (hl : (loadVar ty ad).run P w = .ok v w)
    (h : wpList P ops Q rest (a.put o.dst v) w) : wpList P ops Q (o :: rest) a w :=
  wpList_plain hgd fun _ hK => by
    unfold Oper.wp execOp
    simp only [ho, hx, Instr.loadAt, Instr.sureAddr, Sem.run_bind, Sem.run_pure, Result.andThen_ok, hl]
    exact hK _ _ h
/-- An element of an array by value, of a type that has one cell. -/
theorem run_index_arr {P : Program} (w : World) (ty e : TypeId) (n k : Nat) (cs : List Value) (v : Value) (d : TypeDesc) (hu : P.underlying ty = some (.array n e)) (hd : P.underlying e = some d) (hd2 : (match d with | .struct _ | .array _ _ => true | _ => false) = false)
    (hsz : (P.info? e).map (·.size) = some 1) (hk : k < n) (hv : cs[k]? = some v) : (Instr.index ty (.agg cs.toArray) (.int .i64 (k : Int))).run P w = .ok v w := by
  have hagg : (isAgg e).run P w = .ok false w := by
    unfold isAgg
    rw [Sem.run_bind, run_underlying hd w]
    cases d <;> simp_all
  have hso : (sizeOf e).run P w = .ok 1 w := by
    cases hq : P.info? e with
    | none => simp [hq] at hsz
    | some i =>
      have hs : i.size = 1 := by simpa [hq] using hsz
      simp [sizeOf, typeInfo, hq, hs]
  have hkk : (k : Int) < n := by omega
  simp [Instr.index, asIntOf, Sem.run_bind, run_underlying hu, part, hagg, hso, hv]
  omega
theorem run_path {w : World} (h : PathAt w) : (loadVar 98 ⟨2, 0, none⟩).run Tryd.prog w = .ok (.agg pathC.toArray) w :=
  run_load_cells (P := Tryd.prog) w ⟨2, 0, none⟩ 98 pathC _ Tryd.underlying98 rfl (by kernel_rfl) (fun j v hv => by
    have hj : j < 24 := (List.getElem?_eq_some_iff.1 hv).1
    rw [add_at, Nat.zero_add, h j hj, ← hv, pathC_get hj])

def tsum (k : Nat) : Nat := k * (k + 1) / 2
theorem tsum_up (k : Nat) : tsum k + (k + 1) = tsum (k + 1) := by
  unfold tsum
  have : (k + 1) * (k + 1 + 1) = k * (k + 1) + 2 * (k + 1) := by rw [show k + 1 + 1 = k + 2 from rfl, Nat.mul_add, Nat.mul_comm (k + 1) k]; omega
  omega
theorem tsum_turn (k : Nat) : tsum (k + 1) = turn k := rfl
theorem pth_inj : ∀ k, k < 24 → ∀ j, j < k → pth j ≠ pth k := by decide
theorem rhoPi_other (f : St) (i : Nat) : ∀ k, (∀ j, j < k → pth j ≠ i) → rhoPi f k i = f i
  | 0, _ => rfl
  | k + 1, h => by
    unfold rhoPi put
    rw [if_neg (fun e => h k (by omega) e.symm)]
    exact rhoPi_other f i k (fun j hj => h j (by omega))
theorem tsum_le : ∀ k, k < 25 → tsum k ≤ 300 := by decide

set_option maxHeartbeats 2000000 in
theorem move_any (w : World) (g : Nat) (f : St) (t : Nat) (h : StAt w g f t) (hp : PathAt w) :
    Calls Tryd.prog 45 #[.pointer (some ⟨g, 0, none⟩)] w fun e w' => e = .returned (.tuple #[]) ∧ StAt w' g (rhoPi f 24) t ∧ Stay (· = g) w w' := by
  have c1 := h.c (i := 1) (by omega)
  have HP := Lib.hid (run_path hp)
  have H := Lib.hid h
  clear h hp
  go_enter Tryd.func45, Tryd.ntmps45
  go_wp2_with (refine load_cells rfl 98 (.global 2) rfl _ rfl _ HP.out ?_)
  go_loopw [2, 3, 11] (fun l u i wr => ∃ k : Nat, k ≤ 24 ∧ i = .int .i64 (k : Int) ∧ l = .int .u64 (nv (f (pre k)) : Int) ∧ u = .int .i64 (tsum k : Int) ∧ StAt wr g (rhoPi f k) t ∧ Stay (fun k => k = g) w wr) (fun _ _ i _ => 24 - (intOf i).toNat)
  case atStart => exact ⟨0, by omega, rfl, rfl, rfl, H.out, Stay.refl _ _⟩
  case round =>
    obtain ⟨k, hk, rfl, rfl, rfl, hs, hst⟩ := hrel
    by_cases hlt : k < 24
    · obtain ⟨p, hpp⟩ : ∃ p, p = pth k := ⟨_, rfl⟩
      have hpg := pathC_get hlt
      rw [← hpp] at hpg
      have hp25 : (p : Int) < 25 := by have := (pth_lt k hlt).1; omega
      have cp := hs.c (i := p) (by omega)
      rw [rhoPi_other f p k (fun j hj => by rw [hpp]; exact pth_inj k hlt j hj)] at cp
      have cf := hs.fr p
      obtain ⟨v, hv⟩ : ∃ v, v = tsum k := ⟨_, rfl⟩
      have hv1 := tsum_le k (by omega)
      rw [← hv] at hv1
      rw [← hv]
      have q0 : (k : Int) < 24 := by omega
      have hix : ∀ W, (Instr.index 98 (.agg pathC.toArray) (.int .i64 (k : Int))).run Tryd.prog W = .ok (.int .i64 (p : Int)) W := fun W => run_index_arr W _ _ 24 k _ _ _ Tryd.underlying98 Tryd.underlying3 rfl (by kernel_rfl) hlt hpg
      have HS := Lib.hid hs
      have HPP := Lib.hid hpp
      have HV := Lib.hid hv
      have HST := Lib.hid hst
      have HLT := Lib.hid hlt
      clear hs hpp hv hst hlt
      go_wp2
      have e1 : ((v : Int) + ((k : Int) + 1)) = ((turn k : Nat) : Int) := by have h1 := tsum_up k; have h2 := tsum_turn k; have h3 := HV.out; omega
      obtain ⟨u, hu⟩ : ∃ u, u = turn k := ⟨_, rfl⟩
      obtain ⟨m, hm⟩ : ∃ m, m = u % 64 := ⟨_, rfl⟩
      rw [← hu] at e1
      rw [e1]
      have e2 : (u : Int).tmod 64 = (m : Int) := by rw [Int.tmod_eq_emod_of_nonneg (by omega)]; omega
      have e3 : (u : Int) % 64 = (m : Int) := by omega
      have m1 : m < 64 := by omega
      have HM1 := Lib.hid m1
      have HU := Lib.hid hu
      have HM := Lib.hid hm
      clear hu hm e1 m1
      refine wp_region_still_tail 14 (by kernel_rfl) (by kernel_rfl) ?_
      simp only [List.take_succ_cons, List.take_zero, List.drop_succ_cons, List.drop_zero]
      iterate 10 still_step
      still_call (rot_quiet (f (pre k)) m _ HM1.out)
      repeat still_step
      refine wpStill_nil ?_
      go_wp2
      have hl := HLT.out
      refine ⟨⟨k + 1, by omega, by go_num, by rw [HPP.out]; rfl, by rw [HU.out]; rfl, ?_, HST.out.trans (stay_setD _ _ _ _)⟩, by simp [intOf]; omega⟩
      have e := HS.out.set (i := p) (by omega) (rotl (f (pre k)) m)
      rw [HM.out, HU.out, HPP.out] at e
      rw [HM.out, HU.out, HPP.out]
      exact e
    · obtain rfl : k = 24 := by omega
      have HS := Lib.hid hs
      clear hs
      go_wp2
      exact bodyPost_end (results_none rfl _ _ _) rfl ⟨rfl, HS.out, hst⟩
end Go.Proofs.YtljhfccaoncjeaaDoor.Ke
