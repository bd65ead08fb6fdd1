/-
  log: whether an area is in a device; what stands behind the tags of sectors (ring.read).
-/
import Derived.Test.YthbcgimmbcdnmaaDoorLoB
import Derived.Test.YthbcgimmbcdnmaaDoorTgH
import Derived.Test.YthbcgimmbcdnmaaDoorHeldS
import Derived.Test.YthbcgimmbcdnmaaDoorDeNar
import Derived.Test.YthbcgimmbcdnmaaDoorRow2
namespace Go.Proofs.YthbcgimmbcdnmaaDoor.Lo
open Go.RowKit
open Pk (spellB bytesB takeB numB textB RS Slc Owns RdAt WrAt stay_drewN)
open Tg (writeD flushD down DOk readD read_all)
set_option maxRecDepth 100000
set_option linter.unusedVariables false

/-- A region's end, told anew. -/
theorem wp_mid {P : Program} {c : Code} {K K2 : Act → World → Prop} {Q : Exit → Act → World → Prop} {a : Act} {w : World} (hk : ∀ a W, K2 a W → K a W) (h : c.wp P (Exit.then K2 Q) a w) : c.wp P (Exit.then K Q) a w :=
  Code.wp_mono (fun e a w he => by cases e <;> first | exact hk a w he | exact he) h
/-- A call of a function, as one step of a region, by its contract. -/
theorem step_call {P : Program} {ops : Array Oper} {o : Oper} {a : Act} {w : World} {K : Act → World → Prop} {Q : Exit → Act → World → Prop} {E : Prop} (hgd : o.guard = none) (f : FuncId) (xs : Array Operand) (ts : Array TypeId)
    (ho : o.op = .call { callee := .value (.func f), args := xs, argTypes := ts }) (vals : Array Value) (hv : xs.map a.eval = vals) (hf : (callFunc f vals).run P w = .ok (.enter f vals) w) (hc : Calls P f vals w fun e w' => ∃ v, e = .returned v ∧ K (a.put o.dst v) w') :
    if Region.wanted o (yielded ops a.tmps) = true then Oper.wp P o a w K Q else E := by
  have hw : Region.wanted o (yielded ops a.tmps) = true := by simp [Region.wanted, hgd]
  rw [if_pos hw]
  unfold Oper.wp
  have hrun : (execOp a.eval o).run P w = .ok (.enter f vals) w := by
    unfold execOp
    simp [ho, resolve, invoke, hv, Act.eval, Deferred.ofValue, hf]
  rw [hrun, Oper.upon_enter]
  refine hc.mono ?_
  rintro e w' ⟨v, rfl, hk⟩
  exact hk

/-- What an int's value is, as a measure. -/
def valI : Value → Nat
  | .int _ x => x.toNat
  | _ => 0
/-- An area, a ring, as values. -/
def ringV (pd F S : Nat) : Value := .agg #[.pointer (some ⟨pd, 0, none⟩), .int .i64 (F : Int), .int .i64 (S : Int)]
/-- The area is in a device of n sectors. -/
def inB (f s n : Int) : Bool := decide (0 ≤ f ∧ 2 ≤ s ∧ f ≤ n - s)

theorem in_any (f s : Int) (w : World) (pd ps pm : Nat) (d : DS) (h : DevAt w pd ps pm d) (hf : -9223372036854775808 ≤ f ∧ f ≤ 9223372036854775807) (hs : -9223372036854775808 ≤ s ∧ s ≤ 9223372036854775807) :
    Calls Tryd.prog 15 #[.agg #[.int .i64 f, .int .i64 s], .pointer (some ⟨pd, 0, none⟩)] w fun e w' => e = .returned (.bool (inB f s d.n)) ∧ Stay (fun _ => False) w w' := by
  obtain ⟨f0, f1⟩ := hf
  obtain ⟨s0, s1⟩ := hs
  have hn1 := h.n1
  have hn2 := h.n2
  by_cases h1 : 0 ≤ f ∧ 2 ≤ s ∧ f ≤ d.n - s
  · obtain ⟨h1, h2, h3⟩ := h1
    have e1 : inB f s d.n = true := by simp [inB]; omega
    rw [e1]
    skip
    go_enter Tryd.func15, Tryd.ntmps15
    go_wp2
    have hd : ∀ q, DevAt ((w.alloc (.cells #[.int .i64 f, .int .i64 s] 30)).drewN q) pd ps pm d := fun q => (h.alloc _).stay (stay_drewN (X := fun _ => False) _ q) (fun x => x) (fun x => x) (fun x => x)
    go_quiet ((go_at_call 32; exact Calls.quiet_of_same (Tg.sectors_any _ pd ps pm d (hd _))))
    go_wp2
    go_ret
    exact ⟨rfl, (Stay.alloc _ _).trans (stay_drewN _ _)⟩
  · have e1 : inB f s d.n = false := by simp [inB]; omega
    rw [e1]
    by_cases h2 : 0 ≤ f
    · by_cases h3 : 2 ≤ s
      · have h4 : ¬ f ≤ d.n - s := by omega
        clear h1 e1
        skip
        go_enter Tryd.func15, Tryd.ntmps15
        go_wp2
        have hd : ∀ q, DevAt ((w.alloc (.cells #[.int .i64 f, .int .i64 s] 30)).drewN q) pd ps pm d := fun q => (h.alloc _).stay (stay_drewN (X := fun _ => False) _ q) (fun x => x) (fun x => x) (fun x => x)
        go_quiet ((go_at_call 32; exact Calls.quiet_of_same (Tg.sectors_any _ pd ps pm d (hd _))))
        go_wp2
        go_ret
        exact ⟨by simp [h4], (Stay.alloc _ _).trans (stay_drewN _ _)⟩
      · have h3c : decide (2 ≤ s) = false := by simpa using h3
        clear h1 e1
        skip
        go_enter Tryd.func15, Tryd.ntmps15
        go_wp2
        have hd : ∀ q, DevAt ((w.alloc (.cells #[.int .i64 f, .int .i64 s] 30)).drewN q) pd ps pm d := fun q => (h.alloc _).stay (stay_drewN (X := fun _ => False) _ q) (fun x => x) (fun x => x) (fun x => x)
        go_quiet ((go_at_call 32; exact Calls.quiet_of_same (Tg.sectors_any _ pd ps pm d (hd _))))
        go_wp2
        go_ret
        exact ⟨rfl, (Stay.alloc _ _).trans (stay_drewN _ _)⟩
    · have h2c : decide (0 ≤ f) = false := by simpa using h2
      clear h1 e1
      skip
      go_enter Tryd.func15, Tryd.ntmps15
      go_wp2
      have hd : ∀ q, DevAt ((w.alloc (.cells #[.int .i64 f, .int .i64 s] 30)).drewN q) pd ps pm d := fun q => (h.alloc _).stay (stay_drewN (X := fun _ => False) _ q) (fun x => x) (fun x => x) (fun x => x)
      go_quiet ((go_at_call 32; exact Calls.quiet_of_same (Tg.sectors_any _ pd ps pm d (hd _))))
      go_wp2
      go_ret
      exact ⟨rfl, (Stay.alloc _ _).trans (stay_drewN _ _)⟩


/-- Sectors of the area, from one on. -/
def blksD (d : DS) (F S fr n : Nat) : List (List UInt8) := (List.range n).map fun i => d.cur (F + (fr + i) % S)
theorem len_blksD (d : DS) (F S fr n : Nat) : (blksD d F S fr n).length = n := by simp [blksD]
theorem blksD_at {d : DS} {F S fr n j : Nat} (h : j < n) : (blksD d F S fr n)[j]? = some (d.cur (F + (fr + j) % S)) := by simp [blksD, h]
theorem drop_at {α : Type} {B : List α} {j : Nat} {b : α} (h : B[j]? = some b) : B.drop j = b :: B.drop (j + 1) := by
  obtain ⟨h1, h2⟩ := List.getElem?_eq_some_iff.1 h
  rw [List.drop_eq_getElem_cons h1, h2]
theorem eight {l : List UInt8} (h : l.length = 8) : ∃ a b c d e f g i, l = [a, b, c, d, e, f, g, i] := by
  match l, h with
  | [a, b, c, d, e, f, g, i], _ => exact ⟨_, _, _, _, _, _, _, _, rfl⟩
def z8 : List UInt8 := [0, 0, 0, 0, 0, 0, 0, 0]
theorem eq_tag (w : World) (p q : List UInt8) (hp : p.length = 8) (hq : q.length = 8) : (Op.equalIn 10000 97 (.agg (cellsB p).toArray) (.agg (cellsB q).toArray)).run Tryd.prog w = .ok (p == q) w :=
  run_equalIn_bytes (P := Tryd.prog) w 9998 97 5 8 Tryd.underlying97 Tryd.underlying5 Tg.size_u8 p q hp hq
theorem array_tag (w : World) (a : Option Addr) (c : Nat) : (Instr.arrayAt 97 (.slice a 64 c)).run Tryd.prog w = .ok (.pointer a) w := by
  simp [Instr.arrayAt, Sem.run_bind, run_underlying Tryd.underlying97]

set_option maxHeartbeats 4000000 in
theorem rread_any (w : World) (pd ps pm : Nat) (d : DS) (F S fr s most : Nat) (h : DevAt w pd ps pm d) (hup : ¬ down d = true) (hS : 1 ≤ S) (hFS : F + S ≤ d.n) (hfr : fr ≤ 1000000) (hs : s ≤ 1099511627776) (hm : most ≤ 16384) :
    Calls Tryd.prog 33 #[ringV pd F S, .int .i64 (fr : Int), .int .i64 (s : Int), .int .i64 (most : Int)] w fun e w' => ∃ v, e = .returned (.tuple #[v, .nilIface]) ∧ Owns w.heap.size w' v (takeT s (blksD d F S fr most)) ∧ Stay (fun _ => False) w w' := by
  have hn2 := h.n2
  have H0 := Lib.hid h
  have HUP := Lib.hid hup
  obtain ⟨B, hB⟩ : ∃ B, B = blksD d F S fr most := ⟨_, rfl⟩
  have HBL := Lib.hid (show B.length = most by rw [hB, len_blksD])
  have HBA := Lib.hid (show ∀ j, j < most → B[j]? = some (d.cur (F + (fr + j) % S)) from fun j hj => by rw [hB]; exact blksD_at hj)
  have HCUR := Lib.hid (show ∀ j, (d.cur j).length = 64 from fun j => Tg.cur64 h j)
  rw [← hB]
  unfold ringV
  clear h hup hB
  go_enter Tryd.func33, Tryd.ntmps33
  go_wp2
  have HW0 := Lib.hid (show Stay (fun _ => False) w (w.alloc (.cells #[.pointer (some ⟨pd, 0, none⟩), .int .i64 (F : Int), .int .i64 (S : Int)] 58)) from Stay.alloc _ _)
  have HB0 := Lib.hid (heap_alloc_new w (.cells #[.pointer (some ⟨pd, 0, none⟩), .int .i64 (F : Int), .int .i64 (S : Int)] 58))
  obtain ⟨r, hr⟩ : ∃ r, r = w.heap.size := ⟨_, rfl⟩
  rw [← hr] at HB0 ⊢
  have HR := Lib.hid hr
  generalize w.alloc (.cells #[.pointer (some ⟨pd, 0, none⟩), .int .i64 (F : Int), .int .i64 (S : Int)] 58) = w0 at *
  clear hr
  go_loopw [10, 17] (fun v i wr => ∃ (j : Nat) (pre : List UInt8), j ≤ most ∧ i = .int .i64 (j : Int) ∧ Hid (takeT s B = pre ++ takeT s (B.drop j)) ∧ Hid (pre.length ≤ 56 * j) ∧ Hid (Owns r wr v pre) ∧ Hid (∀ k, v.ownBlock = some k → w0.heap.size ≤ k) ∧ Hid (Stay (fun _ => False) w0 wr)) (fun _ i _ => most - valI i)
  case atStart => exact ⟨0, [], Nat.zero_le _, rfl, Lib.hid (by simp), Lib.hid (by simp), Lib.hid (Pk.Owns.nil _ _), Lib.hid (fun k hk => by cases hk), Lib.hid (Stay.refl _ _)⟩
  case round =>
    obtain ⟨j, pre, hj, rfl, HPRE, HPL, HO, HOB, HST⟩ := hrel
    by_cases hlt : j < most
    · have HBK := Lib.hid ((HST.out.block r (Array.getElem?_eq_some_iff.1 HB0.out).1 (fun x => x)).trans HB0.out)
      have c0 : wr.cell? ⟨r, 0, none⟩ = some (.pointer (some ⟨pd, 0, none⟩)) := cell_of_row _ _ _ _ _ _ HBK.out
      have c1 : wr.cell? ⟨r, 1, none⟩ = some (.int .i64 (F : Int)) := cell_of_row _ _ _ _ _ _ HBK.out
      have c2 : wr.cell? ⟨r, 2, none⟩ = some (.int .i64 (S : Int)) := cell_of_row _ _ _ _ _ _ HBK.out
      have HSEC := Lib.hid (fun W => sector_any W (.pointer (some ⟨pd, 0, none⟩)) F S (fr + j) hS (by omega) (by omega) (by omega))
      have hmod := Nat.mod_lt (fr + j) (show S > 0 by omega)
      have HRD := Lib.hid (fun W (hW : Stay (fun _ => False) wr W) => read_all W pd ps pm d (F + (fr + j) % S) (((H0.out.stay HW0.out (fun x => x) (fun x => x) (fun x => x)).stay HST.out (fun x => x) (fun x => x) (fun x => x)).stay hW (fun x => x) (fun x => x) (fun x => x)) (by omega))
      have e1 : readD d (F + (fr + j) % S) = (d.cur (F + (fr + j) % S), 0) := if_neg HUP.out
      simp only [e1, Pk.errV_zero] at HRD
      obtain ⟨q, hq⟩ : ∃ q, q = F + (fr + j) % S := ⟨_, rfl⟩
      rw [← hq] at HSEC HRD
      rw [show ((fr + j : Nat) : Int) = (fr : Int) + (j : Int) by omega] at HSEC
      have HBQ := Lib.hid (show B[j]? = some (d.cur q) by rw [hq]; exact HBA.out j hlt)
      obtain ⟨va, vc, rfl⟩ := HO.out.form
      have HOW := Lib.hid (show ∀ k, (Value.slice va pre.length vc).ownBlock = some k → w0.heap.size ≤ k from HOB.out)
      have HWR := Lib.hid (i64_w ((fr : Int) + (j : Int)) (by omega) (by omega))
      clear e1 hmod hq
      go_wp2
      have hcl := HCUR.out q
      refine wp_region_held (S := Stay (fun _ => False) wr.drew) (by kernel_rfl) ?_
      change wpAnyH _ _ _ _ _ _ _ _ (World.drew _)
      have hst : Stay (fun _ => False) wr wr.drew := Stay.drew
      refine wpAnyH_takeL (i := 0) (v := .pointer (some ⟨r, 0, none⟩)) #[true, false, false, false, false, false, false, false, false, false, false, false, false] rfl (by kernel_rfl) (by kernel_rfl) (by kernel_rfl) (fun _ _ _ h => h) (by kernel_rfl) (Stay.refl _ _) (Or.inl ⟨by rfl, fun W hW => ?_⟩) ?_
      · go_simp
      conv => arg 8; simp [Act.put]
      refine wpAnyH_takeL (i := 1) (v := .pointer (some ⟨pd, 0, none⟩)) #[true, true, false, false, false, false, false, false, false, false, false, false, false] rfl (by kernel_rfl) (by kernel_rfl) (by kernel_rfl) (fun _ _ _ h => h) (by kernel_rfl) (Stay.refl _ _) (Or.inl ⟨by rfl, fun W hW => ?_⟩) ?_
      · have q0 := (hst.trans hW).cell c0 (fun x => x)
        go_simp
      conv => arg 8; simp [Act.put]
      refine wpAnyH_takeL (i := 2) (v := .agg #[.pointer (some ⟨pd, 0, none⟩), .int .i64 (F : Int), .int .i64 (S : Int)]) #[true, true, true, false, false, false, false, false, false, false, false, false, false] rfl (by kernel_rfl) (by kernel_rfl) (by kernel_rfl) (fun _ _ _ h => h) (by kernel_rfl) (Stay.refl _ _) (Or.inl ⟨by rfl, fun W hW => ?_⟩) ?_
      · have q0 := (hst.trans hW).cell c0 (fun x => x)
        have q1 := (hst.trans hW).cell c1 (fun x => x)
        have q2 := (hst.trans hW).cell c2 (fun x => x)
        go_simp
      conv => arg 8; simp [Act.put]
      refine wpAnyH_takeL (i := 3) (v := .int .i64 (fr : Int)) #[true, true, true, true, false, false, false, false, false, false, false, false, false] rfl (by kernel_rfl) (by kernel_rfl) (by kernel_rfl) (fun _ _ _ h => h) (by kernel_rfl) (Stay.refl _ _) (Or.inl ⟨by rfl, fun W hW => ?_⟩) ?_
      · go_simp
      conv => arg 8; simp [Act.put]
      refine wpAnyH_takeL (i := 4) (v := .int .i64 (j : Int)) #[true, true, true, true, true, false, false, false, false, false, false, false, false] rfl (by kernel_rfl) (by kernel_rfl) (by kernel_rfl) (fun _ _ _ h => h) (by kernel_rfl) (Stay.refl _ _) (Or.inl ⟨by rfl, fun W hW => ?_⟩) ?_
      · go_simp
      conv => arg 8; simp [Act.put]
      refine wpAnyH_takeL (i := 5) (v := .int .i64 ((fr : Int) + (j : Int))) #[true, true, true, true, true, true, false, false, false, false, false, false, false] rfl (by kernel_rfl) (by kernel_rfl) (by kernel_rfl) (fun _ _ _ h => h) (by kernel_rfl) (Stay.refl _ _) (Or.inl ⟨by rfl, fun W hW => ?_⟩) ?_
      · have q1 := HWR.out
        go_simp
      conv => arg 8; simp [Act.put]
      refine wpAnyH_one #[true, true, true, true, true, true, true, false, false, false, false, false, false] (i := 6) rfl (by kernel_rfl) (by kernel_rfl) (fun K hK => ?_)
      go_simp
      go_wp2_with (go_at_call 35; refine (HSEC.out _).mono ?_; rintro e z1 ⟨rfl, s⟩)
      replace hst := hst.trans s
      refine hK _ _ s ?_
      clear hK
      conv => arg 8; simp [Act.put]
      refine wpAnyH_narrow (S' := Stay (fun _ => False) z1) (fun _ h => s.trans h) _ _ _ _ ?_
      clear s
      refine wpAnyH_one #[true, true, true, true, true, true, true, true, false, false, false, false, false] (i := 7) rfl (by kernel_rfl) (by kernel_rfl) (fun K hK => ?_)
      go_simp
      go_wp2_with (go_at_call 36; refine (HRD.out _ hst).mono ?_; rintro e z2 ⟨v3, rfl, ho3, s⟩; obtain ⟨a3, c3, rfl⟩ : ∃ a c, v3 = .slice a 64 c := (by have h := ho3.form; rw [hcl] at h; exact h); have HO3 := Lib.hid (Pk.Owns.base ho3 (base' := wr.heap.size) (fun k hk => Nat.le_trans hst.size (ho3.lt k hk).1)); clear ho3)
      replace hst := hst.trans s
      refine hK _ _ s ?_
      clear hK
      conv => arg 8; simp [Act.put]
      refine wpAnyH_narrow (S' := Stay (fun _ => False) z2) (fun _ h => s.trans h) _ _ _ _ ?_
      clear s
      refine wpAnyH_takeL (i := 8) (v := .tuple #[.slice a3 64 c3, .nilIface]) #[true, true, true, true, true, true, true, true, true, false, false, false, false] rfl (by kernel_rfl) (by kernel_rfl) (by kernel_rfl) (fun _ _ _ h => h) (by kernel_rfl) (Stay.refl _ _) (Or.inl ⟨by rfl, fun W hW => ?_⟩) ?_
      · go_simp
      conv => arg 8; simp [Act.put]
      refine wpAnyH_takeL (i := 9) (v := .slice a3 64 c3) #[true, true, true, true, true, true, true, true, true, true, false, false, false] rfl (by kernel_rfl) (by kernel_rfl) (by kernel_rfl) (fun _ _ _ h => h) (by kernel_rfl) (Stay.refl _ _) (Or.inl ⟨by rfl, fun W hW => ?_⟩) ?_
      · go_simp
      conv => arg 8; simp [Act.put]
      refine wpAnyH_takeL (i := 10) (v := .nilIface) #[true, true, true, true, true, true, true, true, true, true, true, false, false] rfl (by kernel_rfl) (by kernel_rfl) (by kernel_rfl) (fun _ _ _ h => h) (by kernel_rfl) (Stay.refl _ _) (Or.inl ⟨by rfl, fun W hW => ?_⟩) ?_
      · go_simp
      conv => arg 8; simp [Act.put]
      refine wpAnyH_takeL (i := 11) (v := .slice a3 64 c3) #[true, true, true, true, true, true, true, true, true, true, true, true, false] rfl (by kernel_rfl) (by kernel_rfl) (by kernel_rfl) (fun _ _ _ h => h) (by kernel_rfl) (Stay.refl _ _) (Or.inl ⟨by rfl, fun W hW => ?_⟩) ?_
      · go_simp
      conv => arg 8; simp [Act.put]
      refine wpAnyH_takeL (i := 12) (v := .nilIface) #[true, true, true, true, true, true, true, true, true, true, true, true, true] rfl (by kernel_rfl) (by kernel_rfl) (by kernel_rfl) (fun _ _ _ h => h) (by kernel_rfl) (Stay.refl _ _) (Or.inl ⟨by rfl, fun W hW => ?_⟩) ?_
      · go_simp
      conv => arg 8; simp [Act.put]
      refine wpAnyH_done (by kernel_rfl) ?_ _
      have HS3 := Lib.hid hst
      obtain ⟨g3, hg3, h3c, h3b⟩ : ∃ g3, a3 = some ⟨g3, 0, none⟩ ∧ 64 ≤ c3 ∧ c3 ≤ 9223372036854775807 := by
        rcases HO3.out.2 with ⟨e, he⟩ | ⟨g, cap, cur, e, h4, hg, h5, h6, _⟩
        · rw [hcl] at he; omega
        · obtain ⟨rfl, _, rfl⟩ := Value.slice.inj e
          exact ⟨g, rfl, by rw [hcl] at h5; exact h5, by unfold maxLen at h6; omega⟩
      subst hg3
      have HC3 := Lib.hid (show ∀ (i : Nat) (u : Value), (cellsB (d.cur q))[i]? = some u → z2.cell? ⟨g3, i, none⟩ = some u from fun i u hu => by
        have := World.ownsRow.cells (g := g3) HO3.out rfl i _ hu
        rwa [add_at, Nat.zero_add] at this)
      have karr := array_tag
      have hc8 : ¬ c3 = 8 := by omega
      clear hst hcl
      go_wp2
      have HIT := Lib.hid (show (Tryd.prog.info? 97).map (·.size) = some (cellsB ((d.cur q).take 8)).length by rw [length_cellsB, List.length_take, HCUR.out q]; kernel_rfl)
      refine wp_region_held (S := Stay (fun _ => False) z2.drew) (by kernel_rfl) ?_
      change wpAnyH _ _ _ _ _ _ _ _ (World.drew _)
      have hst : Stay (fun _ => False) z2 z2.drew := Stay.drew
      refine wpAnyH_takeL (i := 0) (v := .slice (some ⟨g3, 0, none⟩) 64 c3) #[true, false, false, false, false, false, false, false] rfl (by kernel_rfl) (by kernel_rfl) (by kernel_rfl) (fun _ _ _ h => h) (by kernel_rfl) (Stay.refl _ _) (Or.inl ⟨by rfl, fun W hW => ?_⟩) ?_
      · go_simp
      conv => arg 8; simp [Act.put]
      refine wpAnyH_takeL (i := 1) (v := .pointer (some ⟨g3, 0, none⟩)) #[true, true, false, false, false, false, false, false] rfl (by kernel_rfl) (by kernel_rfl) (by kernel_rfl) (fun _ _ _ h => h) (by kernel_rfl) (Stay.refl _ _) (Or.inl ⟨by rfl, fun W hW => ?_⟩) ?_
      · go_simp
      conv => arg 8; simp [Act.put]
      refine wpAnyH_takeL (i := 2) #[true, true, true, false, false, false, false, false] rfl (by kernel_rfl) (by kernel_rfl) (by kernel_rfl) (fun _ _ _ h => h) (by kernel_rfl) (Stay.refl _ _) (yieldsIf_load rfl 97 (.tmp 35) rfl ⟨g3, 0, none⟩ rfl _ (fun W hW => Tg.run_load_at W ⟨g3, 0, none⟩ 97 (cellsB ((d.cur q).take 8)) _ Tryd.underlying97 rfl HIT.out (fun i u hu => (hst.trans hW).cell (by rw [add_at, Nat.zero_add]; exact HC3.out i u (by simp only [cellsB, List.map_take, List.getElem?_take] at hu; split at hu; exact hu; cases hu)) (fun x => x)))) ?_
      conv => arg 8; simp [Act.put]
      refine wpAnyH_takeL (i := 3) (v := .slice (some ⟨g3, 0, none⟩) 64 c3) #[true, true, true, true, false, false, false, false] rfl (by kernel_rfl) (by kernel_rfl) (by kernel_rfl) (fun _ _ _ h => h) (by kernel_rfl) (Stay.refl _ _) (Or.inl ⟨by rfl, fun W hW => ?_⟩) ?_
      · go_simp
      conv => arg 8; simp [Act.put]
      refine wpAnyH_takeL (i := 4) (v := .slice (some ⟨g3, 8, none⟩) 56 (c3 - 8)) #[true, true, true, true, true, false, false, false] rfl (by kernel_rfl) (by kernel_rfl) (by kernel_rfl) (fun _ _ _ h => h) (by kernel_rfl) (Stay.refl _ _) (Or.inl ⟨by rfl, fun W hW => ?_⟩) ?_
      · go_simp
      conv => arg 8; simp [Act.put]
      refine wpAnyH_one #[true, true, true, true, true, true, false, false] (i := 5) rfl (by kernel_rfl) (by kernel_rfl) (fun K hK => ?_)
      refine step_alloc_z rfl 97 rfl (.agg (cellsB z8).toArray) (by kernel_rfl) ?_
      have s : Stay (fun _ => False) z2.drew (z2.drew.alloc (.cells (Value.agg (cellsB z8).toArray).cells 97)) := Stay.alloc _ _
      have hz5 := heap_alloc_new z2.drew (.cells (Value.agg (cellsB z8).toArray).cells 97)
      obtain ⟨z5, hz5e⟩ : ∃ z5, z5 = z2.drew.alloc (.cells (Value.agg (cellsB z8).toArray).cells 97) := ⟨_, rfl⟩
      obtain ⟨g5, hg5⟩ : ∃ g5, g5 = z2.drew.heap.size := ⟨_, rfl⟩
      rw [← hz5e, ← hg5] at hz5
      rw [← hz5e] at s ⊢
      rw [← hg5]
      have hg2 : z2.drew.heap.size ≤ g5 := by rw [hg5]; exact Nat.le_refl _
      have S5 := Lib.hid s
      clear hz5e hg5
      refine hK _ _ s ?_
      clear hK s
      conv => arg 8; simp [Act.put]
      refine wpAnyH_one #[true, true, true, true, true, true, true, false] (i := 6) rfl (by kernel_rfl) (by kernel_rfl) (fun K hK => ?_)
      refine step_store_mid rfl 97 (.tmp 14) (.tmp 36) rfl g5 0 rfl 97 (cellsB z8) (cellsB ((d.cur q).take 8)) rfl hz5 HIT.out (by rw [length_cellsB, length_cellsB, List.length_take, HCUR.out q]; decide) (oneCell_cellsB _) ?_
      intro z6 h6 s6
      have hsp : splice (cellsB z8) 0 (cellsB ((d.cur q).take 8)) = cellsB ((d.cur q).take 8) := by
        unfold splice
        rw [List.take_zero, List.nil_append, Nat.zero_add, length_cellsB, List.length_take, HCUR.out q, List.drop_eq_nil_of_le (by rw [length_cellsB]; decide), List.append_nil]
      rw [hsp] at h6
      have s : Stay (fun _ => False) z2.drew z6 := Pk.stay_seal (X := fun k => k = g5) ((S5.out.mono (fun _ x => x.elim)).trans s6) (fun k e => by omega)
      have H6 := Lib.hid h6
      have S6 := Lib.hid s
      clear h6 hsp s6 hz5
      refine hK _ _ s ?_
      clear hK
      conv => arg 8; simp [Act.put]
      refine wpAnyH_narrow (S' := Stay (fun _ => False) z6) (fun _ h => s.trans h) _ _ _ _ ?_
      replace hst := hst.trans s
      clear s
      refine wpAnyH_takeL (i := 7) (v := .slice (some ⟨g3, 8, none⟩) 56 (c3 - 8)) #[true, true, true, true, true, true, true, true] rfl (by kernel_rfl) (by kernel_rfl) (by kernel_rfl) (fun _ _ _ h => h) (by kernel_rfl) (Stay.refl _ _) (Or.inl ⟨by rfl, fun W hW => ?_⟩) ?_
      · go_simp
      conv => arg 8; simp [Act.put]
      refine wpAnyH_done (by kernel_rfl) ?_ _
      have HS6 := Lib.hid (HS3.out.trans hst)
      have S26 := Lib.hid hst
      clear hst
      have HTAG := Lib.hid (fun W => tagOf_any W s hs)
      have h6l : g5 < z6.heap.size := (Array.getElem?_eq_some_iff.1 H6.out).1
      have heq := fun W => eq_tag W ((d.cur q).take 8) (tagB s) (by rw [List.length_take, HCUR.out q]; rfl) (len_tagB s)
      have HEQ := Lib.hid heq
      clear heq karr
      go_wp2
      refine wp_region_held (S := Stay (fun _ => False) z6.drew) (by kernel_rfl) ?_
      change wpAnyH _ _ _ _ _ _ _ _ (World.drew _)
      have hst : Stay (fun _ => False) z6 z6.drew := Stay.drew
      refine wpAnyH_takeL (i := 0) #[true, false, false, false] rfl (by kernel_rfl) (by kernel_rfl) (by kernel_rfl) (fun _ _ _ h => h) (by kernel_rfl) (Stay.refl _ _) (yieldsIf_load rfl 97 (.tmp 14) rfl ⟨g5, 0, none⟩ rfl _ (fun W hW => Tg.run_load_at W ⟨g5, 0, none⟩ 97 (cellsB ((d.cur q).take 8)) _ Tryd.underlying97 rfl HIT.out (fun i u hu => by rw [add_at, Nat.zero_add]; exact (hst.trans hW).cell (by rw [cell_of_row _ _ _ _ _ _ H6.out]; simpa using hu) (fun x => x)))) ?_
      conv => arg 8; simp [Act.put]
      refine wpAnyH_takeL (i := 1) (v := .int .i64 (s : Int)) #[true, true, false, false] rfl (by kernel_rfl) (by kernel_rfl) (by kernel_rfl) (fun _ _ _ h => h) (by kernel_rfl) (Stay.refl _ _) (Or.inl ⟨by rfl, fun W hW => ?_⟩) ?_
      · go_simp
      conv => arg 8; simp [Act.put]
      refine wpAnyH_one #[true, true, true, false] (i := 2) rfl (by kernel_rfl) (by kernel_rfl) (fun K hK => ?_)
      go_simp
      go_wp2_with (go_at_call 44; refine (HTAG.out _).mono ?_; rintro e z7 ⟨rfl, s⟩)
      replace hst := hst.trans s
      refine hK _ _ s ?_
      clear hK
      conv => arg 8; simp [Act.put]
      refine wpAnyH_narrow (S' := Stay (fun _ => False) z7) (fun _ h => s.trans h) _ _ _ _ ?_
      clear s
      refine wpAnyH_takeL (i := 3) (v := .bool (!((d.cur q).take 8 == tagB s))) #[true, true, true, true] rfl (by kernel_rfl) (by kernel_rfl) (by kernel_rfl) (fun _ _ _ h => h) (by kernel_rfl) (Stay.refl _ _) (Or.inl ⟨by rfl, fun W hW => ?_⟩) ?_
      · have q1 := fun W => HEQ.out W
        go_simp
      conv => arg 8; simp [Act.put]
      refine wpAnyH_done (by kernel_rfl) ?_ _
      have HS7 := Lib.hid (HS6.out.trans hst)
      have HST7 := Lib.hid (HST.out.trans HS7.out)
      have HSLC := Lib.hid (show Slc z7 (.slice (some ⟨g3, 8, none⟩) ((d.cur q).drop 8).length (c3 - 8)) ((d.cur q).drop 8) from ⟨_, _, rfl, fun _ => ⟨_, rfl, fun i u hu => by
          rw [add_at]
          refine (S26.out.trans hst).cell (HC3.out (8 + i) u ?_) (fun x => x)
          rw [← hu]
          simp [cellsB]⟩, (fun e => by cases e), by rw [List.length_drop, HCUR.out q]; omega, by omega⟩)
      have hl56 : ((d.cur q).drop 8).length = 56 := by rw [List.length_drop, HCUR.out q]
      rw [hl56] at HSLC
      have HOZ := Lib.hid (HO.out.stay0 HS7.out)
      have hrz : r ≤ z7.heap.size := by
        have h1 := HST7.out.size
        have h2 := HW0.out.size
        have h3 := HR.out
        omega
      obtain ⟨i0, hi0, hz0, hz1, hz2⟩ := info_parts Pk.info5
      have HI := Lib.hid hi0
      have HZ0 := Lib.hid hz0
      have HZ1 := Lib.hid hz1
      have HZ2 := Lib.hid hz2
      have HDR := Lib.hid (drop_at HBQ.out)
      have hpl := HPL.out
      clear hi0 hz0 hz1 hz2 hst c0 c1 c2
      by_cases htg : (d.cur q).take 8 = tagB s
      · have hb : ((d.cur q).take 8 == tagB s) = true := beq_iff_eq.2 htg
        rw [hb]
        have HT := Lib.hid (show takeT s B = (pre ++ (d.cur q).drop 8) ++ takeT s (B.drop (j + 1)) by
          rw [HPRE.out, HDR.out, takeT, if_pos htg, List.append_assoc])
        clear htg hb
        go_wp2_with (
          at_builtin
          refine Pk.wpList_append_slc rfl (.tmp 43) (.tmp 44) 36 rfl r i0 Tryd.underlying36 HI.out HZ0.out HZ1.out HZ2.out _ _ pre ((d.cur q).drop 8) rfl rfl HOZ.out ?hsrc ?elen ?ebase ?_
          case hsrc => exact HSLC.out
          case elen => rw [hl56]; omega
          case ebase => exact hrz
          intro v4 w4 ho4 hg4 hob4
          have HS4 := Lib.hid (show Stay (fun _ => False) w0 w4 from Pk.stay_seal (X := fun q => some q = (Value.slice va pre.length vc).ownBlock) ((HST7.out.mono (fun _ x => x.elim)).trans (Stay.grown hg4 (fun q e => e.symm))) (fun q hq => by have h1 := (HOW.out q hq.symm); exact h1))
          have HO4 := Lib.hid ho4
          have HOB4 := Lib.hid (show ∀ k, v4.ownBlock = some k → w0.heap.size ≤ k from fun k hk => by rcases hob4 with h | h; exact HOW.out k (h ▸ hk); rw [h] at hk; cases hk; exact HST7.out.size)
          clear ho4 hg4)
        go_roundw
        case rel => exact ⟨j + 1, _, by omega, by go_num, HT, Lib.hid (by rw [List.length_append, hl56]; omega), HO4, HOB4, HS4⟩
        case measure => simp [valI]; omega
      · have hb : ((d.cur q).take 8 == tagB s) = false := by simpa using htg
        rw [hb]
        have HT := Lib.hid (show takeT s B = pre by
          rw [HPRE.out, HDR.out, takeT, if_neg htg, List.append_nil])
        clear htg hb
        go_wp2
        go_ret2
        exact ⟨_, rfl, by rw [HT.out, ← HR.out]; exact HOZ.out, HW0.out.trans HST7.out⟩
    · have hjm : j = most := by omega
      have HBD := Lib.hid (show takeT s B = pre by
        have h1 := HPRE.out
        rw [List.drop_of_length_le (by rw [HBL.out]; omega)] at h1
        simpa [takeT] using h1)
      go_wp2
      go_ret2
      exact ⟨_, rfl, by rw [HBD.out, ← HR.out]; exact HO.out, HW0.out.trans HST.out⟩

end Go.Proofs.YthbcgimmbcdnmaaDoor.Lo
