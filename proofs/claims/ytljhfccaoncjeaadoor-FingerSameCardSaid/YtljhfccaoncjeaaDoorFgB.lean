/-
  finger: Less; the document's Less; spell; Of.
-/
import Derived.Test.YtljhfccaoncjeaaDoorFgA
namespace Go.Proofs.YtljhfccaoncjeaaDoor.Fg
open Go.RowKit Ke
set_option maxRecDepth 100000

theorem split_at {p : List UInt8} {k : Nat} {a : UInt8} (h : p[k]? = some a) : p = p.take k ++ a :: p.drop (k + 1) := by
  obtain ⟨hk, rfl⟩ := List.getElem?_eq_some_iff.1 h
  rw [← List.drop_eq_getElem_cons hk, List.take_append_drop]

set_option maxHeartbeats 1000000 in
theorem less_any (w : World) (p q : List UInt8) (hp : p.length = 32) (hq : q.length = 32) :
    Calls Tryd.prog 13 #[arrV p, arrV q] w fun e w' => e = .returned (.bool (ltB p q)) ∧ Stay (fun _ => False) w w' := by
  have b1 := BAt.new w 25 p
  have b2 := BAt.new (w.alloc (.cells (cellsB p).toArray 25)) 25 q
  have b1' := b1.stay (Stay.alloc (X := fun _ => False) _ (.cells (cellsB q).toArray 25)) (fun x => x)
  have hst : Stay (fun _ => False) w ((w.alloc (.cells (cellsB p).toArray 25)).alloc (.cells (cellsB q).toArray 25)) := (Stay.alloc _ _).trans (Stay.alloc _ _)
  rw [show (w.alloc (.cells (cellsB p).toArray 25)).heap.size = w.heap.size + 1 by simp] at b2
  obtain ⟨w1, hw1⟩ : ∃ w1, (w.alloc (.cells (cellsB p).toArray 25)).alloc (.cells (cellsB q).toArray 25) = w1 := ⟨_, rfl⟩
  rw [hw1] at b1' b2 hst
  have B1 := Lib.hid (slc_of b1' hp (by decide))
  have B2 := Lib.hid (slc_of b2 hq (by decide))
  have HST := Lib.hid hst
  have HLT := Lib.hid (cmp_lt p q)
  unfold arrV
  clear b1 b2 b1' hst hp hq
  go_enter Tryd.func13, Tryd.ntmps13
  go_wp2
  clear hw1
  have C1 := Lib.hid (fun n : Nat => cmp_any (w1.drewN n) _ _ p q (B1.out.stay0 (stay_drewN _ _)) (B2.out.stay0 (stay_drewN _ _)))
  go_quiet ((go_at_call 23; exact Calls.quiet_of_same (C1.out _)))
  have hst := HST.out.trans (stay_drewN (X := fun _ => False) w1 nq)
  rw [HLT.out]
  go_wp2
  go_ret
  exact ⟨rfl, hst⟩

set_option maxHeartbeats 1000000 in
theorem rless_any (w : World) (p q : List UInt8) (hp : p.length = 32) (hq : q.length = 32) :
    Calls Tryd.prog 14 #[arrV p, arrV q] w fun e w' => e = .returned (.bool (ltB p q)) ∧ Stay (fun _ => False) w w' := by
  have b1 := BAt.new w 25 p
  have b2 := BAt.new (w.alloc (.cells (cellsB p).toArray 25)) 25 q
  have b1' := b1.stay (Stay.alloc (X := fun _ => False) _ (.cells (cellsB q).toArray 25)) (fun x => x)
  have hst : Stay (fun _ => False) w ((w.alloc (.cells (cellsB p).toArray 25)).alloc (.cells (cellsB q).toArray 25)) := (Stay.alloc _ _).trans (Stay.alloc _ _)
  rw [show (w.alloc (.cells (cellsB p).toArray 25)).heap.size = w.heap.size + 1 by simp] at b2
  obtain ⟨w1, hw1⟩ : ∃ w1, (w.alloc (.cells (cellsB p).toArray 25)).alloc (.cells (cellsB q).toArray 25) = w1 := ⟨_, rfl⟩
  rw [hw1] at b1' b2 hst
  have B1 := Lib.hid b1'
  have B2 := Lib.hid b2
  have HST := Lib.hid hst
  have HP := Lib.hid hp
  have HQ := Lib.hid hq
  unfold arrV
  clear b1 b2 b1' hst hp hq
  go_enter Tryd.func14, Tryd.ntmps14
  go_wp2
  clear hw1
  go_loopw [5] (fun i wr => ∃ k : Nat, k ≤ 32 ∧ i = .int .i64 (k : Int) ∧ p.take k = q.take k ∧ Stay (fun _ => False) w1 wr) (fun i _ => 32 - (intOf i).toNat)
  case atStart => exact ⟨0, by omega, rfl, rfl, Stay.refl _ _⟩
  case round =>
    obtain ⟨k, hk, rfl, hpq, hst⟩ := hrel
    by_cases hlt : k < 32
    · obtain ⟨a, ha⟩ : ∃ a, p[k]? = some a := ⟨_, List.getElem?_eq_getElem (by rw [HP.out]; exact hlt)⟩
      obtain ⟨b, hb⟩ : ∃ b, q[k]? = some b := ⟨_, List.getElem?_eq_getElem (by rw [HQ.out]; exact hlt)⟩
      have c1 := (B1.out.stay hst (fun x => x)).c k
      have c2 := (B2.out.stay hst (fun x => x)).c k
      rw [show (cellsB p)[k]? = some (.int .u8 (a.toNat : Int)) by simp [cellsB, ha, byteV]] at c1
      rw [show (cellsB q)[k]? = some (.int .u8 (b.toNat : Int)) by simp [cellsB, hb, byteV]] at c2
      have HK := Lib.hid hlt
      have HT := Lib.hid hpq
      have HS := Lib.hid hst
      have HA := Lib.hid ha
      have HB := Lib.hid hb
      have q0 : (k : Int) < 32 := by omega
      clear hlt hpq hst ha hb
      by_cases e : a = b
      · subst e
        go_wp2
        go_quiet (fail)
        have hst := HS.out.trans (stay_drewN (X := fun _ => False) wr nq)
        clear c1 c2
        go_wp2
        first
          | exact ⟨⟨k + 1, by omega, by go_num, by rw [List.take_add_one, List.take_add_one, HT.out, HA.out, HB.out], hst⟩, by simp [intOf]; omega⟩
          | (go_round
             case rel => exact ⟨k + 1, by omega, by go_num, by rw [List.take_add_one, List.take_add_one, HT.out, HA.out, HB.out], hst⟩
             case measure => simp [intOf]; omega)
      · have e' : ((a.toNat : Int) == (b.toNat : Int)) = false := by
          apply beq_eq_false_iff_ne.2
          intro h
          exact e (UInt8.toNat_inj.1 (by omega))
        have HE := Lib.hid e
        clear e
        go_wp2
        go_quiet (fail)
        have hst1 := stay_drewN (X := fun _ => False) wr nq
        generalize wr.drewN nq = w2 at *
        have c1 := hst1.cell c1 (fun x => x)
        have c2 := hst1.cell c2 (fun x => x)
        have HS := Lib.hid (HS.out.trans hst1)
        clear hst1
        go_wp2
        go_quiet (fail)
        have hst1 := HST.out.trans (HS.out.trans (stay_drewN (X := fun _ => False) w2 nq))
        go_wp2
        go_ret
        refine ⟨?_, hst1⟩
        rw [split_at HA.out, split_at HB.out, HT.out, lt_at _ _ _ _ _ HE.out]
        simp [UInt8.lt_iff_toNat_lt]
    · obtain rfl : k = 32 := by omega
      have HS := Lib.hid hst
      have e : p = q := by
        rw [List.take_of_length_le (by rw [HP.out]; omega), List.take_of_length_le (by rw [HQ.out]; omega)] at hpq
        exact hpq
      have HE := Lib.hid e
      clear hst hpq e
      go_wp2
      go_ret
      exact ⟨by rw [HE.out, lt_self]; rfl, HST.out.trans HS.out⟩
end Go.Proofs.YtljhfccaoncjeaaDoor.Fg
