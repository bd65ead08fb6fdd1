/-
  delta: a part's bytes.
-/
import Derived.Test.YtnlknnhibnfhcaaDoorDeI
namespace Go.Proofs.YtnlknnhibnfhcaaDoor.De
open Go.RowKit Pk
set_option maxRecDepth 100000

/-- A part of a block, by numbers from 0 on. -/
theorem run_partN (w : World) (g f n : Nat) (h1 : 0 < n) (h : f + n ≤ 64) :
    (Instr.sliceAt 23 (.pointer (some ⟨g, 0, none⟩)) (some (.int .i64 (f : Int))) (some (.int .i64 ((f : Int) + (n : Int)))) none).run Tryd.prog w = .ok (.slice (some ⟨g, f, none⟩) n (64 - f)) w := by
  rw [run_part w g (f : Int) ((f : Int) + (n : Int)) (by omega) (by omega) (by omega)]
  rw [if_neg (by omega), show ((f : Int)).toNat = f by omega, show ((f : Int) + (n : Int)).toNat = f + n by omega, show f + n - f = n by omega]

set_option maxHeartbeats 4000000 in
theorem bytesof_any (w : World) (a : List UInt8) (q : Po) (ha : a.length = 64) (hs : Slc w q.x q.p.b) (hi : I64q q.p) :
    Calls Tryd.prog 27 #[arrV a, poV q] w fun e w' => (∃ v, e = .returned (.tuple #[v, errV (partE q.p)]) ∧ Slc w' v (if partE q.p = 0 then ptBytes a q.p else [])) ∧ Stay (fun _ => False) w w' := by
  obtain ⟨⟨cp, f, n, b⟩, x⟩ := q
  dsimp only at hs hi ⊢
  obtain ⟨f1, f2, n1, n2⟩ := hi
  dsimp only at f1 f2 n1 n2
  obtain ⟨xa, xc, rfl⟩ := Slc.form hs
  have H1 := Lib.hid ((BAt.new w 23 a).stay0 (Stay.alloc _ (.cells (poC ⟨⟨cp, f, n, b⟩, .slice xa b.length xc⟩).toArray 49)))
  have HSL := Lib.hid (((hs.stay0 (Stay.alloc _ (.cells (cellsB a).toArray 23)))).stay0 (Stay.alloc _ (.cells (poC ⟨⟨cp, f, n, b⟩, .slice xa b.length xc⟩).toArray 49)))
  have HS := Lib.hid ((Stay.alloc (X := fun _ => False) w (.cells (cellsB a).toArray 23)).trans (Stay.alloc _ (.cells (poC ⟨⟨cp, f, n, b⟩, .slice xa b.length xc⟩).toArray 49)))
  have HA := Lib.hid ha
  clear hs ha
  have nilS : ∀ W : World, Slc W (.slice none 0 0) [] := fun W => ⟨none, 0, rfl, fun h => absurd h (Nat.lt_irrefl 0), fun _ => rfl, Nat.le_refl _, by decide⟩
  have HNS := Lib.hid nilS
  clear nilS
  unfold arrV poV poC
  unfold poC at H1 HSL HS
  cases cp
  · by_cases hb : b = []
    · subst hb
      have hE : partE ⟨false, f, n, []⟩ = 3 := by simp [partE]
      rw [hE]
      unfold errV errI
      go_enter Tryd.func27, Tryd.ntmps27
      go_wp2
      go_ret2
      exact ⟨⟨_, rfl, HNS.out _⟩, HS.out⟩
    · have hE : partE ⟨false, f, n, b⟩ = 0 := by simp [partE, hb]
      rw [hE, if_pos rfl]
      have hz : ((b.length : Int) == 0) = false := beq_eq_false_iff_ne.2 (by have := List.length_pos_iff.2 hb; omega)
      unfold errV
      go_enter Tryd.func27, Tryd.ntmps27
      go_wp2
      go_ret2
      exact ⟨⟨_, rfl, HSL.out⟩, HS.out⟩
  · by_cases hbad : f < 0 ∨ n < 1 ∨ 64 - f < n
    · have hE : partE ⟨true, f, n, b⟩ = 4 := by simp [partE, hbad]
      rw [hE]
      unfold errV errI
      by_cases hf : f < 0
      · go_enter Tryd.func27, Tryd.ntmps27
        go_wp2
        go_ret2
        exact ⟨⟨_, rfl, HNS.out _⟩, HS.out⟩
      · by_cases hn : n < 1
        · go_enter Tryd.func27, Tryd.ntmps27
          go_wp2
          go_ret2
          exact ⟨⟨_, rfl, HNS.out _⟩, HS.out⟩
        · have hl : 64 - f < n := by omega
          go_enter Tryd.func27, Tryd.ntmps27
          go_wp2
          go_ret2
          exact ⟨⟨_, rfl, HNS.out _⟩, HS.out⟩
    · have hE : partE ⟨true, f, n, b⟩ = 0 := by simp [partE, hbad]
      rw [hE, if_pos rfl]
      unfold errV
      obtain ⟨f', rfl⟩ : ∃ f' : Nat, f = (f' : Int) := ⟨f.toNat, by omega⟩
      obtain ⟨n', rfl⟩ : ∃ n' : Nat, n = (n' : Int) := ⟨n.toNat, by omega⟩
      have e1 : ¬ ((f' : Int) < 0) := by omega
      have e2 : ¬ ((n' : Int) < 1) := by omega
      have e3 : ¬ (64 - (f' : Int) < (n' : Int)) := by omega
      have ks := fun W => run_partN W w.heap.size f' n' (by omega) (by omega)
      go_enter Tryd.func27, Tryd.ntmps27
      go_wp2
      go_ret2
      refine ⟨⟨_, rfl, ?_⟩, HS.out⟩
      unfold ptBytes
      rw [if_pos rfl, show ((f' : Int)).toNat = f' by omega, show ((n' : Int)).toNat = n' by omega]
      exact H1.out.part (by rw [HA.out]; omega) (by omega) (by omega)
end Go.Proofs.YtnlknnhibnfhcaaDoor.De
