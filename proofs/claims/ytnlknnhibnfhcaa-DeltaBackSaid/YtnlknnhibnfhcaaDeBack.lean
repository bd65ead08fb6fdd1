/-
  delta's laws: DeltaBack, walked.
-/
import Derived.Test.YtnlknnhibnfhcaaDeW
namespace Go.Proofs.Ytnlknnhibnfhcaa.De
open Go.RowKit Pk
set_option maxRecDepth 100000

theorem spell_one {n : Nat} (h : n < 128) : (spellB n).length = 1 := by
  rw [length_spellB]
  unfold kOf
  rw [if_pos h]
theorem enc_sum : ∀ l : List Pt, (∀ q ∈ l, q.Good) → (l.flatMap ptB).length = 3 * (l.filter (·.cp)).length + 2 * (l.filter (fun q => !q.cp)).length + ((l.filter (fun q => !q.cp)).map (·.b.length)).sum
  | [], _ => rfl
  | q :: r, h => by
    have ih := enc_sum r (fun q hq => h q (List.mem_cons_of_mem _ hq))
    rw [List.flatMap_cons, List.length_append, ih]
    rcases h q (List.mem_cons_self ..) with ⟨c, h2, h3, h4, h5⟩ | ⟨c, h2, h3, h4, h5⟩
    · have e : (ptB q).length = 3 := by
        unfold ptB
        obtain ⟨f', hf⟩ : ∃ f' : Nat, q.f = (f' : Int) := ⟨q.f.toNat, by omega⟩
        obtain ⟨n', hn⟩ : ∃ n' : Nat, q.n = (n' : Int) := ⟨q.n.toNat, by omega⟩
        rw [if_pos c, hf, hn, u64N_nat (by omega), u64N_nat (by omega), List.length_append, List.length_append, spell_one (by omega), spell_one (by omega)]
        rfl
      rw [e]
      simp [c]
      omega
    · have e : (ptB q).length = 2 + q.b.length := by
        unfold ptB bytesB
        rw [if_neg (by simp [c]), List.length_append, List.length_append, spell_one (by omega)]
        simp [boolB]
        omega
      rw [e]
      simp [c]
      omega
theorem enc_len {a b : List UInt8} (ha : a.length = 64) (hb : b.length = 64) : (encodeN (opsN a b)).length ≤ 131 := by
  have hm := made_ops ha hb
  have h1 := enc_sum _ hm.good
  obtain ⟨h2, h3⟩ := apart_count a _ false hm.good ha hm.apart
  have h4 := (ops_len ha hb).1
  rw [hm.is, List.length_take] at h2
  unfold encodeN
  rw [List.length_append, spell_one (by omega)]
  simp at h3
  omega

set_option maxHeartbeats 2000000 in
theorem back_walk (w : World) (a b : List UInt8) (ha : a.length = 64) (hb : b.length = 64) :
    Calls Try.prog 4 #[arrV a, arrV b] w fun e w' => e = .returned (.bool true) ∧ Stay (fun _ => False) w w' := by
  have H1 := Lib.hid ((BAt.new w 23 a).stay0 (Stay.alloc _ (.cells (cellsB b).toArray 23)))
  have H2 := Lib.hid (BAt.new (w.alloc (.cells (cellsB a).toArray 23)) 23 b)
  have HS := Lib.hid ((Stay.alloc (X := fun _ => False) w (.cells (cellsB a).toArray 23)).trans (Stay.alloc _ (.cells (cellsB b).toArray 23)))
  have HA := Lib.hid ha
  have HB := Lib.hid hb
  have HEL := Lib.hid (enc_len ha hb)
  have HPD := Lib.hid (patch_diff ha hb)
  obtain ⟨N, hN⟩ : ∃ N, N = encodeN (opsN a b) := ⟨_, rfl⟩
  have HN := Lib.hid hN
  rw [← hN] at HEL HPD
  clear ha hb hN
  unfold arrV
  go_enter Try.func4, Try.ntmps4
  go_wp2_with (first
    | (refine arr_64.load rfl (.tmp 2) rfl w.heap.size rfl a HA.out H1.out ?_)
    | (refine arr_64.load rfl (.tmp 3) rfl (w.heap.size + 1) rfl b HB.out (by simpa using H2.out) ?_))
  have H2' := H2.out
  rw [show (w.alloc (.cells (cellsB a).toArray 23)).heap.size = w.heap.size + 1 by simp] at H2'
  obtain ⟨w0, hw0⟩ : ∃ w0, (w.alloc (.cells (cellsB a).toArray 23)).alloc (.cells (cellsB b).toArray 23) = w0 := ⟨_, rfl⟩
  rw [hw0] at H1 HS H2' ⊢
  have K1 := Lib.hid H1.out
  have K2 := Lib.hid H2'
  clear H1 H2 H2' hw0
  refine (diff_any w0 a b HA.out HB.out).mono ?_
  rintro e w1 ⟨v, rfl, how, hs1⟩
  rw [← HN.out] at how
  obtain ⟨va, vc, rfl⟩ := how.form
  have HO := Lib.hid how.slc
  have K11 := Lib.hid (K1.out.stay0 hs1)
  have K21 := Lib.hid (K2.out.stay0 hs1)
  have HS1 := Lib.hid (HS.out.trans hs1)
  clear how hs1
  go_wp2_with (first
    | (refine arr_64.load rfl (.tmp 2) rfl w.heap.size rfl a HA.out K11.out ?_))
  refine (patch_any w1 a _ N HA.out HO.out (by have := HEL.out; omega)).mono ?_
  rintro e w3 ⟨rfl, hs3⟩
  rw [HPD.out, show resB (.ok b) = b from rfl, show errV (resE (.ok b)) = .nilIface from rfl]
  have K23 := Lib.hid (K21.out.stay0 hs3)
  have hz1 := HS1.out.size
  have HS3 := Lib.hid (HS1.out.trans hs3)
  have hq := BAt.new w3 23 z64
  have hs4 : Stay (fun _ => False) w3 (w3.alloc (.cells (cellsB z64).toArray 23)) := Stay.alloc _ _
  obtain ⟨w4, hw4⟩ : ∃ w4, w3.alloc (.cells (cellsB z64).toArray 23) = w4 := ⟨_, rfl⟩
  rw [hw4] at hq hs4
  have HQ := Lib.hid hq
  have HS4 := Lib.hid (HS3.out.trans hs4)
  have K24 := Lib.hid (K23.out.stay0 hs4)
  have W4 := Lib.hid hw4
  have hz3 := HS3.out.size
  have hlt3 := K23.out.lt
  have hle : decide (N.length ≤ 131) = true := decide_eq_true HEL.out
  have hle' : (N.length : Int) ≤ 131 := by have := HEL.out; omega
  have keq := fun W => eq_blk W b b HB.out HB.out
  rw [beq_self_eq_true] at keq
  unfold arrV at keq
  clear hs3 hq hs4 hw4
  unfold arrV
  go_wp2_with (first
    | (with_reducible refine arr_64.alloc rfl rfl ?_; rw [show List.replicate 64 0 = z64 from rfl, W4.out])
    | (refine arr_64.store rfl (.tmp 6) (.tmp 15) rfl w3.heap.size rfl z64 b rfl len_z64 HB.out HQ.out ?_
       intro w5 h5 s5
       have HS5 := Lib.hid ((HS4.out.mono (Y := fun j => w.heap.size ≤ j) (fun _ x => x.elim)).trans (s5.mono (fun j e => by have e' : j = w3.heap.size := e; omega)))
       have HLD := Lib.hid (arr_64.run_load HB.out h5)
       have HLD2 := Lib.hid (arr_64.run_load HB.out (K24.out.stay s5 (fun e => by have e' : w.heap.size + 1 = w3.heap.size := e; omega)))
       clear h5 s5)
    | (refine wpList_load_run rfl 23 (.tmp 6) rfl ⟨w3.heap.size, 0, none⟩ rfl _ HLD.out ?_; unfold arrV)
    | (refine wpList_load_run rfl 23 (.tmp 3) rfl ⟨w.heap.size + 1, 0, none⟩ rfl _ HLD2.out ?_; unfold arrV))
  refine (sure_any _).mono ?_
  rintro e w6 ⟨rfl, hs6⟩
  go_wp2
  go_ret
  exact ⟨rfl, stay_seal (HS5.out.trans (hs6.mono (fun _ x => x.elim))) (fun j hj => hj)⟩
end Go.Proofs.Ytnlknnhibnfhcaa.De
