/-
  delta's laws: what must come whatever the input is.
-/
import Derived.Test.YtnlknnhibnfhcaaDeU
namespace Go.Proofs.Ytnlknnhibnfhcaa.De
open Go.RowKit Pk
set_option maxRecDepth 100000

/-- A block of one byte and noughts. -/
def oneB (c : UInt8) : List UInt8 := c :: List.replicate 63 0
theorem len_one (c : UInt8) : (oneB c).length = 64 := by simp [oneB]

theorem po_of {L : List Po} {f n : Nat} (h : L.map Po.p = [copyP f n]) : ∃ x, L = [⟨copyP f n, x⟩] := by
  match L, h with
  | [⟨p, x⟩], h =>
    have : p = copyP f n := by simpa using h
    exact ⟨x, by rw [this]⟩

theorem eq_three (W : World) : (Op.equalIn 10000 23 (.agg (cellsB (oneB 3)).toArray) (.agg #[.int .u8 3, .int .u8 0, .int .u8 0, .int .u8 0, .int .u8 0, .int .u8 0, .int .u8 0, .int .u8 0, .int .u8 0, .int .u8 0, .int .u8 0, .int .u8 0, .int .u8 0, .int .u8 0, .int .u8 0, .int .u8 0, .int .u8 0, .int .u8 0, .int .u8 0, .int .u8 0, .int .u8 0, .int .u8 0, .int .u8 0, .int .u8 0, .int .u8 0, .int .u8 0, .int .u8 0, .int .u8 0, .int .u8 0, .int .u8 0, .int .u8 0, .int .u8 0, .int .u8 0, .int .u8 0, .int .u8 0, .int .u8 0, .int .u8 0, .int .u8 0, .int .u8 0, .int .u8 0, .int .u8 0, .int .u8 0, .int .u8 0, .int .u8 0, .int .u8 0, .int .u8 0, .int .u8 0, .int .u8 0, .int .u8 0, .int .u8 0, .int .u8 0, .int .u8 0, .int .u8 0, .int .u8 0, .int .u8 0, .int .u8 0, .int .u8 0, .int .u8 0, .int .u8 0, .int .u8 0, .int .u8 0, .int .u8 0, .int .u8 0, .int .u8 0])).run Try.prog W = .ok true W := by
  have h := eq_blk W (oneB 3) (oneB 3) (len_one 3) (len_one 3)
  rw [beq_self_eq_true] at h
  exact h

set_option maxHeartbeats 2000000 in
theorem sure_any (w : World) : Calls Try.prog 14 #[] w fun e w' => e = .returned (.bool true) ∧ Stay (fun _ => False) w w' := by
  go_enter Try.func14, Try.ntmps14
  go_wp2_with fail
  refine (ops_any w (oneB 1) (oneB 1) (len_one 1) (len_one 1)).mono ?_
  rintro e w1 ⟨v, rfl, ⟨L, hL, hv⟩, hs1⟩
  rw [ops_self (len_one 1)] at hL
  obtain ⟨x, rfl⟩ := po_of hL
  obtain ⟨a0, c0, rfl, hc1, hc2, hcell⟩ := hv.ex
  obtain ⟨g, o, rfl, hcl⟩ := hcell (by simp)
  have HCL := Lib.hid (hcl 0 _ rfl)
  clear hL hv hcell hcl hc1 hc2
  go_wp2_with fail
  refine (diff_any w1 (oneB 2) (oneB 3) (len_one 2) (len_one 3)).mono ?_
  rintro e w2 ⟨v2, rfl, how, hs2⟩
  have hlen : (encodeN (opsN (oneB 2) (oneB 3))).length ≤ 140737488355328 := by
    have h1 := sz_all (opsN (oneB 2) (oneB 3))
    have h2 := (ops_len (len_one 2) (len_one 3)).2
    have h3 := len_spell (opsN (oneB 2) (oneB 3)).length
    unfold encodeN
    rw [List.length_append]
    omega
  obtain ⟨b, hb⟩ : ∃ b, b = encodeN (opsN (oneB 2) (oneB 3)) := ⟨_, rfl⟩
  have hpd := patch_diff (len_one 2) (len_one 3)
  rw [← hb] at how hlen hpd
  obtain ⟨a2, c2, rfl⟩ := how.form
  have HO := Lib.hid how.slc
  have HP := Lib.hid hpd
  have HS2 := Lib.hid (hs1.trans hs2)
  clear how hb hpd
  go_wp2_with fail
  refine (patch_any w2 (oneB 2) _ b (len_one 2) HO.out hlen).mono ?_
  rintro e w3 ⟨rfl, hs3⟩
  rw [HP.out]
  have hz2 := HS2.out.size
  have HS3 := Lib.hid (HS2.out.trans hs3)
  have k0 : w3.cell? ⟨g, o, none⟩ = some (.bool true) := (hs2.trans hs3).cell (by have := HCL.out 0 _ rfl; simpa [copyP] using this) (fun x => x)
  have k2 : w3.cell? ⟨g, o + 2, none⟩ = some (.int .i64 64) := (hs2.trans hs3).cell (by have := HCL.out 2 _ rfl; simpa [copyP] using this) (fun x => x)
  have hq := BAt.new w3 23 z64
  have hs4 : Stay (fun _ => False) w3 (w3.alloc (.cells (cellsB z64).toArray 23)) := Stay.alloc _ _
  obtain ⟨w4, hw4⟩ : ∃ w4, w3.alloc (.cells (cellsB z64).toArray 23) = w4 := ⟨_, rfl⟩
  rw [hw4] at hq hs4
  have HQ := Lib.hid hq
  have HS4 := Lib.hid (HS3.out.trans hs4)
  have W4 := Lib.hid hw4
  have k04 := hs4.cell k0 (fun x => x)
  have k24 := hs4.cell k2 (fun x => x)
  have hz3 := HS3.out.size
  have hgl : g < w3.heap.size := World.block_lt_of_cell? w3 _ k0
  clear hs1 hs2 hs3 hq hs4 hw4 k0 k2
  rw [show resB (.ok (oneB 3)) = oneB 3 from rfl, show errV (resE (.ok (oneB 3))) = .nilIface from rfl]
  have keq := eq_three
  go_wp2_with (first
    | (with_reducible refine arr_64.alloc rfl rfl ?_; rw [show List.replicate 64 0 = z64 from rfl, W4.out])
    | (refine arr_64.store rfl (.tmp 2) (.tmp 13) rfl w3.heap.size rfl z64 (oneB 3) rfl len_z64 (len_one 3) HQ.out ?_
       intro w5 h5 s5
       have k05 := s5.cell k04 (fun e => by have e' : g = w3.heap.size := e; omega)
       have k25 := s5.cell k24 (fun e => by have e' : g = w3.heap.size := e; omega)
       have HS5 := Lib.hid ((HS4.out.mono (Y := fun j => w.heap.size ≤ j) (fun _ x => x.elim)).trans (s5.mono (fun j e => by have e' : j = w3.heap.size := e; omega)))
       have HLD := Lib.hid (arr_64.run_load (len_one 3) h5)
       clear h5 s5)
    | (refine wpList_load_run rfl 23 (.tmp 2) rfl ⟨w3.heap.size, 0, none⟩ rfl _ HLD.out ?_; unfold arrV))
  go_ret
  exact ⟨rfl, stay_seal HS5.out (fun j hj => hj)⟩
end Go.Proofs.Ytnlknnhibnfhcaa.De
