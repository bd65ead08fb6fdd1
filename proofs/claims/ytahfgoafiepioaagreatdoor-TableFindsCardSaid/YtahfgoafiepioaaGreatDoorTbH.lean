/-
  table: what was laid, taken off by a reader; a part's entries.
-/
import Derived.Test.YtahfgoafiepioaaGreatDoorGaT
import Derived.Test.YtahfgoafiepioaaGreatDoorGaH
namespace Go.Proofs.YtahfgoafiepioaaGreatDoor.Tb
open Go.RowKit
open Pk (stay_seal)
open Me (En EnS EnO Box enC enV norm ltB Sorted getL posN hasB sizeL)
open Pk (spellB bytesB boolB textB takeB numB cntB truB RS Slc Owns RdAt)
set_option maxRecDepth 100000
set_option linter.unusedVariables false

section
variable (X : Nat → Prop) (w : World) (p : Nat)
theorem text_off (b r : List UInt8) (h : RdAt X w p ⟨bytesB b ++ r, 0⟩) (hl : (bytesB b ++ r).length ≤ 140737488355328) :
    Calls Tryz.prog 27 #[.pointer (some ⟨p, 0, none⟩), .int .i64 9223372036854775807] w fun e w' => e = .returned (.string ⟨b.toArray⟩) ∧ RdAt X w' p ⟨r, 0⟩ ∧ Stay (fun k => k = p) w w' := by
  have h1 := (len_bytesB b).1
  rw [List.length_append] at hl
  have h2 := Pk.rtext_any X w p _ 9223372036854775807 h (by show (bytesB b ++ r).length ≤ _; rw [List.length_append]; omega) (by decide)
  rw [take_text b r _ (by omega) (by omega)] at h2
  exact h2
theorem bytes_off (b r : List UInt8) (h : RdAt X w p ⟨bytesB b ++ r, 0⟩) (hl : (bytesB b ++ r).length ≤ 140737488355328) :
    Calls Tryz.prog 28 #[.pointer (some ⟨p, 0, none⟩), .int .i64 9223372036854775807] w fun e w' => (∃ v, e = .returned v ∧ Owns w.heap.size w' v b) ∧ RdAt X w' p ⟨r, 0⟩ ∧ Stay (fun k => k = p) w w' := by
  have h1 := (len_bytesB b).1
  rw [List.length_append] at hl
  have h2 := Pk.rbytes_any X w p _ 9223372036854775807 h (by show (bytesB b ++ r).length ≤ _; rw [List.length_append]; omega) (by decide)
  rw [take_text b r _ (by omega) (by omega)] at h2
  exact h2
theorem bool_off (g : Bool) (r : List UInt8) (h : RdAt X w p ⟨boolB g ++ r, 0⟩) :
    Calls Tryz.prog 99 #[.pointer (some ⟨p, 0, none⟩)] w fun e w' => e = .returned (.bool g) ∧ RdAt X w' p ⟨r, 0⟩ ∧ Stay (fun k => k = p) w w' := by
  have h2 := Pk.rbool_any X w p _ h
  rw [take_tru g r] at h2
  exact h2
theorem cnt_off (n : Nat) (r : List UInt8) (most : Int) (h : RdAt X w p ⟨spellB n ++ r, 0⟩) (hn : (n : Int) ≤ most) (hm : most ≤ 9223372036854775807) (hr : n ≤ r.length) (hl : (spellB n ++ r).length ≤ 140737488355328) :
    Calls Tryz.prog 26 #[.pointer (some ⟨p, 0, none⟩), .int .i64 most] w fun e w' => e = .returned (.int .i64 (n : Int)) ∧ RdAt X w' p ⟨r, 0⟩ ∧ Stay (fun k => k = p) w w' := by
  have h2 := Pk.rcount_any X w p _ most h hl hm
  rw [take_cnt n r most hn hm hr] at h2
  exact h2
theorem uint_off (n most : Nat) (r : List UInt8) (h : RdAt X w p ⟨spellB n ++ r, 0⟩) (hn : n ≤ most) (h64 : n < 2 ^ 64) :
    Calls Tryz.prog 25 #[.pointer (some ⟨p, 0, none⟩), .int .u64 most] w fun e w' => e = .returned (.int .u64 (n : Int)) ∧ RdAt X w' p ⟨r, 0⟩ ∧ Stay (fun k => k = p) w w' := by
  have h2 := Pk.ruint_any X w p _ most h
  rw [take_num n most r h64 hn] at h2
  exact h2
theorem done_off (h : RdAt X w p ⟨[], 0⟩) : Calls Tryz.prog 30 #[.pointer (some ⟨p, 0, none⟩)] w fun e w' => e = .returned .nilIface ∧ w = w' :=
  Pk.rdone_any X w p _ h
end
theorem rows_drop {L : List En} {j : Nat} {e : En} (he : L[j]? = some e) : rowsB (L.drop j) = bytesB e.k ++ (boolB e.g ++ (bytesB (norm e).v ++ rowsB (L.drop (j + 1)))) := by
  obtain ⟨h1, h2⟩ := List.getElem?_eq_some_iff.1 he
  rw [List.drop_eq_getElem_cons h1, h2, rowsB_cons, entB]
  simp only [List.append_assoc]
theorem rows_drop_le (L : List En) (j : Nat) : (rowsB (L.drop j)).length ≤ (rowsB L).length := by
  have : rowsB L = rowsB (L.take j) ++ rowsB (L.drop j) := by rw [← rowsB_append, List.take_append_drop]
  rw [this, List.length_append]
  omega

set_option maxHeartbeats 4000000 in
theorem take_any (w : World) (x : Value) (L : List En) (hx : Slc w x (spellB L.length ++ rowsB L)) (hl : L.length ≤ 1000000) (hz : sizeL L ≤ 10000000000000) (hn : ∀ e ∈ L, norm e = e) :
    Calls Tryz.prog 78 #[x] w fun e w' => (∃ v, e = .returned (.tuple #[v, .nilIface]) ∧ EnO w.heap.size w' v L) ∧ Stay (fun _ => False) w w' := by
  have hrl := len_rowsB L
  have hsp := (len_spellB L.length).2
  have hlen : (spellB L.length ++ rowsB L).length ≤ 140737488355328 := by rw [List.length_append]; omega
  have HDL := Lib.hid (show ∀ j, (rowsB (L.drop j)).length ≤ 100000000000000 from fun j => by have := rows_drop_le L j; omega)
  have HNN := Lib.hid hn
  have HX := Lib.hid hx
  clear hx hn
  go_enter Tryz.func78, Tryz.ntmps78
  go_wp2_with fail
  refine (Pk.read_cap w x _ HX.out hlen).mono ?_
  rintro e w1 ⟨p, rfl, hr1, hs1⟩
  have hz1 := hs1.size
  go_wp2_with fail
  refine (cnt_off _ w1 p L.length (rowsB L) _ hr1 (by omega) (by omega) (by omega) hlen).mono ?_
  rintro e w2 ⟨rfl, hr2, hs2⟩
  obtain ⟨X, hXd⟩ : ∃ X : Nat → Prop, X = fun k => w.heap.size ≤ k ∧ k < w1.heap.size := ⟨_, rfl⟩
  have HX1 := Lib.hid (show ∀ k, X k → w.heap.size ≤ k ∧ k < w1.heap.size by intro k h; rw [hXd] at h; exact h)
  rw [← hXd] at hr2
  have hpX := hr2.own
  have HR2 := Lib.hid hr2
  have hz2 := hs2.size
  have HS2 := Lib.hid (stay_seal (X := fun k => w.heap.size ≤ k) ((hs1.mono (fun _ x => x.elim)).trans (hs2.mono (fun k hk => by have := (HX1.out p hpX).1; omega))) (fun k hk => hk))
  have hcm : (L.length : Int) ≤ 1000000 := by omega
  clear hr1 hs1 hr2 hs2 hXd hlen hrl hsp hz HX
  go_wp2
  go_loopw [5, 10] (fun v i wr => ∃ k : Nat, k ≤ L.length ∧ i = .int .i64 (k : Int) ∧ Hid (EnO w1.heap.size wr v (L.take k)) ∧ Hid (RdAt X wr p ⟨rowsB (L.drop k), 0⟩) ∧ Stay (fun _ => False) w wr ∧ w1.heap.size ≤ wr.heap.size) (fun _ i _ => L.length - (intOf i).toNat)
  case atStart => exact ⟨0, Nat.zero_le _, rfl, Lib.hid (EnO.nil _ _), HR2, HS2.out, hz2⟩
  case round =>
    obtain ⟨k, hk, rfl, ho, hr, hst, hzr⟩ := hrel
    have HT := Lib.hid hst
    clear hst
    have hpw := HX1.out p hpX
    by_cases hlt : k < L.length
    · obtain ⟨e, he⟩ : ∃ e, L[k]? = some e := ⟨_, List.getElem?_eq_getElem (by omega)⟩
      have hne := HNN.out e (List.mem_of_getElem? he)
      have hrw := rows_drop he
      rw [hne] at hrw
      have hdl := HDL.out k
      have HTK := Lib.hid (show L.take (k + 1) = L.take k ++ [e] by
        obtain ⟨h1, h2⟩ := List.getElem?_eq_some_iff.1 he
        rw [List.take_succ_eq_append_getElem h1, h2])
      have hkl : (L.take k).length = k := by rw [List.length_take]; omega
      obtain ⟨M, hM⟩ : ∃ M, M = L.take k := ⟨_, rfl⟩
      rw [← hM] at ho HTK hkl
      have HKL := Lib.hid hkl
      obtain ⟨va, vc, rfl⟩ := ho.out.form
      rw [hkl] at ho ⊢
      have hr' := hr.out
      rw [hrw] at hr'
      rw [hrw] at hdl
      have HRW := Lib.hid hr'
      obtain ⟨R, hR⟩ : ∃ R, R = rowsB (L.drop (k + 1)) := ⟨_, rfl⟩
      rw [← hR] at HRW hdl
      have HRR := Lib.hid hR
      have HL2 := Lib.hid (show (boolB e.g ++ (bytesB e.v ++ R)).length ≤ 100000000000000 by rw [List.length_append] at hdl; omega)
      have HL3 := Lib.hid (show (bytesB e.v ++ R).length ≤ 100000000000000 by have := HL2.out; rw [List.length_append] at this; omega)
      have HL1 := Lib.hid hdl
      clear he hne hrw hM hkl hr' hdl hr hR
      go_wp2_with fail
      refine (text_off X wr p e.k _ HRW.out (by have := HL1.out; omega)).mono ?_
      rintro y w3 ⟨rfl, hr3, hs3⟩
      have HR3 := Lib.hid hr3
      have HO3 := Lib.hid (ho.out.stay hs3 (fun j hj e => by have := (ho.out.lt j hj).1; omega))
      have HT3 := Lib.hid hs3
      have hz3 := hs3.size
      clear hr3 hs3
      go_wp2_with fail
      refine (bool_off X w3 p e.g _ HR3.out).mono ?_
      rintro y w4 ⟨rfl, hr4, hs4⟩
      have HR4 := Lib.hid hr4
      have HO4 := Lib.hid (HO3.out.stay hs4 (fun j hj e => by have := (HO3.out.lt j hj).1; omega))
      have HT4 := Lib.hid (HT3.out.trans hs4)
      have hz4 := hs4.size
      clear hr4 hs4
      go_wp2_with fail
      refine (text_off X w4 p e.v R HR4.out (by have := HL3.out; omega)).mono ?_
      rintro y w5 ⟨rfl, hr5, hs5⟩
      have HR5 := Lib.hid hr5
      have HO5 := Lib.hid (HO4.out.stay hs5 (fun j hj e => by have := (HO4.out.lt j hj).1; omega))
      have HT5 := Lib.hid (HT4.out.trans hs5)
      have hz5 := hs5.size
      have hs6 : Stay (fun _ => False) w5 (w5.alloc (.cells (enC e).toArray 27)) := Stay.alloc _ _
      have hb6 := Box.new w5 e
      obtain ⟨w6, hw6⟩ : ∃ w6, w5.alloc (.cells (enC e).toArray 27) = w6 := ⟨_, rfl⟩
      rw [hw6] at hs6 hb6
      have W6 := Lib.hid (show w5.alloc (.cells #[.string ⟨e.k.toArray⟩, .string ⟨e.v.toArray⟩, .bool e.g] 27) = w6 from hw6)
      have HB6 := Lib.hid (hb6.one 1 (by omega) (by decide))
      have HO6 := Lib.hid (HO5.out.stay0 hs6)
      have HR6 := Lib.hid (HR5.out.stay0 hs6)
      have HT6 := Lib.hid (HT5.out.trans (hs6.mono (fun _ x => x.elim)))
      have hz6 := hs6.size
      clear hr5 hs5 hw6 hs6 hb6
      go_wp2_with (at_builtin; rw [W6.out]; refine Me.wpList_append_en rfl (.tmp 12) (.tmp 20) 22 rfl Tryz.underlying22 rfl rfl HO6.out HB6.out (by rw [HKL.out]; simp; omega) (by omega) ?_; intro v7 w7 ho7 hs7 hn7; have HO7 := Lib.hid ho7; have HS7 := Lib.hid hs7; have hz7 := hs7.size; clear ho7 hs7 hn7)
      refine ⟨⟨k + 1, by omega, by go_num, Lib.hid (by rw [HTK.out]; exact HO7.out), Lib.hid ?_, ?_, by omega⟩, by simp [intOf]; omega⟩
      · rw [← HRR.out]
        exact HR6.out.stay HS7.out (fun j hj _ e => by have := HX1.out j hj; have := (HO6.out.lt j e).1; omega)
      · exact stay_seal (X := fun j => w.heap.size ≤ j) (((HT.out.mono (fun _ x => x.elim)).trans (HT6.out.mono (fun j hj => by omega))).trans (HS7.out.mono (fun j e => by have := (HO6.out.lt j e).1; omega))) (fun j hj => hj)
    · obtain rfl : k = L.length := by omega
      have hrd := hr.out
      rw [List.drop_length] at hrd
      have ho' := ho.out
      rw [List.take_length] at ho'
      have HRD := Lib.hid hrd
      have HO' := Lib.hid ho'
      clear hrd ho' hr ho
      go_wp2_with fail
      refine (done_off X wr p HRD.out).mono ?_
      rintro e w5 ⟨rfl, rfl⟩
      go_wp2
      go_ret2
      exact ⟨⟨_, rfl, HO'.out.rebase (fun j hj => by have := (HO'.out.lt j hj).1; omega)⟩, HT.out⟩
end Go.Proofs.YtahfgoafiepioaaGreatDoor.Tb
