/-
  The document's answer (chapter 2): Int and Bytes.
-/
import Derived.Test.YtjaflioamjklfaaPkRefV
namespace Go.Proofs.Ytjaflioamjklfaa.Pk
open Go.RowKit
set_option maxRecDepth 100000

theorem refuint_at (w : World) (x : Value) (b : List UInt8) (n : Nat) (m : Int) (hm : m = (n : Int)) (hx : Slc w x b) (hn : (n : Int) ≤ 18446744073709551615) (hlen : b.length + 9 ≤ 140737488355328) :
    Calls Try.prog 25 #[x, .int .u64 m] w fun e w' => ∃ v, e = .returned v ∧ Owns w.heap.size w' v (b ++ spellB n) ∧ Stay (fun _ => False) w w' := by
  subst hm
  exact refuint_any w x b n hx hn hlen

theorem refbytes_any (w : World) (x y : Value) (b l : List UInt8) (hx : Slc w x b) (hy : Slc w y l) (hlen : b.length + 9 + l.length ≤ 140737488355328) :
    Calls Try.prog 29 #[x, y] w fun e w' => ∃ v, e = .returned v ∧ Owns w.heap.size w' v (b ++ bytesB l) ∧ Stay (fun _ => False) w w' := by
  obtain ⟨i0, hi, hz0, hz1, hz2⟩ := info_parts info5
  have HI := Lib.hid hi
  have HZ0 := Lib.hid hz0
  have HZ1 := Lib.hid hz1
  have HZ2 := Lib.hid hz2
  have HX := Lib.hid hx
  have HY := Lib.hid hy
  obtain ⟨a0, c, rfl, _⟩ := id hy
  clear hi hz0 hz1 hz2 hx hy
  have hs := len_spell l.length
  go_enter Try.func29, Try.ntmps29
  go_wp2_with fail
  refine (refuint_at w x b l.length _ rfl HX.out (by omega) (by omega)).mono ?_
  rintro e w1 ⟨v, rfl, how, hst⟩
  have hz := hst.size
  obtain ⟨a1, c1, rfl⟩ := how.form
  rw [List.length_append] at how
  have HO := Lib.hid how
  have HY1 := Lib.hid (HY.out.stay0 hst)
  clear how
  go_wp2_with (at_builtin; refine wpList_append_slc rfl (.tmp 9) (.tmp 10) 25 rfl w.heap.size i0 Try.underlying25 HI.out HZ0.out HZ1.out HZ2.out (.slice a1 (b.length + (spellB l.length).length) c1) (.slice a0 l.length c) (b ++ spellB l.length) l rfl rfl HO.out HY1.out (by rw [List.length_append]; omega) hz ?_; intro v2 w2 hown2 hgr2 hnn2)
  go_ret
  refine ⟨v2, rfl, ?_, stay_seal (X := fun k => w.heap.size ≤ k) ((hst.mono (fun _ x => x.elim)).trans (Stay.grown (X := fun k => w.heap.size ≤ k) hgr2 (fun k hk => (HO.out.lt k hk).1))) (fun k hk => hk)⟩
  unfold bytesB
  rw [← List.append_assoc]
  exact hown2

set_option maxHeartbeats 2000000 in
theorem refint_any (w : World) (x : Value) (b : List UInt8) (n : Int) (hx : Slc w x b) (h1 : -9223372036854775808 ≤ n) (h2 : n ≤ 9223372036854775807) (hlen : b.length + 10 ≤ 140737488355328) :
    Calls Try.prog 26 #[x, .int .i64 n] w fun e w' => ∃ v, e = .returned v ∧ Owns w.heap.size w' v (b ++ intB n) ∧ Stay (fun _ => False) w w' := by
  obtain ⟨i0, hi, hz0, hz1, hz2⟩ := info_parts info5
  have HI := Lib.hid hi
  have HZ0 := Lib.hid hz0
  have HZ1 := Lib.hid hz1
  have HZ2 := Lib.hid hz2
  clear hi hz0 hz1 hz2
  by_cases hn : n < 0
  · obtain ⟨m, rfl⟩ : ∃ m : Nat, n = -1 - m := ⟨(-1 - n).toNat, by omega⟩
    rw [show intB (-1 - (m : Int)) = [1] ++ spellB m by rw [show intB (-1 - (m : Int)) = boolB true ++ spellB (-1 - (-1 - (m : Int))).toNat from if_pos hn, show (-1 - (-1 - (m : Int))).toNat = m by omega]; rfl]
    go_enter Try.func26, Try.ntmps26
    go_wp2_with fail
    refine (own_any w x b hx (by omega)).mono ?_
    rintro e w1 ⟨v, rfl, how, hst⟩
    obtain ⟨a1, c1, rfl⟩ := how.form
    have HO := Lib.hid (how.stay0 (Stay.alloc w1 (.cells #[.int .u8 1] 5)))
    have HS := Lib.hid (slc_one w1 1 1 rfl)
    have hz := hst.size
    clear how
    go_wp2_with (at_builtin; refine wpList_append_slc rfl (.tmp 8) (.tmp 9) 25 rfl w.heap.size i0 Try.underlying25 HI.out HZ0.out HZ1.out HZ2.out (.slice a1 b.length c1) _ b [1] rfl rfl HO.out HS.out (by simp; omega) (by simp; omega) ?_; intro v2 w2 hown2 hgr2 hnn2)
    have hst2 : Stay (fun k => w.heap.size ≤ k) w w2 := ((hst.trans (Stay.alloc w1 (.cells #[.int .u8 1] 5))).mono (fun _ x => x.elim)).trans (Stay.grown (X := fun k => w.heap.size ≤ k) hgr2 (fun k hk => (HO.out.lt k hk).1))
    have HO2 := Lib.hid hown2
    have HST2 := Lib.hid hst2
    have hz2 := hst2.size
    clear hown2 hst2 hgr2 hnn2
    refine (refuint_at w2 v2 (b ++ [1]) m _ (by omega) HO2.out.slc (by omega) (by simp; omega)).mono ?_
    rintro e w3 ⟨v3, rfl, how3, hst3⟩
    go_wp2
    go_ret
    refine ⟨v3, rfl, ?_, stay_seal (X := fun k => w.heap.size ≤ k) (HST2.out.trans (hst3.mono (fun _ x => x.elim))) (fun k hk => hk)⟩
    rw [List.append_assoc] at how3
    exact how3.base (fun k e => by have := (how3.lt k e).1; omega)
  · obtain ⟨m, rfl⟩ : ∃ m : Nat, n = m := ⟨n.toNat, by omega⟩
    rw [show intB (m : Int) = [0] ++ spellB m by rw [show intB (m : Int) = boolB false ++ spellB (m : Int).toNat from if_neg hn, Int.toNat_natCast]; rfl]
    clear hn h1
    go_enter Try.func26, Try.ntmps26
    go_wp2_with fail
    refine (own_any w x b hx (by omega)).mono ?_
    rintro e w1 ⟨v, rfl, how, hst⟩
    obtain ⟨a1, c1, rfl⟩ := how.form
    have HO := Lib.hid (how.stay0 (Stay.alloc w1 (.cells #[.int .u8 0] 5)))
    have HS := Lib.hid (slc_one w1 0 0 rfl)
    have hz := hst.size
    clear how
    go_wp2_with (at_builtin; refine wpList_append_slc rfl (.tmp 17) (.tmp 18) 25 rfl w.heap.size i0 Try.underlying25 HI.out HZ0.out HZ1.out HZ2.out (.slice a1 b.length c1) _ b [0] rfl rfl HO.out HS.out (by simp; omega) (by simp; omega) ?_; intro v2 w2 hown2 hgr2 hnn2)
    have hst2 : Stay (fun k => w.heap.size ≤ k) w w2 := ((hst.trans (Stay.alloc w1 (.cells #[.int .u8 0] 5))).mono (fun _ x => x.elim)).trans (Stay.grown (X := fun k => w.heap.size ≤ k) hgr2 (fun k hk => (HO.out.lt k hk).1))
    have HO2 := Lib.hid hown2
    have HST2 := Lib.hid hst2
    have hz2 := hst2.size
    clear hown2 hst2 hgr2 hnn2
    refine (refuint_at w2 v2 (b ++ [0]) m _ (by omega) HO2.out.slc (by omega) (by simp; omega)).mono ?_
    rintro e w3 ⟨v3, rfl, how3, hst3⟩
    go_wp2
    go_ret
    refine ⟨v3, rfl, ?_, stay_seal (X := fun k => w.heap.size ≤ k) (HST2.out.trans (hst3.mono (fun _ x => x.elim))) (fun k hk => hk)⟩
    rw [List.append_assoc] at how3
    exact how3.base (fun k e => by have := (how3.lt k e).1; omega)

end Go.Proofs.Ytjaflioamjklfaa.Pk
