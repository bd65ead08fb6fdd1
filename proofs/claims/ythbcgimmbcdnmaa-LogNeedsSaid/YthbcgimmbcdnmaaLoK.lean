/-
  log: a fresh device has no records and nothing to wipe; a device that is calm takes what is put; what must come whatever the input is.
-/
import Derived.Test.YthbcgimmbcdnmaaLoJ
import Derived.Test.YthbcgimmbcdnmaaLaw
namespace Go.Proofs.Ythbcgimmbcdnmaa.Lo
open Go.RowKit
open Pk (Slc Owns errV errV_pos errV_zero info5 spellB)
open Tg (writeD flushD down DOk)
set_option maxRecDepth 100000
set_option linter.unusedVariables false

theorem cur_fresh (n i : Nat) : (fresh n).cur i = zsec := by simp [fresh, DS.cur, none64]
theorem tag_ne_zero {s : Nat} (h1 : 1 ≤ s) (h2 : s ≤ 1099511627777) : zsec.take 8 ≠ tagB s := by
  rw [tag_zero]
  intro h
  have := tagB_inj (by omega) (by omega) h
  omega
theorem recs_none {d : DS} {F S a s : Nat} (hS : 1 ≤ S) (h1 : 1 ≤ s) (h2 : s ≤ 1099511627777) (h : d.cur (F + a % S) = zsec) : recsD d F S a s = [] := by
  refine scan_stop (fun b hb => ?_)
  rw [List.head?_eq_getElem?, blksD_at (by omega), Nat.add_zero, h] at hb
  cases hb
  exact tag_ne_zero h1 h2
theorem wipeK_clean (F S fr : Nat) (d : DS) (b : Bool) : ∀ (ks : List Nat), (∀ i ∈ ks, d.cur (F + (fr + i) % S) = zsec) → wipeK F S fr ks (d, b) = ((d, b), 0)
  | [], _ => rfl
  | k :: ks, h => by
    simp only [wipeK]
    rw [if_pos (h k (List.mem_cons_self ..))]
    exact wipeK_clean F S fr d b ks (fun i hi => h i (List.mem_cons_of_mem _ hi))
theorem wipe_clean {d : DS} {F S fr n : Nat} (h : ∀ i, i < n → d.cur (F + (fr + i) % S) = zsec) : wipeD d F S fr n = (d, 0) := by
  unfold wipeD
  rw [wipeK_clean F S fr d false _ (fun i hi => h i (List.mem_range.1 hi)), if_pos rfl]
  rfl
theorem used_none {d : DS} {F S a s : Nat} (h : recsD d F S a s = []) : usedD d F S a s = 0 := by unfold usedD; rw [h]; rfl
theorem open_fresh (n F S a s : Nat) (hS : 1 ≤ S) (h1 : 1 ≤ s) (h2 : s ≤ 1099511627777) : recsD (fresh n) F S a s = [] ∧ openD (fresh n) F S a s = (fresh n, 0) := by
  have h := recs_none (d := fresh n) (F := F) (a := a) hS h1 h2 (cur_fresh _ _)
  refine ⟨h, ?_⟩
  unfold openD
  exact wipe_clean (fun i _ => cur_fresh _ _)

/-- A device that is up, and not armed. -/
def Calm (d : DS) : Prop := d.cr = false ∧ d.lo = false ∧ d.ar = false
theorem calm_fresh (n : Nat) : Calm (fresh n) := ⟨rfl, rfl, rfl⟩
theorem Calm.up {d : DS} (h : Calm d) : ¬ down d = true := by
  unfold down
  rw [h.1, h.2.1]
  decide
theorem writeD_calm {d : DS} (h : Calm d) {i : Nat} {l : List UInt8} (hi : i < d.n) (hl : l.length ≤ 64) : writeD d (i : Int) l = (d.wrote i l, 0) := by
  unfold writeD
  rw [if_neg h.up, if_neg (by omega), if_neg (by omega), if_neg (by rw [h.2.2]; decide)]
  rfl
theorem wrote_calm {d : DS} (h : Calm d) (i : Nat) (l : List UInt8) : Calm (d.wrote i l) := h
theorem flushD_calm {d : DS} (h : Calm d) : flushD d = (d.flushed, 0) := if_neg h.up
theorem putsD_calm {F S s : Nat} {l : List UInt8} (hS : 1 ≤ S) : ∀ (ks : List Nat) (d : DS) (i : Nat), Calm d → F + S ≤ d.n → (putsD F S s l d i ks).2 = 0 ∧ Calm (putsD F S s l d i ks).1
  | [], d, i, h, _ => ⟨rfl, h⟩
  | k :: ks, d, i, h, hn => by
    have hm := Nat.mod_lt i (show S > 0 by omega)
    simp only [putsD]
    rw [writeD_calm h (by omega) (len_rawB _ _ _), if_pos rfl]
    exact putsD_calm hS ks _ (i + 1) (wrote_calm h _ _) hn
theorem ok_fresh (n : Nat) : DOk (fresh n) 0 := ⟨Int.le_refl _, Int.le_refl _, fun h => by cases h⟩

theorem made_one (z : Value) (hz : z.cells = #[z]) (n : Nat) : madeCells z.cells n = (List.replicate n z).toArray := by
  unfold madeCells
  rw [hz]
  apply Array.ext
  · simp
  · intro i h1 h2
    simp [Nat.mod_one]
theorem run_make_u8 (w : World) (n : Nat) (hn : n ≤ 4294967296) : (Instr.makeSlice 36 (.int .i64 (n : Int)) (.int .i64 (n : Int))).run Try.prog w = .ok (.slice (some ⟨w.heap.size, 0, none⟩) n n) (w.alloc (.cells (cellsB (List.replicate n 0)).toArray 5)) := by
  obtain ⟨i0, hi, hz0, hz1, hz2⟩ := info_parts info5
  have hm := run_make (P := Try.prog) w 36 5 i0 (.int .u8 0) Try.underlying36 hi hz0 .i64 .i64 n n (by omega) (Int.le_refl _) (by rw [hz2]; omega) (by omega)
  rw [hz1, Int.toNat_natCast, Nat.mul_one, made_one _ rfl] at hm
  rw [show cellsB (List.replicate n 0) = List.replicate n (.int .u8 0) by simp [cellsB, byteV]]
  exact hm
theorem slc_made (w : World) (n : Nat) (hn : n ≤ 4294967296) : Slc (w.alloc (.cells (cellsB (List.replicate n 0)).toArray 5)) (.slice (some ⟨w.heap.size, 0, none⟩) n n) (List.replicate n 0) := by
  have h := Pk.slc_of_block (b := List.replicate n 0) (cap := n) (heap_alloc_new w (.cells (cellsB (List.replicate n 0)).toArray 5)) (fun j v hv => by simpa using hv) (by simp) (by omega)
  rw [List.length_replicate] at h
  exact h
theorem make_u8 {ops : Array Oper} {rest : List Oper} {o : Oper} {a : Act} {w : World} {Q : Exit → Act → World → Prop} (hgd : o.guard = none) (x y : Operand) (ho : o.op = .makeSlice 36 x y) (n : Nat) (hx : a.eval x = .int .i64 (n : Int)) (hy : a.eval y = .int .i64 (n : Int)) (hn : n ≤ 4294967296)
    (h : ∀ w1, Slc w1 (.slice (some ⟨w.heap.size, 0, none⟩) n n) (List.replicate n 0) → Stay (fun _ => False) w w1 → w1.heap.size = w.heap.size + 1 → wpList Try.prog ops Q rest (a.put o.dst (.slice (some ⟨w.heap.size, 0, none⟩) n n)) w1) : wpList Try.prog ops Q (o :: rest) a w :=
  wpList_plain hgd fun _ hK => by
    unfold Oper.wp execOp
    simp only [ho, hx, hy, Sem.run_bind, Sem.run_pure, run_make_u8 w n hn, Result.andThen_ok]
    exact hK _ _ (h _ (slc_made w n hn) (Stay.alloc _ _) (by simp))
theorem need_ten : needL 1 (List.replicate 10 0) = 1 := by decide +kernel

set_option maxHeartbeats 2000000 in
theorem sure_any (w : World) : Calls Try.prog 14 #[] w fun e w' => e = .returned (.bool true) ∧ Stay (fun _ => False) w w' := by
  have HRC := Lib.hid (open_fresh 4 0 4 0 1 (by decide) (by decide) (by decide))
  have HAP : Hid (∃ d2, appD (fresh 4) ⟨0, 4, 0, 1, [], 0⟩ (List.replicate 10 0) = (d2, ⟨0, 4, 0, 1, [1], 0⟩, 1, 0)) := Lib.hid (by
    unfold appD
    rw [if_neg (by decide), if_neg (by simp), if_neg, if_pos]
    · refine ⟨(putsD 0 4 1 (recB 1 (List.replicate 10 0)) (fresh 4) (0 + 0) (List.range (needL 1 (List.replicate 10 0)))).1, ?_⟩
      show (_, ({ F := 0, S := 4, a := 0, s := 1, ns := [] ++ [needL 1 (List.replicate 10 0)], dead := 0 } : Lg), 1, 0) = _
      rw [need_ten]
      rfl
    · exact (putsD_calm (by decide) _ _ _ (calm_fresh 4) (by decide)).1
    · show ¬ (1099511627776 < 1 ∨ 4 < needL 1 (List.replicate 10 0) + 0 + 1)
      rw [need_ten]
      decide)
  go_enter Try.func14, Try.ntmps14
  go_wp2_with fail
  refine (new_at 4 w (by decide) (by decide)).mono ?_
  rintro e w1 ⟨pd, ps, pm, rfl, hd, hfr, hs1⟩
  have HD := Lib.hid hd
  have HF := Lib.hid hfr
  have HS1 := Lib.hid hs1
  clear hd hfr hs1
  go_wp2_with fail
  refine (open_any w1 pd ps pm (fresh 4) 0 0 4 0 1 HD.out (calm_fresh 4).up (ok_fresh 4) (by decide) (by decide) (by decide) (by decide) (by decide) (by decide)).mono ?_
  rintro e w2 ⟨hopen, hd2, hs2, _, _, _⟩
  unfold OpenR at hopen
  rw [HRC.out.2, HRC.out.1] at hopen
  rw [HRC.out.2] at hd2
  rcases hopen with ⟨_, q, v, nv, rfl, hlg, hrc, hqb, hnb⟩ | ⟨h, _⟩
  rotate_left
  · exact absurd rfl h
  obtain ⟨va, vc, rfl⟩ := hrc.form
  have HLG := Lib.hid (show LgAt w2 q pd nv ⟨0, 4, 0, 1, [], 0⟩ from hlg)
  have HD2 := Lib.hid hd2
  have HS2 := Lib.hid (Pk.stay_seal (X := own pd ps pm) ((HS1.out.mono (fun _ x => x.elim)).trans hs2) (fun k hk => by
    obtain ⟨h1, h2, h3⟩ := HF.out
    rcases hk with rfl | rfl | rfl <;> assumption))
  have hb1 := HS1.out.size
  have HQB := Lib.hid (show w.heap.size ≤ q by omega)
  have HNB := Lib.hid (show ∀ k, nv.ownBlock = some k → w.heap.size ≤ k from fun k hk => by have := hnb k hk; omega)
  have HLO := Lib.hid (show ∀ k, lown q nv k → ¬ own pd ps pm k from fun k hk hx => by
    have h1 : k < w1.heap.size := by
      rcases hx with rfl | rfl | rfl
      · exact HD.out.lt1
      · exact HD.out.lt2
      · exact HD.out.lt3
    rcases hk with rfl | hk
    · omega
    · have := hnb k hk; omega)
  clear hlg hd2 hs2 hrc hqb hnb
  go_wp2_with (refine make_u8 rfl (.const (.int .i64 10)) (.const (.int .i64 10)) rfl 10 rfl rfl (by decide) ?_; intro w3 hsl3 hs3 hz3; have HSL := Lib.hid hsl3; have HS3 := Lib.hid hs3; clear hsl3 hs3)
  obtain ⟨d2, hap⟩ := HAP.out
  refine (append_any w3 pd ps pm q nv (fresh 4) ⟨0, 4, 0, 1, [], 0⟩ _ (List.replicate 10 0) (HD2.out.stay HS3.out (fun x => x) (fun x => x) (fun x => x)) ((ok_fresh 4).mono (by decide)) (HLG.out.stay0 HS3.out) ⟨by decide, by decide, by decide, by decide, by decide, by decide, by decide, by decide⟩ HSL.out HLO.out).mono ?_
  rintro e w4 ⟨nv', he, hd4, hlg4, hs4, _⟩
  rw [hap] at he hlg4
  have he' : e = .returned (.tuple #[.int .i64 1, .nilIface]) := he
  subst he'
  have HLG4 := Lib.hid hlg4
  have HS4 := Lib.hid (show Stay (fun _ => False) w w4 from Pk.stay_seal (X := fun k => own pd ps pm k ∨ lown q nv k) (((HS2.out.trans HS3.out).mono (fun _ x => x.elim)).trans hs4) (fun k hk => by
    obtain ⟨h1, h2, h3⟩ := HF.out
    rcases hk with (rfl | rfl | rfl) | (rfl | hk)
    · exact h1
    · exact h2
    · exact h3
    · exact HQB.out
    · exact HNB.out k hk))
  clear hap hd4 hlg4 hs4
  go_wp2_with fail
  refine (free_any HLG4.out (by decide) (by decide)).mono ?_
  rintro e w5 ⟨he5, hs5⟩
  have he5' : e = .returned (.int .i64 3) := he5
  subst he5'
  have HLG5 := Lib.hid (HLG4.out.stay0 hs5)
  have HS5 := Lib.hid (HS4.out.trans hs5)
  clear hs5
  go_wp2_with fail
  refine (next_any HLG5.out (by decide)).mono ?_
  rintro e w6 ⟨he6, hs6⟩
  have he6' : e = .returned (.int .i64 2) := he6
  subst he6'
  have HS6 := Lib.hid (HS5.out.trans hs6)
  clear hs6
  go_wp2
  go_ret
  exact ⟨rfl, HS6.out⟩
end Go.Proofs.Ythbcgimmbcdnmaa.Lo
