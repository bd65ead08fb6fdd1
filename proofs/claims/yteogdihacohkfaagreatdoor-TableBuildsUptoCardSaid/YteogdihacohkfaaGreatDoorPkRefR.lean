/-
  The document's answer (chapter 2): a reader's Uint, Int, and what it says at its end.
-/
import Derived.Test.YteogdihacohkfaaGreatDoorPkRefN
namespace Go.Proofs.YteogdihacohkfaaGreatDoor.Pk
open Go.RowKit
set_option maxRecDepth 100000

/-- The document's reader: what is left, the first error. -/
def rdV (x : Value) (err : Nat) : Value := .agg #[x, .int .i64 (err : Int)]

theorem fail_new (a0 : Option Addr) (n c e : Nat) (m : Int) (w : World) (hm : m = (e : Int)) : Calls Tryz.prog 98 #[.agg #[.slice a0 n c, .int .i64 0], .int .i64 m] w fun en w' => en = .returned (rdV (.slice a0 n c) e) ∧ Stay (fun _ => False) w w' := by
  subst hm
  go_enter Tryz.func98, Tryz.ntmps98
  go_wp2
  exact bodyPost_ret (v := rdV (.slice a0 n c) e) (by simp [results, Tryz.results98, go_sem]; rfl) rfl ⟨rfl, (Stay.alloc _ _).trans (Stay.alloc _ _)⟩

theorem fail_old (a0 : Option Addr) (n c e : Nat) (m : Int) (w : World) (he : e ≠ 0) : Calls Tryz.prog 98 #[.agg #[.slice a0 n c, .int .i64 (e : Int)], .int .i64 m] w fun en w' => en = .returned (rdV (.slice a0 n c) e) ∧ Stay (fun _ => False) w w' := by
  have hb : ((e : Int) == 0) = false := beq_eq_false_iff_ne.2 (by omega)
  go_enter Tryz.func98, Tryz.ntmps98
  go_wp2
  exact bodyPost_ret (v := rdV (.slice a0 n c) e) (by simp [results, Tryz.results98, go_sem]; rfl) rfl ⟨rfl, (Stay.alloc _ _).trans (Stay.alloc _ _)⟩

theorem numB_error_of {most c : Nat} {b : List UInt8} (hm : most ≤ M64) (h : numB M64 b = .error c) : numB most b = .error c := by
  cases b with
  | nil => exact h
  | cons d l =>
    unfold numB at *
    simp only [] at *
    split
    · rename_i h1
      rw [if_pos h1] at h
      exact h
    · rename_i h1
      rw [if_neg h1] at h
      split
      · rename_i h2
        rw [if_pos h2] at h
        exact h
      · rename_i h2
        rw [if_neg h2] at h
        split at h
        · rw [if_pos (by omega)]
          exact h
        · cases h
theorem numB_ok_of {most n : Nat} {b r : List UInt8} (h : numB M64 b = .ok (n, r)) : numB most b = if most < n then .error 4 else .ok (n, r) := by
  cases b with
  | nil => cases h
  | cons d l =>
    unfold numB at *
    simp only [] at *
    split
    · rename_i h1
      rw [if_pos h1] at h
      cases h
    · rename_i h1
      rw [if_neg h1] at h
      split
      · rename_i h2
        rw [if_pos h2] at h
        cases h
      · rename_i h2
        rw [if_neg h2] at h
        split at h
        · cases h
        · cases h
          rfl

/-- What the document's reader hands back with a thing. -/
def RdRet {α : Type} (val : α → Value) (w : World) (x : Value) (t : α × RS) (e : Ending) : Prop := ∃ x', e = .returned (.tuple #[rdV x' t.2.err, val t.1]) ∧ Sub w x x' t.2.b

theorem Sub.refl {w : World} {x : Value} {b : List UInt8} (h : Slc w x b) : Sub w x x b := ⟨h, fun _ e => e⟩

theorem two_cells {w : World} {b : Nat} {v0 v1 : Value} {t : TypeId} (h : w.heap[b]? = some (.cells #[v0, v1] t (0, 0))) : w.cell? ⟨b, 0, none⟩ = some v0 ∧ w.cell? ⟨b, 1, none⟩ = some v1 ∧ w.frozen? ⟨b, 0, none⟩ = false ∧ w.frozen? ⟨b, 1, none⟩ = false :=
  ⟨by rw [cell_of_row w b 0 _ _ _ h]; rfl, by rw [cell_of_row w b 1 _ _ _ h]; rfl, frozen_of_row w b 0 _ _ h, frozen_of_row w b 1 _ _ h⟩
theorem two_boxes {w w1 : World} {A B : Obj} (hs : Stay (fun _ => False) ((w.alloc A).alloc B) w1) : w1.heap[w.heap.size]? = some A ∧ w1.heap[w.heap.size + 1]? = some B := by
  have h1 : ((w.alloc A).alloc B).heap[w.heap.size]? = some A := (Below.heap_alloc (w.alloc A) B w.heap.size (by simp)).trans (heap_alloc_new w A)
  have h2 : ((w.alloc A).alloc B).heap[w.heap.size + 1]? = some B := by
    have := heap_alloc_new (w.alloc A) B
    simpa using this
  exact ⟨(hs.block _ (by simp; omega) (fun x => x)).trans h1, (hs.block _ (by simp) (fun x => x)).trans h2⟩

theorem stay_set2 {w w2 : World} {B : Nat} (h : Stay (fun _ => False) w w2) (hB : w.heap.size ≤ B) (u v : Value) : Stay (fun _ => False) w ((w2.setCell ⟨B, 0, none⟩ u).setCell ⟨B, 1, none⟩ v) :=
  stay_seal (X := fun k => w.heap.size ≤ k) (((h.mono (fun _ x => x.elim)).trans (Stay.setCell _ _ _ hB)).trans (Stay.setCell _ _ _ hB)) (fun _ hk => hk)
theorem stay_set3 {w w2 : World} {A B : Nat} (h : Stay (fun _ => False) w w2) (hA : w.heap.size ≤ A) (hB : w.heap.size ≤ B) (t u v : Value) : Stay (fun _ => False) w (((w2.setCell ⟨A, 0, none⟩ t).setCell ⟨B, 0, none⟩ u).setCell ⟨B, 1, none⟩ v) :=
  stay_seal (X := fun k => w.heap.size ≤ k) ((((h.mono (fun _ x => x.elim)).trans (Stay.setCell _ _ _ hA)).trans (Stay.setCell _ _ _ hB)).trans (Stay.setCell _ _ _ hB)) (fun _ hk => hk)

set_option maxHeartbeats 2000000 in
theorem rruint_any (b : List UInt8) (err : Nat) (most : Nat) (w : World) (x : Value) (hx : Slc w x b) (hm : most ≤ M64) : Calls Tryz.prog 46 #[rdV x err, .int .u64 most] w fun e w' => RdRet u64V w' x (takeB (numB most) 0 ⟨b, err⟩) e ∧ Stay (fun _ => False) w w' := by
  have HX := Lib.hid hx
  obtain ⟨a0, cap, rfl, hr, hn, hcap, hcm⟩ := hx
  unfold rdV
  by_cases he : err = 0
  · subst he
    obtain ⟨TK, htk⟩ : ∃ TK, TK = takeB (numB most) 0 ⟨b, 0⟩ := ⟨_, rfl⟩
    rw [← htk]
    have HT := Lib.hid htk
    have HR := Lib.hid hr
    clear htk hr hn
    go_enter Tryz.func46, Tryz.ntmps46
    go_wp2_with fail
    refine (rnum_any b _ _ (HX.out.stay0 ((Stay.alloc _ _).trans (Stay.alloc _ _)))).mono ?_
    rintro e w1 ⟨hret, hs1⟩
    obtain ⟨hb0, hb1⟩ := two_boxes hs1
    obtain ⟨c00, c01, f00, f01⟩ := two_cells hb0
    obtain ⟨c10, c11, f10, f11⟩ := two_cells hb1
    have hst : Stay (fun _ => False) w w1 := ((Stay.alloc _ _).trans (Stay.alloc _ _)).trans hs1
    have HB1 := Lib.hid hb1
    clear hb0 hb1 hs1
    cases hnr : numB M64 b with
    | error c =>
      rw [hnr] at hret
      obtain rfl := hret
      have hc0 := numB_err hnr
      have hcb : ((c : Int) == 0) = false := beq_eq_false_iff_ne.2 (by omega)
      have HTK := Lib.hid (HT.out.trans (takeB_error (zero := 0) (s := ⟨b, 0⟩) rfl (numB_error_of hm hnr)))
      clear hnr hc0
      go_wp2_with fail
      refine (fail_new _ _ _ c _ _ rfl).mono ?_
      rintro e w2 ⟨rfl, hs2⟩
      have hst2 := hst.trans hs2
      obtain ⟨d10, d11, g10, g11⟩ := two_cells ((hs2.block _ (lt_of_block HB1.out) (fun x => x)).trans HB1.out)
      clear c00 c01 f00 f01 c10 c11 f10 f11 hst hs2
      unfold rdV
      go_wp2
      have hfin := stay_set2 (B := w.heap.size + 1) hst2 (by omega) (.slice a0 b.length cap) (.int .i64 (c : Int))
      refine bodyPost_ret (v := .tuple #[rdV (.slice a0 b.length cap) c, .int .u64 0]) (by simp [results, Tryz.results46, go_sem, d10, d11]; rfl) rfl ⟨?_, hfin⟩
      rw [HTK.out]
      exact ⟨_, rfl, Sub.stay0 (Sub.refl HX.out) hfin⟩
    | ok p =>
      obtain ⟨n, r⟩ := p
      rw [hnr] at hret
      obtain ⟨k, hk, hrk, rfl⟩ := hret
      subst hrk
      have hnm := numB_ok_of (most := most) hnr
      have hnl := numB_le hnr
      unfold M64 at hnl
      by_cases hlt : most < n
      · rw [if_pos hlt] at hnm
        have HTK := Lib.hid (HT.out.trans (takeB_error (zero := 0) (s := ⟨b, 0⟩) rfl hnm))
        clear hnr hnm
        go_wp2_with fail
        refine (fail_new _ _ _ 4 _ _ rfl).mono ?_
        rintro e w2 ⟨rfl, hs2⟩
        have hst2 := hst.trans hs2
        obtain ⟨d10, d11, g10, g11⟩ := two_cells ((hs2.block _ (lt_of_block HB1.out) (fun x => x)).trans HB1.out)
        clear c00 c01 f00 f01 c10 c11 f10 f11 hst hs2
        unfold rdV
        go_wp2
        have hfin := stay_set2 (B := w.heap.size + 1) hst2 (by omega) (.slice a0 b.length cap) (.int .i64 (4 : Int))
        refine bodyPost_ret (v := .tuple #[rdV (.slice a0 b.length cap) 4, .int .u64 0]) (by simp [results, Tryz.results46, go_sem, d10, d11]; rfl) rfl ⟨?_, hfin⟩
        rw [HTK.out]
        exact ⟨_, rfl, Sub.stay0 (Sub.refl HX.out) hfin⟩
      · rw [if_neg hlt] at hnm
        have HTK := Lib.hid (HT.out.trans (takeB_ok (zero := 0) (s := ⟨b, 0⟩) rfl hnm))
        have HSub := Lib.hid (HX.out.cut hk)
        have hcases : cap = k ∨ ¬ cap = k := by omega
        clear hnr hnm hcap
        rcases hcases with hck | hck
        · subst hck
          go_wp2
          have hfin := stay_set3 (A := w.heap.size) (B := w.heap.size + 1) hst (by omega) (by omega) (.slice a0 (b.length - cap) 0) (.slice a0 (b.length - cap) 0) (.int .i64 (0 : Int))
          refine bodyPost_ret (v := .tuple #[rdV (.slice a0 (b.length - cap) 0) 0, .int .u64 (n : Int)]) (by simp [results, Tryz.results46, go_sem, c10, c11]; rfl) rfl ⟨?_, hfin⟩
          rw [HTK.out]
          refine ⟨_, rfl, Sub.stay0 (w := w) ?_ hfin⟩
          have hs := HSub.out
          rw [if_pos trivial, Nat.sub_self] at hs
          exact hs
        · go_wp2
          have hfin := stay_set3 (A := w.heap.size) (B := w.heap.size + 1) hst (by omega) (by omega) (.slice (a0.map (fun x => x.add k)) (b.length - k) (cap - k)) (.slice (a0.map (fun x => x.add k)) (b.length - k) (cap - k)) (.int .i64 (0 : Int))
          refine bodyPost_ret (v := .tuple #[rdV (.slice (a0.map (fun x => x.add k)) (b.length - k) (cap - k)) 0, .int .u64 (n : Int)]) (by simp [results, Tryz.results46, go_sem, c10, c11]; rfl) rfl ⟨?_, hfin⟩
          rw [HTK.out]
          refine ⟨_, rfl, Sub.stay0 (w := w) ?_ hfin⟩
          have hs := HSub.out
          rw [if_neg hck] at hs
          exact hs
  · have hb : ((err : Int) == 0) = false := beq_eq_false_iff_ne.2 (by omega)
    rw [takeB_bad he]
    go_enter Tryz.func46, Tryz.ntmps46
    go_wp2
    refine bodyPost_ret (v := .tuple #[rdV (.slice a0 b.length cap) err, .int .u64 0]) (by simp [results, Tryz.results46, go_sem]; rfl) rfl ⟨⟨_, rfl, Sub.stay0 (Sub.refl HX.out) ((Stay.alloc _ _).trans (Stay.alloc _ _))⟩, (Stay.alloc _ _).trans (Stay.alloc _ _)⟩

end Go.Proofs.YteogdihacohkfaaGreatDoor.Pk
