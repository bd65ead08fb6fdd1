/-
  table: Open over any bytes: an error of what is sealed, or some answer.
-/
import Derived.Test.YteogdihacohkfaaGreatDoorTbK
namespace Go.Proofs.YteogdihacohkfaaGreatDoor.Tb
open Go.RowKit
open Pk (stay_seal)
open Me (En EnS EnO Box enC enV norm ltB Sorted getL posN hasB sizeL)
open Pk (spellB bytesB boolB textB takeB numB cntB truB doneB RS Slc Owns RdAt)
open Bo (FAt)
set_option maxRecDepth 100000
set_option linter.unusedVariables false

theorem take_len {α : Type} {rule : List UInt8 → Except Nat (α × List UInt8)} {zero : α} (hr : ∀ b v r, rule b = .ok (v, r) → r.length ≤ b.length) (s : RS) : (takeB rule zero s).2.b.length ≤ s.b.length := by
  by_cases he : s.err = 0
  · cases h : rule s.b with
    | error c => rw [Pk.takeB_error he h]; exact Nat.le_refl _
    | ok p => rw [Pk.takeB_ok he h]; exact hr _ _ _ h
  · rw [Pk.takeB_bad he]; exact Nat.le_refl _
theorem textB_len (most : Int) (b : List UInt8) (v : List UInt8) (r : List UInt8) (h : textB most b = .ok (v, r)) : r.length ≤ b.length := by
  by_cases h0 : most < 0
  · rw [Pk.textB_neg h0] at h; cases h
  · cases hn : numB Pk.M64 b with
    | error c => rw [Pk.textB_err h0 hn] at h; cases h
    | ok p =>
      obtain ⟨n, r1⟩ := p
      have hl := Pk.numB_len hn
      by_cases h1 : most < (n : Int)
      · rw [Pk.textB_long h0 hn h1] at h; cases h
      · by_cases h2 : r1.length < n
        · rw [Pk.textB_end h0 hn h1 h2] at h; cases h
        · rw [Pk.textB_ok h0 hn h1 h2] at h
          cases h
          rw [List.length_drop]
          omega
theorem cntB_len (most : Int) (b : List UInt8) (v : Int) (r : List UInt8) (h : cntB most b = .ok (v, r)) : r.length ≤ b.length := by
  cases hn : numB most.toNat b with
  | error c => rw [Pk.cntB_error hn] at h; cases h
  | ok p =>
    obtain ⟨n, r1⟩ := p
    have hl := Pk.numB_len hn
    by_cases h1 : r1.length < n
    · rw [Pk.cntB_long hn h1] at h; cases h
    · rw [Pk.cntB_ok hn h1] at h; cases h; exact hl
theorem take_cnt_le (s : RS) : 0 ≤ (takeB (cntB 16384) 0 s).1 ∧ (takeB (cntB 16384) 0 s).1 ≤ 16384 := by
  by_cases he : s.err = 0
  · cases h : cntB 16384 s.b with
    | error c => rw [Pk.takeB_error he h]; exact ⟨Int.le_refl _, by show (0 : Int) ≤ 16384; omega⟩
    | ok p =>
      obtain ⟨n, r⟩ := p
      rw [Pk.takeB_ok he h]
      cases hn : numB (16384 : Int).toNat s.b with
      | error c => rw [Pk.cntB_error hn] at h; cases h
      | ok p =>
        obtain ⟨m, r1⟩ := p
        have hl := Pk.numB_le hn
        by_cases h1 : r1.length < m
        · rw [Pk.cntB_long hn h1] at h; cases h
        · rw [Pk.cntB_ok hn h1] at h
          cases h
          simp at hl ⊢
          omega
  · rw [Pk.takeB_bad he]; exact ⟨Int.le_refl _, by show (0 : Int) ≤ 16384; omega⟩

/-- A slice whose parts may be loaded. -/
def PcR (w : World) (g n : Nat) : Prop := ∀ i, i < n → ∃ r : Pc, (∃ a0 n c, r.x = .slice a0 n c) ∧ w.cell? ⟨g, i * 2, none⟩ = some (.string ⟨r.k.toArray⟩) ∧ ∀ W, Stay (fun _ => False) w W → (loadVar 95 ⟨g, i * 2, none⟩).run Tryz.prog W = .ok (pcV r) W
theorem PcR.stay0 {w w' : World} {g n : Nat} (h : PcR w g n) (hs : Stay (fun _ => False) w w') : PcR w' g n := fun i hi => by
  obtain ⟨r, h1, h2, h3⟩ := h i hi
  exact ⟨r, h1, hs.cell h2 (fun x => x), fun W hW => h3 W (hs.trans hW)⟩
theorem PcOwn.rd {base : Nat} {w : World} {v : Value} {Q : List Pc} (h : PcOwn base w v Q) (h0 : 0 < Q.length) : ∃ g c, v = .slice (some ⟨g, 0, none⟩) Q.length c ∧ PcR w g Q.length := by
  have hc := fun g hg => World.ownsRow.cells (g := g) h.row hg
  rcases h.row.2 with ⟨e, hn⟩ | ⟨g, cap, cur, e, _, _, h1, h2, _⟩
  · omega
  · refine ⟨g, cap, e, fun i hi => ?_⟩
    subst e
    obtain ⟨q, hqi⟩ : ∃ q, Q[i]? = some q := ⟨_, List.getElem?_eq_getElem hi⟩
    have hall : ∀ j u, (pcC q)[j]? = some u → w.cell? ⟨g, i * 2 + j, none⟩ = some u := fun j u hu => by
      have hj : j < 2 := (List.getElem?_eq_some_iff.1 hu).1
      have := hc g rfl (i * 2 + j) u (by rw [pcRows_get hj Q i hqi]; exact hu)
      rw [add_at, Nat.zero_add] at this
      exact this
    obtain ⟨a0, c, ex, _⟩ := h.slc q (List.mem_of_getElem? hqi)
    exact ⟨q, ⟨a0, _, c, ex⟩, hall 0 _ rfl, fun W hW => run_load_pc (fun j u hu => hW.cell (hall j u hu) (fun x => x))⟩

set_option maxHeartbeats 4000000 in
theorem ascp_gen (w : World) (g n c : Nat) (hl : n ≤ 1000000) (hp : PcR w g n) :
    Calls Tryz.prog 95 #[.slice (some ⟨g, 0, none⟩) n c, .func (.func 96) #[] #[]] w fun e w' => (∃ b, e = .returned (.bool b)) ∧ Stay (fun _ => False) w w' := by
  have HP := Lib.hid hp
  have hlc : (n : Int) ≤ 1000000 := by omega
  clear hp hl
  go_enter Tryz.func95, Tryz.ntmps95
  go_wp2
  go_loopw [5] (fun i wr => ∃ k : Nat, i = .int .i64 ((k : Int) + 1) ∧ k ≤ n ∧ Stay (fun _ => False) w wr) (fun i _ => n + 1 - (intOf i).toNat)
  case atStart => exact ⟨0, rfl, Nat.zero_le _, Stay.refl _ _⟩
  case round =>
    obtain ⟨k, rfl, hk, hst⟩ := hrel
    have HS := Lib.hid hst
    clear hst
    by_cases hlt : k + 1 < n
    · obtain ⟨r1, ⟨x1, n1, c1, hx1⟩, _, hr1⟩ := HP.out k (by omega)
      obtain ⟨r2, ⟨x2, n2, c2, hx2⟩, _, hr2⟩ := HP.out (k + 1) hlt
      obtain ⟨D, hDd⟩ : ∃ D : World → Prop, D = Stay (fun _ => False) wr := ⟨_, rfl⟩
      have HD := Lib.hid (show ∀ W, D W → Stay (fun _ => False) wr W by intro W h; rw [hDd] at h; exact h)
      have HDm := Lib.hid (show ∀ W, Stay (fun _ => False) wr W → D W by intro W h; rw [hDd]; exact h)
      clear hDd
      have HN0 := Lib.hid (HDm.out _ (Stay.drew (w := wr)))
      have k1 := fun i : InC D => hr1 _ (HS.out.trans (HD.out _ i.h))
      have k2 := fun i : InC D => hr2 _ (HS.out.trans (HD.out _ i.h))
      have H1 := Lib.hid (show ∀ W, D W → Calls Tryz.prog 96 #[pcV r1] W fun e w' => e = .returned (.string ⟨r1.k.toArray⟩) ∧ D w' from fun W h => (form1_any W r1 _ _ _ hx1).mono fun e w' ⟨h1, h2⟩ => ⟨h1, HDm.out _ ((HD.out _ h).trans h2)⟩)
      have H2 := Lib.hid (show ∀ W, D W → Calls Tryz.prog 96 #[pcV r2] W fun e w' => e = .returned (.string ⟨r2.k.toArray⟩) ∧ D w' from fun W h => (form1_any W r2 _ _ _ hx2).mono fun e w' ⟨h1, h2⟩ => ⟨h1, HDm.out _ ((HD.out _ h).trans h2)⟩)
      clear hr1 hr2 hx1 hx2
      haveI : Nonempty (InC D) := ⟨⟨_, HN0.out⟩⟩
      go_wp2
      refine wp_region_class D HN0.out (by kernel_rfl) (by kernel_rfl) ?_
      repeat (go_big_quiet_step ((first
        | with_reducible exact calls_class H1.out
        | with_reducible exact calls_class H2.out)))
      refine quiet_load rfl 95 (.tmp 15) rfl ⟨g, (k + 1) * 2, none⟩ rfl _ k2 ?_
      go_frame
      repeat (go_big_quiet_step ((first
        | with_reducible exact calls_class H1.out
        | with_reducible exact calls_class H2.out)))
      refine quiet_load rfl 95 (.tmp 22) rfl ⟨g, k * 2, none⟩ rfl _ k1 ?_
      go_frame
      repeat (go_big_quiet_step ((first
        | with_reducible exact calls_class H1.out
        | with_reducible exact calls_class H2.out)))
      refine wpQuiet_nil ?_
      rintro W ⟨i, rfl⟩
      have hst := HD.out _ i.h
      clear k1 k2
      generalize i.w = w9 at *
      have HS9 := Lib.hid (HS.out.trans hst)
      clear hst
      rw [leq_not]
      cases hlt3 : ltB r1.k r2.k with
      | true =>
        rw [show (!true) = false from rfl]
        go_wp2
        go_roundw
        case rel => exact ⟨k + 1, by go_num, by omega, HS9.out⟩
        case measure => simp [intOf]; omega
      | false =>
        rw [show (!false) = true from rfl]
        go_wp2
        go_ret
        exact ⟨⟨_, rfl⟩, HS9.out⟩
    · go_wp2
      go_ret
      exact ⟨⟨_, rfl⟩, HS.out⟩

/-- A table's cells, whatever it is. -/
structure TbR (w : World) (t n : Nat) (v : Value) (m : Nat) (kl : List UInt8) : Prop where
  c : ∃ f, w.heap[t]? = some (.cells (tbC n v kl f) 90 (0, 0))
  n1 : n ≤ 16384
  m1 : m ≤ 16384
  z : m = 0 → ∃ a c, v = .slice a 0 c
  r : 0 < m → ∃ g c, v = .slice (some ⟨g, 0, none⟩) m c ∧ PcR w g m
set_option maxHeartbeats 4000000 in
theorem formed_gen (w : World) (t n : Nat) (v : Value) (m : Nat) (kl : List UInt8) (h : TbR w t n v m kl) : Calls Tryz.prog 45 #[.pointer (some ⟨t, 0, none⟩)] w fun e w' => (∃ b, e = .returned (.bool b)) ∧ Stay (fun _ => False) w w' := by
  obtain ⟨f, hb⟩ := h.c
  have hc0 : w.cell? ⟨t, 0, none⟩ = some (.int .i64 (n : Int)) := by rw [cell_of_row w t 0 _ _ _ hb]; rfl
  have hc1 : w.cell? ⟨t, 1, none⟩ = some v := by rw [cell_of_row w t 1 _ _ _ hb]; rfl
  have hc2 : w.cell? ⟨t, 2, none⟩ = some (.string ⟨kl.toArray⟩) := by rw [cell_of_row w t 2 _ _ _ hb]; rfl
  have hnm : (n : Int) ≤ 16384 := by have := h.n1; omega
  rcases Nat.eq_zero_or_pos m with h0 | h0
  · obtain ⟨a, c, rfl⟩ := h.z h0
    clear h hb
    go_enter Tryz.func45, Tryz.ntmps45
    go_wp2
    go_quiet (fail)
    go_wp2
    go_ret
    exact ⟨⟨_, rfl⟩, Pk.stay_drewN _ _⟩
  · obtain ⟨g, c, rfl, hr⟩ := h.r h0
    obtain ⟨n1, rfl⟩ : ∃ n1, m = n1 + 1 := ⟨m - 1, by omega⟩
    obtain ⟨r, _, hf, _⟩ := hr n1 (by omega)
    have hn1m : (n1 : Int) ≤ 16384 := by have := h.m1; omega
    have HAS := Lib.hid (fun W (hW : Stay (fun _ => False) w W) => ascp_gen W g (n1 + 1) c (by have := h.m1; omega) (hr.stay0 hW))
    have hw1 : IntKind.i64.wrap (n1 : Int) = (n1 : Int) := IntWalk.i64_in _ (by omega)
    have hq1 : decide ((n1 : Int) + 1 < 1) = false := decide_eq_false (by omega)
    clear h hb hr h0
    go_enter Tryz.func45, Tryz.ntmps45
    by_cases hq : (n : Int) < (n1 : Int) + 1
    · have hq2 : decide ((n : Int) < (n1 : Int) + 1) = true := decide_eq_true hq
      go_wp2
      go_quiet (fail)
      go_wp2
      go_ret
      exact ⟨⟨_, rfl⟩, Pk.stay_drewN _ _⟩
    · have hq2 : decide ((n : Int) < (n1 : Int) + 1) = false := decide_eq_false hq
      cases hlt : Op.bytesLess kl r.k with
      | true =>
        go_wp2
        go_quiet (fail)
        go_wp2
        go_ret
        exact ⟨⟨_, rfl⟩, Pk.stay_drewN _ _⟩
      | false =>
        go_wp2
        go_quiet (fail)
        go_wp2_with fail
        refine (HAS.out _ (Pk.stay_drewN _ _)).mono ?_
        rintro e w2 ⟨⟨b, rfl⟩, hs2⟩
        have HS2 := Lib.hid ((Pk.stay_drewN (X := fun _ => False) w nq).trans hs2)
        clear hs2
        go_wp2
        go_ret
        exact ⟨⟨_, rfl⟩, HS2.out⟩
theorem bad_any (w : World) (x : Value) (b : List UInt8) (c : Nat) (hx : Slc w x b) (hl : b.length ≤ 140737488355328) (hb : Hn.openB b = .error c) :
    Calls Tryz.prog 13 #[x] w fun e w' => e = .returned (.tuple #[.pointer none, Hn.errI c]) ∧ Stay (fun _ => False) w w' := by
  have HOP := Lib.hid (Hn.open_any x b w hx hl)
  rw [hb] at HOP
  have HOE := Lib.hid (show ∀ e, Hn.OpenRet w.heap.size w (.error c) e → e = .returned (.tuple #[.slice none 0 0, Hn.errI c]) from fun e h => h)
  clear hx hb
  unfold Hn.errI at *
  go_enter Tryz.func13, Tryz.ntmps13
  go_wp2_with fail
  refine HOP.out.mono ?_
  rintro e w1 ⟨hret, hs1⟩
  have hret' : e = .returned (.tuple #[.slice none 0 0, .iface 64 (.int .i64 (c : Int))]) := hret
  subst hret'
  have HS1 := Lib.hid hs1
  clear hs1 hret
  go_wp2
  go_ret2
  exact ⟨rfl, HS1.out⟩

theorem text_val_le (s : RS) : (takeB (textB 9223372036854775807) [] s).1.length ≤ s.b.length := by
  by_cases he : s.err = 0
  · cases h : textB 9223372036854775807 s.b with
    | error c => rw [Pk.takeB_error he h]; exact Nat.zero_le _
    | ok p =>
      obtain ⟨t, r⟩ := p
      rw [Pk.takeB_ok he h]
      obtain ⟨r1, h1, _, _, h4, _⟩ := Bo.text_of h
      have := Pk.numB_len h1
      exact Nat.le_trans h4 this
  · rw [Pk.takeB_bad he]; exact Nat.zero_le _
set_option maxHeartbeats 4000000 in
theorem open_gen (w : World) (x : Value) (B T : List UInt8) (hx : Slc w x B) (hBl : B.length ≤ 10000000000) (hb : Hn.openB B = .ok T) (hTl : T.length ≤ 10000000000) :
    Calls Tryz.prog 13 #[x] w fun e w' => (∃ u ev, e = .returned (.tuple #[.pointer u, ev])) ∧ Stay (fun _ => False) w w' := by
  have HOP := Lib.hid (Hn.open_any x B w hx (by omega))
  have HOE := Lib.hid hb
  clear hx hb
  go_enter Tryz.func13, Tryz.ntmps13
  go_wp2_with fail
  refine HOP.out.mono ?_
  rintro e w1 ⟨hret, hs1⟩
  rw [HOE.out] at hret
  obtain ⟨v1, rfl, ho1⟩ := hret
  have HSL := Lib.hid ho1.slc
  obtain ⟨a1, c1, rfl⟩ := ho1.form
  have HS1 := Lib.hid hs1
  clear ho1 hs1 HOP HOE
  go_wp2_with fail
  refine (Pk.read_cap w1 _ T HSL.out (by omega)).mono ?_
  rintro e w2 ⟨r, rfl, hr2, hs2⟩
  have hz2 := hs2.size
  have HR2 := Lib.hid hr2
  have HS2 := Lib.hid (HS1.out.trans hs2)
  clear hr2 hs2
  go_wp2_with fail
  refine (Pk.ruint_any _ w2 r ⟨T, 0⟩ 16384 HR2.out).mono ?_
  rintro e w3 ⟨rfl, hr3, hs3⟩
  have hn16 := Bo.take_le 16384 ⟨T, 0⟩
  have hl0 := Bo.take_b_len 16384 ⟨T, 0⟩
  generalize takeB (numB 16384) 0 ⟨T, 0⟩ = z0 at *
  obtain ⟨n, s0⟩ := z0
  dsimp only at hn16 hl0 hr3 ⊢
  unfold Pk.u64V
  have hl0' : s0.b.length ≤ 10000000000 := by omega
  obtain ⟨X, hXd⟩ : ∃ X : Nat → Prop, X = fun k => w1.heap.size ≤ k ∧ k < w2.heap.size := ⟨_, rfl⟩
  have HX1 := Lib.hid (show ∀ k, X k → w1.heap.size ≤ k ∧ k < w2.heap.size by intro k h; rw [hXd] at h; exact h)
  rw [← hXd] at hr3
  have hrX := hr3.own
  have HR3 := Lib.hid hr3
  have hz1 := HS1.out.size
  have hz3 := hs3.size
  have HS3 := Lib.hid (show Stay (fun _ => False) w w3 from stay_seal (X := fun k => w.heap.size ≤ k) ((HS2.out.mono (fun _ x => x.elim)).trans (hs3.mono (fun k hk => by have := (HX1.out r hrX).1; omega))) (fun k hk => hk))
  have hnm : (n : Int) ≤ 16384 := by omega
  obtain ⟨t, ht⟩ : ∃ t, t = w3.heap.size := ⟨_, rfl⟩
  obtain ⟨w4, hw4⟩ : ∃ w4, w3.alloc (.cells (tbC n (.slice none 0 0) [] (.pointer none)) 90) = w4 := ⟨_, rfl⟩
  have hs4 : Stay (fun _ => False) w3 w4 := hw4 ▸ Stay.alloc _ _
  have hz4 : w4.heap.size = t + 1 := by rw [← hw4]; simp [ht]
  have HT4 := Lib.hid (show w4.heap[t]? = some (.cells (tbC n (.slice none 0 0) [] (.pointer none)) 90 (0, 0)) from by rw [ht, ← hw4]; exact heap_alloc_new w3 _)
  have W4 := Lib.hid (show w3.alloc (.cells #[.int .i64 (n : Int), .slice none 0 0, .string ⟨#[]⟩, .pointer none] 90) = w4 from hw4)
  have HR4 := Lib.hid (HR3.out.stay0 hs4)
  have HS4 := Lib.hid (HS3.out.trans hs4)
  have HTW := Lib.hid ht
  clear hr3 hs3 hXd ht hw4 hs4 HR2 HSL HS3 HR3 hl0
  go_wp2_with fail
  rw [W4.out, ← HTW.out]
  refine (Pk.rcount_any X w4 r s0 16384 HR4.out (by omega) (by decide)).mono ?_
  rintro e w5 ⟨rfl, hr5, hs5⟩
  have hcn := take_cnt_le s0
  have hlc := take_len (rule := cntB 16384) (zero := 0) (cntB_len 16384) s0
  generalize takeB (cntB 16384) 0 s0 = z1 at *
  obtain ⟨ci, s1⟩ := z1
  dsimp only at hcn hlc hr5 ⊢
  obtain ⟨N, rfl⟩ : ∃ N : Nat, ci = (N : Int) := ⟨ci.toNat, by omega⟩
  have hNm : (N : Int) ≤ 16384 := by omega
  have hl1' : s1.b.length ≤ 10000000000 := by omega
  unfold Pk.i64V
  have HR5 := Lib.hid hr5
  have hrt : r ≠ t := by have := (HX1.out r hrX).2; have := HTW.out; omega
  have HT5 := Lib.hid ((hs5.block t (by omega) (fun h => hrt h.symm)).trans HT4.out)
  have hz5 := hs5.size
  have HS5 := Lib.hid (show Stay (fun _ => False) w w5 from stay_seal (X := fun k => w.heap.size ≤ k) ((HS4.out.mono (fun _ x => x.elim)).trans (hs5.mono (fun k hk => by have := (HX1.out r hrX).1; omega))) (fun k hk => hk))
  clear hr5 hs5 HR4 HT4 HS4 W4 hcn hlc hl0'
  go_wp2
  go_loopw [25] (fun i wr => ∃ (k : Nat) (v : Value) (Q : List Pc) (s : RS), k ≤ N ∧ i = .int .i64 (k : Int) ∧ Hid (wr.heap[t]? = some (.cells (tbC n v [] (.pointer none)) 90 (0, 0))) ∧ Hid (PcOwn (t + 1) wr v Q) ∧ Hid (Q.length = k) ∧ Hid (∀ q ∈ Q, 0 < q.b.length → ∀ j, q.x.ownBlock = some j → t < j) ∧ Hid (RdAt X wr r s) ∧ Hid (s.b.length ≤ 10000000000) ∧ Stay (fun _ => False) w wr ∧ t + 1 ≤ wr.heap.size) (fun i _ => N - (intOf i).toNat)
  case atStart => exact ⟨0, .slice none 0 0, [], s1, Nat.zero_le _, rfl, HT5, Lib.hid (PcOwn.nil _ _), Lib.hid rfl, Lib.hid (fun _ hq => (List.not_mem_nil hq).elim), HR5, Lib.hid hl1', HS5.out, by omega⟩
  case round =>
    obtain ⟨k, v, Q, s, hk, rfl, htb, hpo, hql, hqb, hrd, hsl, hst, hzr⟩ := hrel
    have HT := Lib.hid hst
    clear hst
    by_cases hlt : k < N
    · have HC6' := Pk.rtext_any X wr.drew r s 9223372036854775807 (hrd.out.stay0 Stay.drew) (by have := hsl.out; omega) (by decide)
      have hl2 := take_len (rule := textB 9223372036854775807) (zero := []) (textB_len _) s
      generalize takeB (textB 9223372036854775807) [] s = z2 at *
      obtain ⟨ky, s2⟩ := z2
      dsimp only at HC6' hl2
      have HC6 := Lib.hid (show Calls Tryz.prog 41 #[.pointer (some ⟨r, 0, none⟩), .int .i64 9223372036854775807] wr.drew fun e w' => e = .returned (.string ⟨ky.toArray⟩) ∧ RdAt X w' r s2 ∧ Stay (fun k => k = r) wr.drew w' from HC6')
      have HC8' := fun w3 (h3 : RdAt X w3 r s2) => Pk.rbytes_any X w3 r s2 9223372036854775807 h3 (by have := hsl.out; omega) (by decide)
      have hl3 := take_len (rule := textB 9223372036854775807) (zero := []) (textB_len _) s2
      generalize takeB (textB 9223372036854775807) [] s2 = z3 at *
      obtain ⟨pb, s3⟩ := z3
      dsimp only at HC8' hl3
      have HC8 := Lib.hid (show ∀ w3, RdAt X w3 r s2 → Calls Tryz.prog 42 #[.pointer (some ⟨r, 0, none⟩), .int .i64 9223372036854775807] w3 fun e w' => (∃ v, e = .returned v ∧ Owns w3.heap.size w' v pb) ∧ RdAt X w' r s3 ∧ Stay (fun k => k = r) w3 w' from HC8')
      have HL3 := Lib.hid (show s3.b.length ≤ 10000000000 by have := hsl.out; omega)
      clear HC6' HC8' hl2 hl3
      have HLD := Lib.hid (show ∀ W, Stay (fun j => j = r) wr W → W.cell? ⟨t, 1, none⟩ = some v from fun W hW => hW.cell (by rw [cell_of_row wr t 1 _ _ _ htb.out]; rfl) (fun h => hrt h.symm))
      have HPO := Lib.hid (show ∀ W, Stay (fun j => j = r) wr W → PcOwn (t + 1) W v Q from fun W hW => hpo.out.stay hW (fun j hj h => by have := (hpo.out.lt j hj).1; have := (HX1.out r hrX).2; have := HTW.out; omega) (fun z hz h0 j hj h => by have := hqb.out z hz h0 j hj; have := (HX1.out r hrX).2; have := HTW.out; omega))
      have HNE := Lib.hid (show ∀ v4 : Value, (∀ j, v4.ownBlock = some j → wr.heap.size ≤ j) → 0 < pb.length → ∀ W, Slc W v4 pb → v4.ownBlock ≠ v.ownBlock from fun v4 h4 h0 W hsl e => by
        obtain ⟨a9, c9, e9, hr9, _⟩ := hsl
        obtain ⟨ad, e8, _⟩ := hr9 h0
        have e7 : v4.ownBlock = some ad.block := by rw [e9, e8]; rfl
        have h5 := h4 _ e7
        have h6 := (hpo.out.lt ad.block (by rw [← e, e7])).2
        omega)
      have HQN := Lib.hid (show (Q.length + 1) * 40 ≤ 140737488355328 by rw [hql.out]; omega)
      have HBW := Lib.hid hzr
      have HTB := Lib.hid (show ∀ w5 w6, Stay (fun j => j = r) wr w5 → Stay (fun j => v.ownBlock = some j) w5 w6 → w6.heap[t]? = some (.cells (tbC n v [] (.pointer none)) 90 (0, 0)) from fun w5 w6 h5 h6 =>
        (h6.block t (by have := h5.size; omega) (fun h => by have := (hpo.out.lt t h).1; omega)).trans ((h5.block t (by omega) (fun h => hrt h.symm)).trans htb.out))
      have HREL := Lib.hid (show ∀ v6 w5 w6 ck, PcOwn (t + 1) w6 v6 (Q ++ [⟨ky, pb, ck⟩]) → Stay (fun j => v.ownBlock = some j) w5 w6 → (v6.ownBlock = v.ownBlock ∨ v6.ownBlock = some w5.heap.size) → RdAt X w5 r s3 → Stay (fun j => j = r) wr w5 → (∀ j, ck.ownBlock = some j → wr.heap.size ≤ j) →
          ∃ (k' : Nat) (v' : Value) (Q' : List Pc) (s' : RS), k' ≤ N ∧ k' = k + 1 ∧ Hid ((w6.setCell ⟨t, 1, none⟩ v6).heap[t]? = some (.cells (tbC n v' [] (.pointer none)) 90 (0, 0))) ∧ Hid (PcOwn (t + 1) (w6.setCell ⟨t, 1, none⟩ v6) v' Q') ∧ Hid (Q'.length = k') ∧ Hid (∀ q ∈ Q', 0 < q.b.length → ∀ j, q.x.ownBlock = some j → t < j) ∧ Hid (RdAt X (w6.setCell ⟨t, 1, none⟩ v6) r s') ∧ Hid (s'.b.length ≤ 10000000000) ∧ Stay (fun _ => False) w (w6.setCell ⟨t, 1, none⟩ v6) ∧ t + 1 ≤ (w6.setCell ⟨t, 1, none⟩ v6).heap.size from fun v6 w5 w6 ck ho hs6 hn6 hr5 hs5 hck => by
        have ht6 := HTB.out w5 w6 hs5 hs6
        have hsz5 := hs5.size
        have hsz6 := hs6.size
        have hset : Stay (fun j => j = t) w6 (w6.setCell ⟨t, 1, none⟩ v6) := Stay.setCell _ _ _ rfl
        have hqb' : ∀ q ∈ Q ++ [(⟨ky, pb, ck⟩ : Pc)], 0 < q.b.length → ∀ j, q.x.ownBlock = some j → t < j := by
          intro z hz h0 j hj
          rcases List.mem_append.1 hz with hz | hz
          · exact hqb.out z hz h0 j hj
          · obtain rfl := List.mem_singleton.1 hz
            have := hck j hj
            omega
        refine ⟨k + 1, v6, Q ++ [⟨ky, pb, ck⟩], s3, by omega, rfl, Lib.hid ?_, Lib.hid ?_, Lib.hid (by rw [List.length_append, hql.out]; rfl), Lib.hid hqb', Lib.hid ?_, HL3, ?_, by simp; omega⟩
        · exact heap_setCell_same w6 t 1 _ _ v6 ht6
        · refine ho.stay hset (fun j hj h => ?_) (fun z hz h0 j hj h => by have := hqb' z hz h0 j hj; omega)
          have := (ho.lt j hj).1
          omega
        · exact (hr5.stay hs6 (fun j hj _ h => by have := (hpo.out.lt j h).1; have := (HX1.out j hj).2; have := HTW.out; omega)).stay hset (fun j hj _ h => by have := (HX1.out j hj).2; have := HTW.out; omega)
        · exact stay_seal (X := fun j => w.heap.size ≤ j) (((HT.out.mono (fun _ x => x.elim)).trans (hs5.mono (fun j hj => by have := (HX1.out r hrX).1; omega))).trans ((hs6.mono (fun j hj => by have := (hpo.out.lt j hj).1; have := HTW.out; omega)).trans (hset.mono (fun j hj => by have := HTW.out; omega)))) (fun j hj => hj))
      go_wp2
      refine wp_region_held (S := Stay (fun j => j = r ∨ j = t ∨ v.ownBlock = some j) wr.drew) (by kernel_rfl) ?_
      change wpAnyH _ _ _ _ _ _ _ _ (World.drew _)
      refine wpAnyH_takeL (i := 0) (v := .pointer (some ⟨t, 0, none⟩)) #[true, false, false, false, false, false, false, false, false, false, false, false, false, false, false] rfl (by kernel_rfl) (by kernel_rfl) (by kernel_rfl) (fun _ _ _ h => h) (by kernel_rfl) (Stay.refl _ _) (Or.inl ⟨by rfl, fun W hW => ?_⟩) ?_
      · go_simp
      conv => arg 8; simp [Act.put]
      refine wpAnyH_takeL (i := 1) (v := .pointer (some ⟨t, 0, none⟩)) #[true, true, false, false, false, false, false, false, false, false, false, false, false, false, false] rfl (by kernel_rfl) (by kernel_rfl) (by kernel_rfl) (fun _ _ _ h => h) (by kernel_rfl) (Stay.refl _ _) (Or.inl ⟨by rfl, fun W hW => ?_⟩) ?_
      · go_simp
      conv => arg 8; simp [Act.put]
      refine wpAnyH_takeL (i := 2) (v := .pointer (some ⟨t, 0, none⟩)) #[true, true, true, false, false, false, false, false, false, false, false, false, false, false, false] rfl (by kernel_rfl) (by kernel_rfl) (by kernel_rfl) (fun _ _ _ h => h) (by kernel_rfl) (Stay.refl _ _) (Or.inl ⟨by rfl, fun W hW => ?_⟩) ?_
      · go_simp
      conv => arg 8; simp [Act.put]
      refine wpAnyH_takeL (i := 3) (v := .pointer (some ⟨t, 1, none⟩)) #[true, true, true, true, false, false, false, false, false, false, false, false, false, false, false] rfl (by kernel_rfl) (by kernel_rfl) (by kernel_rfl) (fun _ _ _ h => h) (by kernel_rfl) (Stay.refl _ _) (Or.inl ⟨by rfl, fun W hW => ?_⟩) ?_
      · go_simp
      conv => arg 8; simp [Act.put]
      refine wpAnyH_takeL (i := 5) (v := .pointer (some ⟨r, 0, none⟩)) #[true, true, true, true, false, true, false, false, false, false, false, false, false, false, false] rfl (by kernel_rfl) (by kernel_rfl) (by kernel_rfl) (fun _ _ _ h => h) (by kernel_rfl) (Stay.refl _ _) (Or.inl ⟨by rfl, fun W hW => ?_⟩) ?_
      · go_simp
      conv => arg 8; simp [Act.put]
      refine wpAnyH_takeL (i := 7) (v := .pointer (some ⟨r, 0, none⟩)) #[true, true, true, true, false, true, false, true, false, false, false, false, false, false, false] rfl (by kernel_rfl) (by kernel_rfl) (by kernel_rfl) (fun _ _ _ h => h) (by kernel_rfl) (Stay.refl _ _) (Or.inl ⟨by rfl, fun W hW => ?_⟩) ?_
      · go_simp
      conv => arg 8; simp [Act.put]
      refine wpAnyH_ready (rs := [4, 6]) (by kernel_rfl) (by simp) ?_
      refine AllReadyH.cons (o := _) rfl (fun K hK => ?_) ?_
      · refine Me.step_load_run rfl 88 (.tmp 30) rfl ⟨t, 1, none⟩ rfl v (run_load_pcs (HLD.out wr.drew Stay.drew)) ?_
        refine Shut.out hK _ _ (Stay.refl _ _) (fun _ => ?_)
        clear hK
        refine wpAnyH_listedL #[true, true, true, true, true, true, false, true, false, false, false, false, false, false, false] (by kernel_rfl) ?_
        conv => arg 8; simp [Act.put]
        refine wpAnyH_one #[true, true, true, true, true, true, true, true, false, false, false, false, false, false, false] (i := 6) rfl (by kernel_rfl) (by kernel_rfl) (fun K hK => ?_)
        go_simp
        go_wp2_with (go_at_call 41; refine HC6.out.mono ?_; rintro y w3 ⟨rfl, h3, s3⟩; have HR3 := Lib.hid h3; have HS3 := Lib.hid (show Stay (fun j => j = r ∨ j = t ∨ v.ownBlock = some j) wr.drew w3 from s3.mono (fun j hj => .inl hj)); have HL3 := Lib.hid (show Stay (fun j => j = r) wr w3 from (Stay.drew (X := fun j => j = r) (w := wr)).trans s3); clear h3 s3)
        refine hK _ _ HS3.out ?_
        clear hK
        conv => arg 8; simp [Act.put]
        refine wpAnyH_one #[true, true, true, true, true, true, true, true, true, false, false, false, false, false, false] (i := 8) rfl (by kernel_rfl) (by kernel_rfl) (fun K hK => ?_)
        go_simp
        go_wp2_with (go_at_call 42; refine (HC8.out w3 HR3.out).mono ?_; rintro y w4 ⟨⟨v4, rfl, o4⟩, h4, s4⟩; have HO4 := Lib.hid o4; have HR4 := Lib.hid h4; have HS4 := Lib.hid (show Stay (fun j => j = r ∨ j = t ∨ v.ownBlock = some j) wr.drew w4 from HS3.out.trans (s4.mono (fun j hj => .inl hj))); have HL4 := Lib.hid (show Stay (fun j => j = r) wr w4 from HL3.out.trans s4); clear h4 s4 o4)
        refine hK _ _ HS4.out ?_
        clear hK
        conv => arg 8; simp [Act.put]
        obtain ⟨a4, c4, hv4⟩ := HO4.out.form
        refine wpAnyH_takeL (i := 9) (v := pcV ⟨ky, pb, v4⟩) #[true, true, true, true, true, true, true, true, true, true, false, false, false, false, false] rfl (by kernel_rfl) (by kernel_rfl) (by kernel_rfl) (fun _ _ _ h => h) (by kernel_rfl) HS4.out (Or.inl ⟨by rfl, fun W hW => ?_⟩) ?_
        · unfold pcV pcC
          go_simp
        conv => arg 8; simp [Act.put]
        refine wpAnyH_one #[true, true, true, true, true, true, true, true, true, true, true, false, false, false, false] (i := 10) rfl (by kernel_rfl) (by kernel_rfl) (fun K hK => ?_)
        refine step_one_pc rfl (.tmp 36) rfl ⟨ky, pb, v4⟩ hv4 rfl ?_
        obtain ⟨w5, hw5⟩ : ∃ w5, w4.alloc (.cells (pcC ⟨ky, pb, v4⟩).toArray 95) = w5 := ⟨_, rfl⟩
        have hs5 : Stay (fun _ => False) w4 w5 := hw5 ▸ Stay.alloc _ _
        have HB5 := Lib.hid (show ∀ j u, (pcC ⟨ky, pb, v4⟩)[j]? = some u → w5.cell? ⟨w4.heap.size, j, none⟩ = some u from fun j u hu => by rw [← hw5, cell_of_row _ w4.heap.size j _ _ _ (heap_alloc_new w4 _)]; simpa using hu)
        have HS5 := Lib.hid (HS4.out.trans (hs5.mono (fun _ x => x.elim)))
        have HL5 := Lib.hid (HL4.out.trans (hs5.mono (fun _ x => x.elim)))
        have HR5 := Lib.hid (HR4.out.stay0 hs5)
        have HSL5 := Lib.hid (HO4.out.slc.stay0 hs5)
        have HPC5 := Lib.hid (HPO.out w5 HL5.out)
        have HZ5 := Lib.hid (show ∀ j, v4.ownBlock = some j → wr.heap.size ≤ j from fun j hj => Nat.le_trans HL3.out.size (HO4.out.lt j hj).1)
        rw [hw5]
        clear hw5 hs5
        refine hK _ _ HS5.out ?_
        clear hK
        conv => arg 8; simp [Act.put]
        refine wpAnyH_one #[true, true, true, true, true, true, true, true, true, true, true, true, false, false, false] (i := 11) rfl (by kernel_rfl) (by kernel_rfl) (fun K hK => ?_)
        refine step_append_pc rfl (.tmp 31) (.tmp 37) rfl rfl w4.heap.size rfl ⟨ky, pb, v4⟩ HPC5.out HB5.out HSL5.out (fun h0 => HNE.out v4 HZ5.out h0 _ HSL5.out) (one_pc _ _ _ _ hv4) HQN.out (by have := HL5.out.size; have := HBW.out; omega) ?_
        intro v6 w6 o6 s6 n6
        obtain ⟨a6, l6, c6, rfl⟩ : ∃ a l c, v6 = .slice a l c := by obtain ⟨a, c, e⟩ := o6.form; exact ⟨a, _, c, e⟩
        have HO6 := Lib.hid o6
        have HS6 := Lib.hid s6
        have HN6 := Lib.hid n6
        have HS6' := Lib.hid (show Stay (fun j => j = r ∨ j = t ∨ v.ownBlock = some j) wr.drew w6 from HS5.out.trans (s6.mono (fun j hj => .inr (.inr hj))))
        clear o6 s6 n6
        refine hK _ _ HS6'.out ?_
        clear hK
        conv => arg 8; simp [Act.put]
        refine wpAnyH_takeL (i := 12) (v := .pointer (some ⟨t, 0, none⟩)) #[true, true, true, true, true, true, true, true, true, true, true, true, true, false, false] rfl (by kernel_rfl) (by kernel_rfl) (by kernel_rfl) (fun _ _ _ h => h) (by kernel_rfl) HS6'.out (Or.inl ⟨by rfl, fun W hW => ?_⟩) ?_
        · go_simp
        conv => arg 8; simp [Act.put]
        refine wpAnyH_takeL (i := 13) (v := .pointer (some ⟨t, 1, none⟩)) #[true, true, true, true, true, true, true, true, true, true, true, true, true, true, false] rfl (by kernel_rfl) (by kernel_rfl) (by kernel_rfl) (fun _ _ _ h => h) (by kernel_rfl) HS6'.out (Or.inl ⟨by rfl, fun W hW => ?_⟩) ?_
        · go_simp
        conv => arg 8; simp [Act.put]
        refine wpAnyH_one #[true, true, true, true, true, true, true, true, true, true, true, true, true, true, true] (i := 14) rfl (by kernel_rfl) (by kernel_rfl) (fun K hK => ?_)
        have ht6 := HTB.out _ w6 HL5.out HS6.out
        have hc6 : w6.cell? ⟨t, 1, none⟩ = some v := by rw [cell_of_row w6 t 1 _ _ _ ht6]; rfl
        have hf6 := frozen_of_row w6 t 1 _ _ ht6
        go_simp
        refine hK _ _ (HS6'.out.trans (Stay.setCell (X := fun j => j = r ∨ j = t ∨ v.ownBlock = some j) w6 ⟨t, 1, none⟩ (.slice a6 l6 c6) (Or.inr (Or.inl rfl)))) ?_
        clear hK
        conv => arg 8; simp [Act.put]
        clear ht6 hc6 hf6
        refine wpAnyH_done (by kernel_rfl) ?_ _
        go_wp2
        go_roundw
        case rel =>
          obtain ⟨k', v', Q', S', e1, e2, e3, e4, e5, e7, e8, e9, e10, e11⟩ := HREL.out _ _ w6 v4 HO6.out HS6.out HN6.out HR5.out HL5.out HZ5.out
          exact ⟨k', v', Q', S', e1, by subst e2; go_num, e3, e4, e5, e7, e8, e9, e10, e11⟩
        case measure => simp [intOf]; omega
      refine AllReadyH.cons (o := _) rfl (fun K hK => ?_) ?_
      · go_simp
        go_wp2_with (go_at_call 41; refine HC6.out.mono ?_; rintro y w3 ⟨rfl, h3, s3⟩; have HR3 := Lib.hid h3; have HS3 := Lib.hid (show Stay (fun j => j = r ∨ j = t ∨ v.ownBlock = some j) wr.drew w3 from s3.mono (fun j hj => .inl hj)); have HL3 := Lib.hid (show Stay (fun j => j = r) wr w3 from (Stay.drew (X := fun j => j = r) (w := wr)).trans s3); clear h3 s3)
        refine Shut.out hK _ _ HS3.out (fun _ => ?_)
        clear hK
        refine wpAnyH_listedL #[true, true, true, true, false, true, true, true, false, false, false, false, false, false, false] (by kernel_rfl) ?_
        conv => arg 8; simp [Act.put]
        refine wpAnyH_ready (rs := [4, 8]) (by kernel_rfl) (by simp) ?_
        refine AllReadyH.cons (o := _) rfl (fun K hK => ?_) ?_
        · refine Me.step_load_run rfl 88 (.tmp 30) rfl ⟨t, 1, none⟩ rfl v (run_load_pcs (HLD.out w3 HL3.out)) ?_
          refine Shut.out hK _ _ HS3.out (fun _ => ?_)
          clear hK
          refine wpAnyH_listedL #[true, true, true, true, true, true, true, true, false, false, false, false, false, false, false] (by kernel_rfl) ?_
          conv => arg 8; simp [Act.put]
          refine wpAnyH_one #[true, true, true, true, true, true, true, true, true, false, false, false, false, false, false] (i := 8) rfl (by kernel_rfl) (by kernel_rfl) (fun K hK => ?_)
          go_simp
          go_wp2_with (go_at_call 42; refine (HC8.out w3 HR3.out).mono ?_; rintro y w4 ⟨⟨v4, rfl, o4⟩, h4, s4⟩; have HO4 := Lib.hid o4; have HR4 := Lib.hid h4; have HS4 := Lib.hid (show Stay (fun j => j = r ∨ j = t ∨ v.ownBlock = some j) wr.drew w4 from HS3.out.trans (s4.mono (fun j hj => .inl hj))); have HL4 := Lib.hid (show Stay (fun j => j = r) wr w4 from HL3.out.trans s4); clear h4 s4 o4)
          refine hK _ _ HS4.out ?_
          clear hK
          conv => arg 8; simp [Act.put]
          obtain ⟨a4, c4, hv4⟩ := HO4.out.form
          refine wpAnyH_takeL (i := 9) (v := pcV ⟨ky, pb, v4⟩) #[true, true, true, true, true, true, true, true, true, true, false, false, false, false, false] rfl (by kernel_rfl) (by kernel_rfl) (by kernel_rfl) (fun _ _ _ h => h) (by kernel_rfl) HS4.out (Or.inl ⟨by rfl, fun W hW => ?_⟩) ?_
          · unfold pcV pcC
            go_simp
          conv => arg 8; simp [Act.put]
          refine wpAnyH_one #[true, true, true, true, true, true, true, true, true, true, true, false, false, false, false] (i := 10) rfl (by kernel_rfl) (by kernel_rfl) (fun K hK => ?_)
          refine step_one_pc rfl (.tmp 36) rfl ⟨ky, pb, v4⟩ hv4 rfl ?_
          obtain ⟨w5, hw5⟩ : ∃ w5, w4.alloc (.cells (pcC ⟨ky, pb, v4⟩).toArray 95) = w5 := ⟨_, rfl⟩
          have hs5 : Stay (fun _ => False) w4 w5 := hw5 ▸ Stay.alloc _ _
          have HB5 := Lib.hid (show ∀ j u, (pcC ⟨ky, pb, v4⟩)[j]? = some u → w5.cell? ⟨w4.heap.size, j, none⟩ = some u from fun j u hu => by rw [← hw5, cell_of_row _ w4.heap.size j _ _ _ (heap_alloc_new w4 _)]; simpa using hu)
          have HS5 := Lib.hid (HS4.out.trans (hs5.mono (fun _ x => x.elim)))
          have HL5 := Lib.hid (HL4.out.trans (hs5.mono (fun _ x => x.elim)))
          have HR5 := Lib.hid (HR4.out.stay0 hs5)
          have HSL5 := Lib.hid (HO4.out.slc.stay0 hs5)
          have HPC5 := Lib.hid (HPO.out w5 HL5.out)
          have HZ5 := Lib.hid (show ∀ j, v4.ownBlock = some j → wr.heap.size ≤ j from fun j hj => Nat.le_trans HL3.out.size (HO4.out.lt j hj).1)
          rw [hw5]
          clear hw5 hs5
          refine hK _ _ HS5.out ?_
          clear hK
          conv => arg 8; simp [Act.put]
          refine wpAnyH_one #[true, true, true, true, true, true, true, true, true, true, true, true, false, false, false] (i := 11) rfl (by kernel_rfl) (by kernel_rfl) (fun K hK => ?_)
          refine step_append_pc rfl (.tmp 31) (.tmp 37) rfl rfl w4.heap.size rfl ⟨ky, pb, v4⟩ HPC5.out HB5.out HSL5.out (fun h0 => HNE.out v4 HZ5.out h0 _ HSL5.out) (one_pc _ _ _ _ hv4) HQN.out (by have := HL5.out.size; have := HBW.out; omega) ?_
          intro v6 w6 o6 s6 n6
          obtain ⟨a6, l6, c6, rfl⟩ : ∃ a l c, v6 = .slice a l c := by obtain ⟨a, c, e⟩ := o6.form; exact ⟨a, _, c, e⟩
          have HO6 := Lib.hid o6
          have HS6 := Lib.hid s6
          have HN6 := Lib.hid n6
          have HS6' := Lib.hid (show Stay (fun j => j = r ∨ j = t ∨ v.ownBlock = some j) wr.drew w6 from HS5.out.trans (s6.mono (fun j hj => .inr (.inr hj))))
          clear o6 s6 n6
          refine hK _ _ HS6'.out ?_
          clear hK
          conv => arg 8; simp [Act.put]
          refine wpAnyH_takeL (i := 12) (v := .pointer (some ⟨t, 0, none⟩)) #[true, true, true, true, true, true, true, true, true, true, true, true, true, false, false] rfl (by kernel_rfl) (by kernel_rfl) (by kernel_rfl) (fun _ _ _ h => h) (by kernel_rfl) HS6'.out (Or.inl ⟨by rfl, fun W hW => ?_⟩) ?_
          · go_simp
          conv => arg 8; simp [Act.put]
          refine wpAnyH_takeL (i := 13) (v := .pointer (some ⟨t, 1, none⟩)) #[true, true, true, true, true, true, true, true, true, true, true, true, true, true, false] rfl (by kernel_rfl) (by kernel_rfl) (by kernel_rfl) (fun _ _ _ h => h) (by kernel_rfl) HS6'.out (Or.inl ⟨by rfl, fun W hW => ?_⟩) ?_
          · go_simp
          conv => arg 8; simp [Act.put]
          refine wpAnyH_one #[true, true, true, true, true, true, true, true, true, true, true, true, true, true, true] (i := 14) rfl (by kernel_rfl) (by kernel_rfl) (fun K hK => ?_)
          have ht6 := HTB.out _ w6 HL5.out HS6.out
          have hc6 : w6.cell? ⟨t, 1, none⟩ = some v := by rw [cell_of_row w6 t 1 _ _ _ ht6]; rfl
          have hf6 := frozen_of_row w6 t 1 _ _ ht6
          go_simp
          refine hK _ _ (HS6'.out.trans (Stay.setCell (X := fun j => j = r ∨ j = t ∨ v.ownBlock = some j) w6 ⟨t, 1, none⟩ (.slice a6 l6 c6) (Or.inr (Or.inl rfl)))) ?_
          clear hK
          conv => arg 8; simp [Act.put]
          clear ht6 hc6 hf6
          refine wpAnyH_done (by kernel_rfl) ?_ _
          go_wp2
          go_roundw
          case rel =>
            obtain ⟨k', v', Q', S', e1, e2, e3, e4, e5, e7, e8, e9, e10, e11⟩ := HREL.out _ _ w6 v4 HO6.out HS6.out HN6.out HR5.out HL5.out HZ5.out
            exact ⟨k', v', Q', S', e1, by subst e2; go_num, e3, e4, e5, e7, e8, e9, e10, e11⟩
          case measure => simp [intOf]; omega
        refine AllReadyH.cons (o := _) rfl (fun K hK => ?_) ?_
        · go_simp
          go_wp2_with (go_at_call 42; refine (HC8.out w3 HR3.out).mono ?_; rintro y w4 ⟨⟨v4, rfl, o4⟩, h4, s4⟩; have HO4 := Lib.hid o4; have HR4 := Lib.hid h4; have HS4 := Lib.hid (show Stay (fun j => j = r ∨ j = t ∨ v.ownBlock = some j) wr.drew w4 from HS3.out.trans (s4.mono (fun j hj => .inl hj))); have HL4 := Lib.hid (show Stay (fun j => j = r) wr w4 from HL3.out.trans s4); clear h4 s4 o4)
          refine Shut.out hK _ _ HS4.out (fun _ => ?_)
          clear hK
          refine wpAnyH_listedL #[true, true, true, true, false, true, true, true, true, false, false, false, false, false, false] (by kernel_rfl) ?_
          conv => arg 8; simp [Act.put]
          obtain ⟨a4, c4, hv4⟩ := HO4.out.form
          refine wpAnyH_takeL (i := 9) (v := pcV ⟨ky, pb, v4⟩) #[true, true, true, true, false, true, true, true, true, true, false, false, false, false, false] rfl (by kernel_rfl) (by kernel_rfl) (by kernel_rfl) (fun _ _ _ h => h) (by kernel_rfl) HS4.out (Or.inl ⟨by rfl, fun W hW => ?_⟩) ?_
          · unfold pcV pcC
            go_simp
          conv => arg 8; simp [Act.put]
          refine wpAnyH_ready (rs := [4, 10]) (by kernel_rfl) (by simp) ?_
          refine AllReadyH.cons (o := _) rfl (fun K hK => ?_) ?_
          · refine Me.step_load_run rfl 88 (.tmp 30) rfl ⟨t, 1, none⟩ rfl v (run_load_pcs (HLD.out w4 HL4.out)) ?_
            refine Shut.out hK _ _ HS4.out (fun _ => ?_)
            clear hK
            refine wpAnyH_listedL #[true, true, true, true, true, true, true, true, true, true, false, false, false, false, false] (by kernel_rfl) ?_
            conv => arg 8; simp [Act.put]
            refine wpAnyH_one #[true, true, true, true, true, true, true, true, true, true, true, false, false, false, false] (i := 10) rfl (by kernel_rfl) (by kernel_rfl) (fun K hK => ?_)
            refine step_one_pc rfl (.tmp 36) rfl ⟨ky, pb, v4⟩ hv4 rfl ?_
            obtain ⟨w5, hw5⟩ : ∃ w5, w4.alloc (.cells (pcC ⟨ky, pb, v4⟩).toArray 95) = w5 := ⟨_, rfl⟩
            have hs5 : Stay (fun _ => False) w4 w5 := hw5 ▸ Stay.alloc _ _
            have HB5 := Lib.hid (show ∀ j u, (pcC ⟨ky, pb, v4⟩)[j]? = some u → w5.cell? ⟨w4.heap.size, j, none⟩ = some u from fun j u hu => by rw [← hw5, cell_of_row _ w4.heap.size j _ _ _ (heap_alloc_new w4 _)]; simpa using hu)
            have HS5 := Lib.hid (HS4.out.trans (hs5.mono (fun _ x => x.elim)))
            have HL5 := Lib.hid (HL4.out.trans (hs5.mono (fun _ x => x.elim)))
            have HR5 := Lib.hid (HR4.out.stay0 hs5)
            have HSL5 := Lib.hid (HO4.out.slc.stay0 hs5)
            have HPC5 := Lib.hid (HPO.out w5 HL5.out)
            have HZ5 := Lib.hid (show ∀ j, v4.ownBlock = some j → wr.heap.size ≤ j from fun j hj => Nat.le_trans HL3.out.size (HO4.out.lt j hj).1)
            rw [hw5]
            clear hw5 hs5
            refine hK _ _ HS5.out ?_
            clear hK
            conv => arg 8; simp [Act.put]
            refine wpAnyH_one #[true, true, true, true, true, true, true, true, true, true, true, true, false, false, false] (i := 11) rfl (by kernel_rfl) (by kernel_rfl) (fun K hK => ?_)
            refine step_append_pc rfl (.tmp 31) (.tmp 37) rfl rfl w4.heap.size rfl ⟨ky, pb, v4⟩ HPC5.out HB5.out HSL5.out (fun h0 => HNE.out v4 HZ5.out h0 _ HSL5.out) (one_pc _ _ _ _ hv4) HQN.out (by have := HL5.out.size; have := HBW.out; omega) ?_
            intro v6 w6 o6 s6 n6
            obtain ⟨a6, l6, c6, rfl⟩ : ∃ a l c, v6 = .slice a l c := by obtain ⟨a, c, e⟩ := o6.form; exact ⟨a, _, c, e⟩
            have HO6 := Lib.hid o6
            have HS6 := Lib.hid s6
            have HN6 := Lib.hid n6
            have HS6' := Lib.hid (show Stay (fun j => j = r ∨ j = t ∨ v.ownBlock = some j) wr.drew w6 from HS5.out.trans (s6.mono (fun j hj => .inr (.inr hj))))
            clear o6 s6 n6
            refine hK _ _ HS6'.out ?_
            clear hK
            conv => arg 8; simp [Act.put]
            refine wpAnyH_takeL (i := 12) (v := .pointer (some ⟨t, 0, none⟩)) #[true, true, true, true, true, true, true, true, true, true, true, true, true, false, false] rfl (by kernel_rfl) (by kernel_rfl) (by kernel_rfl) (fun _ _ _ h => h) (by kernel_rfl) HS6'.out (Or.inl ⟨by rfl, fun W hW => ?_⟩) ?_
            · go_simp
            conv => arg 8; simp [Act.put]
            refine wpAnyH_takeL (i := 13) (v := .pointer (some ⟨t, 1, none⟩)) #[true, true, true, true, true, true, true, true, true, true, true, true, true, true, false] rfl (by kernel_rfl) (by kernel_rfl) (by kernel_rfl) (fun _ _ _ h => h) (by kernel_rfl) HS6'.out (Or.inl ⟨by rfl, fun W hW => ?_⟩) ?_
            · go_simp
            conv => arg 8; simp [Act.put]
            refine wpAnyH_one #[true, true, true, true, true, true, true, true, true, true, true, true, true, true, true] (i := 14) rfl (by kernel_rfl) (by kernel_rfl) (fun K hK => ?_)
            have ht6 := HTB.out _ w6 HL5.out HS6.out
            have hc6 : w6.cell? ⟨t, 1, none⟩ = some v := by rw [cell_of_row w6 t 1 _ _ _ ht6]; rfl
            have hf6 := frozen_of_row w6 t 1 _ _ ht6
            go_simp
            refine hK _ _ (HS6'.out.trans (Stay.setCell (X := fun j => j = r ∨ j = t ∨ v.ownBlock = some j) w6 ⟨t, 1, none⟩ (.slice a6 l6 c6) (Or.inr (Or.inl rfl)))) ?_
            clear hK
            conv => arg 8; simp [Act.put]
            clear ht6 hc6 hf6
            refine wpAnyH_done (by kernel_rfl) ?_ _
            go_wp2
            go_roundw
            case rel =>
              obtain ⟨k', v', Q', S', e1, e2, e3, e4, e5, e7, e8, e9, e10, e11⟩ := HREL.out _ _ w6 v4 HO6.out HS6.out HN6.out HR5.out HL5.out HZ5.out
              exact ⟨k', v', Q', S', e1, by subst e2; go_num, e3, e4, e5, e7, e8, e9, e10, e11⟩
            case measure => simp [intOf]; omega
          refine AllReadyH.cons (o := _) rfl (fun K hK => ?_) ?_
          · refine step_one_pc rfl (.tmp 36) rfl ⟨ky, pb, v4⟩ hv4 rfl ?_
            obtain ⟨w5, hw5⟩ : ∃ w5, w4.alloc (.cells (pcC ⟨ky, pb, v4⟩).toArray 95) = w5 := ⟨_, rfl⟩
            have hs5 : Stay (fun _ => False) w4 w5 := hw5 ▸ Stay.alloc _ _
            have HB5 := Lib.hid (show ∀ j u, (pcC ⟨ky, pb, v4⟩)[j]? = some u → w5.cell? ⟨w4.heap.size, j, none⟩ = some u from fun j u hu => by rw [← hw5, cell_of_row _ w4.heap.size j _ _ _ (heap_alloc_new w4 _)]; simpa using hu)
            have HS5 := Lib.hid (HS4.out.trans (hs5.mono (fun _ x => x.elim)))
            have HL5 := Lib.hid (HL4.out.trans (hs5.mono (fun _ x => x.elim)))
            have HR5 := Lib.hid (HR4.out.stay0 hs5)
            have HSL5 := Lib.hid (HO4.out.slc.stay0 hs5)
            have HPC5 := Lib.hid (HPO.out w5 HL5.out)
            have HZ5 := Lib.hid (show ∀ j, v4.ownBlock = some j → wr.heap.size ≤ j from fun j hj => Nat.le_trans HL3.out.size (HO4.out.lt j hj).1)
            rw [hw5]
            clear hw5 hs5
            refine Shut.out hK _ _ HS5.out (fun _ => ?_)
            clear hK
            refine wpAnyH_listedL #[true, true, true, true, false, true, true, true, true, true, true, false, false, false, false] (by kernel_rfl) ?_
            conv => arg 8; simp [Act.put]
            refine wpAnyH_one #[true, true, true, true, true, true, true, true, true, true, true, false, false, false, false] (i := 4) rfl (by kernel_rfl) (by kernel_rfl) (fun K hK => ?_)
            refine Me.step_load_run rfl 88 (.tmp 30) rfl ⟨t, 1, none⟩ rfl v (run_load_pcs (HLD.out w5 HL5.out)) ?_
            refine hK _ _ HS5.out ?_
            clear hK
            conv => arg 8; simp [Act.put]
            refine wpAnyH_one #[true, true, true, true, true, true, true, true, true, true, true, true, false, false, false] (i := 11) rfl (by kernel_rfl) (by kernel_rfl) (fun K hK => ?_)
            refine step_append_pc rfl (.tmp 31) (.tmp 37) rfl rfl w4.heap.size rfl ⟨ky, pb, v4⟩ HPC5.out HB5.out HSL5.out (fun h0 => HNE.out v4 HZ5.out h0 _ HSL5.out) (one_pc _ _ _ _ hv4) HQN.out (by have := HL5.out.size; have := HBW.out; omega) ?_
            intro v6 w6 o6 s6 n6
            obtain ⟨a6, l6, c6, rfl⟩ : ∃ a l c, v6 = .slice a l c := by obtain ⟨a, c, e⟩ := o6.form; exact ⟨a, _, c, e⟩
            have HO6 := Lib.hid o6
            have HS6 := Lib.hid s6
            have HN6 := Lib.hid n6
            have HS6' := Lib.hid (show Stay (fun j => j = r ∨ j = t ∨ v.ownBlock = some j) wr.drew w6 from HS5.out.trans (s6.mono (fun j hj => .inr (.inr hj))))
            clear o6 s6 n6
            refine hK _ _ HS6'.out ?_
            clear hK
            conv => arg 8; simp [Act.put]
            refine wpAnyH_takeL (i := 12) (v := .pointer (some ⟨t, 0, none⟩)) #[true, true, true, true, true, true, true, true, true, true, true, true, true, false, false] rfl (by kernel_rfl) (by kernel_rfl) (by kernel_rfl) (fun _ _ _ h => h) (by kernel_rfl) HS6'.out (Or.inl ⟨by rfl, fun W hW => ?_⟩) ?_
            · go_simp
            conv => arg 8; simp [Act.put]
            refine wpAnyH_takeL (i := 13) (v := .pointer (some ⟨t, 1, none⟩)) #[true, true, true, true, true, true, true, true, true, true, true, true, true, true, false] rfl (by kernel_rfl) (by kernel_rfl) (by kernel_rfl) (fun _ _ _ h => h) (by kernel_rfl) HS6'.out (Or.inl ⟨by rfl, fun W hW => ?_⟩) ?_
            · go_simp
            conv => arg 8; simp [Act.put]
            refine wpAnyH_one #[true, true, true, true, true, true, true, true, true, true, true, true, true, true, true] (i := 14) rfl (by kernel_rfl) (by kernel_rfl) (fun K hK => ?_)
            have ht6 := HTB.out _ w6 HL5.out HS6.out
            have hc6 : w6.cell? ⟨t, 1, none⟩ = some v := by rw [cell_of_row w6 t 1 _ _ _ ht6]; rfl
            have hf6 := frozen_of_row w6 t 1 _ _ ht6
            go_simp
            refine hK _ _ (HS6'.out.trans (Stay.setCell (X := fun j => j = r ∨ j = t ∨ v.ownBlock = some j) w6 ⟨t, 1, none⟩ (.slice a6 l6 c6) (Or.inr (Or.inl rfl)))) ?_
            clear hK
            conv => arg 8; simp [Act.put]
            clear ht6 hc6 hf6
            refine wpAnyH_done (by kernel_rfl) ?_ _
            go_wp2
            go_roundw
            case rel =>
              obtain ⟨k', v', Q', S', e1, e2, e3, e4, e5, e7, e8, e9, e10, e11⟩ := HREL.out _ _ w6 v4 HO6.out HS6.out HN6.out HR5.out HL5.out HZ5.out
              exact ⟨k', v', Q', S', e1, by subst e2; go_num, e3, e4, e5, e7, e8, e9, e10, e11⟩
            case measure => simp [intOf]; omega
          exact AllReadyH.nil
        exact AllReadyH.nil
      exact AllReadyH.nil
    · obtain rfl : k = N := by omega
      have HC6' := Pk.rtext_any X wr r s 9223372036854775807 hrd.out (by have := hsl.out; omega) (by decide)
      have hl2 := take_len (rule := textB 9223372036854775807) (zero := []) (textB_len _) s
      generalize takeB (textB 9223372036854775807) [] s = z2 at *
      obtain ⟨kl, s2⟩ := z2
      dsimp only at HC6' hl2
      have HC6 := Lib.hid (show Calls Tryz.prog 41 #[.pointer (some ⟨r, 0, none⟩), .int .i64 9223372036854775807] wr fun e w' => e = .returned (.string ⟨kl.toArray⟩) ∧ RdAt X w' r s2 ∧ Stay (fun k => k = r) wr w' from HC6')
      have HC8' := fun w3 (h3 : RdAt X w3 r s2) => Pk.rbytes_any X w3 r s2 9223372036854775807 h3 (by have := hsl.out; omega) (by decide)
      have hl3 := take_len (rule := textB 9223372036854775807) (zero := []) (textB_len _) s2
      have hle := text_val_le s2
      generalize takeB (textB 9223372036854775807) [] s2 = z3 at *
      obtain ⟨en, s3⟩ := z3
      dsimp only at HC8' hl3 hle
      have HC8 := Lib.hid (show ∀ w3, RdAt X w3 r s2 → Calls Tryz.prog 42 #[.pointer (some ⟨r, 0, none⟩), .int .i64 9223372036854775807] w3 fun e w' => (∃ v, e = .returned v ∧ Owns w3.heap.size w' v en) ∧ RdAt X w' r s3 ∧ Stay (fun k => k = r) w3 w' from HC8')
      have HL3 := Lib.hid (show en.length ≤ 10000000000 by have := hsl.out; omega)
      clear HC6' HC8' hl2 hl3 hle
      go_wp2_with fail
      refine HC6.out.mono ?_
      rintro y w6 ⟨rfl, hr6, hs6⟩
      have HR6 := Lib.hid hr6
      have ht6 := (hs6.block t (by omega) (fun h => hrt h.symm)).trans htb.out
      have HT6 := Lib.hid ht6
      have hc6 : w6.cell? ⟨t, 2, none⟩ = some (.string ⟨#[]⟩) := by rw [cell_of_row w6 t 2 _ _ _ ht6]; rfl
      have hf6 := frozen_of_row w6 t 2 _ _ ht6
      have HP6 := Lib.hid (show PcOwn (t + 1) w6 v Q from hpo.out.stay hs6 (fun j hj h => by have := (hpo.out.lt j hj).1; have := (HX1.out r hrX).2; have := HTW.out; omega) (fun z hz h0 j hj h => by have := hqb.out z hz h0 j hj; have := (HX1.out r hrX).2; have := HTW.out; omega))
      have HS6 := Lib.hid (show Stay (fun j => j = r ∨ j = t) wr w6 from hs6.mono (fun j hj => .inl hj))
      clear hr6 hs6 ht6
      go_wp2_with fail
      have hset : Stay (fun j => j = t) w6 (w6.setCell ⟨t, 2, none⟩ (.string ⟨kl.toArray⟩)) := Stay.setCell _ _ _ rfl
      have ht7 := heap_setCell_same w6 t 2 _ _ (.string ⟨kl.toArray⟩) HT6.out
      have HR7 := Lib.hid (HR6.out.stay hset (fun j hj _ h => by have := (HX1.out j hj).2; have := HTW.out; omega))
      have HP7 := Lib.hid (HP6.out.stay hset (fun j hj h => by have := (HP6.out.lt j hj).1; omega) (fun z hz h0 j hj h => by have := hqb.out z hz h0 j hj; omega))
      have HS7 := Lib.hid (HS6.out.trans (hset.mono (fun j hj => .inr hj)))
      obtain ⟨w7, hw7⟩ : ∃ w7, w6.setCell ⟨t, 2, none⟩ (.string ⟨kl.toArray⟩) = w7 := ⟨_, rfl⟩
      rw [hw7] at ht7 HR7 HP7 HS7 ⊢
      have HT7 := Lib.hid (show w7.heap[t]? = some (.cells (tbC n v kl (.pointer none)) 90 (0, 0)) from ht7)
      clear hset hw7 ht7 hc6 hf6 HR6 HP6 HT6
      refine (HC8.out w7 HR7.out).mono ?_
      rintro y w8 ⟨⟨v8, rfl, ho8⟩, hr8, hs8⟩
      have HR8 := Lib.hid hr8
      have HT8 := Lib.hid ((hs8.block t (by have := (Array.getElem?_eq_some_iff.1 HT7.out).1; omega) (fun h => hrt h.symm)).trans HT7.out)
      have HP8 := Lib.hid (show PcOwn (t + 1) w8 v Q from HP7.out.stay hs8 (fun j hj h => by have := (HP7.out.lt j hj).1; have := (HX1.out r hrX).2; have := HTW.out; omega) (fun z hz h0 j hj h => by have := hqb.out z hz h0 j hj; have := (HX1.out r hrX).2; have := HTW.out; omega))
      have HS8 := Lib.hid (HS7.out.trans (hs8.mono (fun j hj => .inl hj)))
      have HSL8 := Lib.hid ho8.slc
      clear hr8 hs8 ho8 HR7 HT7 HP7
      go_wp2_with fail
      refine (Bo.decode_any w8 v8 en HSL8.out (Nat.le_trans HL3.out (by decide))).mono ?_
      rintro y w9 ⟨hret, hs9⟩
      unfold Bo.DecRet at hret
      have hret' : ∃ pf ev, y = .returned (.tuple #[.pointer pf, ev]) ∧ (ev = .nilIface ∨ ev = .iface 64 (.int .i64 3)) := by
        by_cases hgd : Bo.goodB en = true
        · rw [if_pos hgd] at hret
          obtain ⟨pf, gf, h1, _⟩ := hret
          exact ⟨_, _, h1, .inl rfl⟩
        · rw [if_neg hgd] at hret
          exact ⟨_, _, hret, .inr rfl⟩
      obtain ⟨pf, ev, rfl, hev⟩ := hret'
      have HR9 := Lib.hid (HR8.out.stay0 hs9)
      have ht9 := (hs9.block t (by have := (Array.getElem?_eq_some_iff.1 HT8.out).1; omega) (fun x => x)).trans HT8.out
      have HP9 := Lib.hid (HP8.out.stay0 hs9)
      have HS9 := Lib.hid (HS8.out.trans (hs9.mono (fun _ x => x.elim)))
      have HT9 := Lib.hid ht9
      have hc9 : w9.cell? ⟨t, 3, none⟩ = some (.pointer none) := by rw [cell_of_row w9 t 3 _ _ _ ht9]; rfl
      have hf9' := frozen_of_row w9 t 3 _ _ ht9
      have hset : Stay (fun j => j = t) w9 (w9.setCell ⟨t, 3, none⟩ (.pointer pf)) := Stay.setCell _ _ _ rfl
      have ht10 := heap_setCell_same w9 t 3 _ _ (.pointer pf) HT9.out
      have HR10 := Lib.hid (HR9.out.stay hset (fun j hj _ h => by have := (HX1.out j hj).2; have := HTW.out; omega))
      have HP10 := Lib.hid (HP9.out.stay hset (fun j hj h => by have := (HP9.out.lt j hj).1; omega) (fun z hz h0 j hj h => by have := hqb.out z hz h0 j hj; omega))
      have HS10 := Lib.hid (HS9.out.trans (hset.mono (fun j hj => .inr hj)))
      obtain ⟨w10, hw10⟩ : ∃ w10, w9.setCell ⟨t, 3, none⟩ (.pointer pf) = w10 := ⟨_, rfl⟩
      rw [hw10] at ht10 HR10 HP10 HS10
      have HTA := Lib.hid (show TbR w10 t n v Q.length kl from ⟨⟨_, ht10⟩, by omega, by have := hql.out; omega, fun h => by
          obtain ⟨a, c, e⟩ := HP10.out.form
          exact ⟨a, c, by rw [e, h]⟩, fun h => HP10.out.rd h⟩)
      have HFIN := Lib.hid (show Stay (fun _ => False) w w10 from stay_seal (X := fun j => w.heap.size ≤ j) ((HT.out.mono (fun _ x => x.elim)).trans (HS10.out.mono (fun j hj => by have h1 := (HX1.out r hrX).1; have h2 := HTW.out; rcases hj with hj | hj <;> omega))) (fun j hj => hj))
      have W10 := Lib.hid hw10
      clear hs9 ht9 HR8 HT8 HP8 hset hw10 ht10 HR9 HP9 HT9 HP10 HS10 HS9 HS8 HS7 hret
      rcases hev with rfl | rfl
      · go_wp2_with fail
        rw [W10.out]
        refine (Pk.rdone_any X w10 r s3 HR10.out).mono ?_
        rintro y w11 ⟨rfl, rfl⟩
        by_cases hd : doneB s3 = 0
        · rw [hd, Pk.errV_zero]
          go_wp2_with fail
          refine (formed_gen w10 t n v Q.length kl HTA.out).mono ?_
          rintro y w12 ⟨⟨bo, rfl⟩, hs12⟩
          have HFIN12 := Lib.hid (HFIN.out.trans hs12)
          clear hs12
          cases bo
          · go_wp2
            go_ret2
            exact ⟨⟨_, _, rfl⟩, HFIN12.out⟩
          · go_wp2
            go_ret2
            exact ⟨⟨_, _, rfl⟩, HFIN12.out⟩
        · rw [Pk.errV_pos hd]
          unfold Pk.errI
          go_wp2
          go_ret2
          exact ⟨⟨_, _, rfl⟩, HFIN.out⟩
      · go_wp2
        rw [W10.out]
        go_ret2
        exact ⟨⟨_, _, rfl⟩, HFIN.out⟩
end Go.Proofs.YteogdihacohkfaaGreatDoor.Tb
