/-
  The document's answer (chapter 2): a reader's Bytes (and texts).
-/
import Derived.Test.YtgchdgdhjafdbaaDoorPkRefC
namespace Go.Proofs.YtgchdgdhjafdbaaDoor.Pk
open Go.RowKit
set_option maxRecDepth 100000

/-- What the document's reader hands back with bytes. -/
def BytRet (w : World) (x : Value) (t : List UInt8 × RS) (e : Ending) : Prop := ∃ x' v', e = .returned (.tuple #[rdV x' t.2.err, v']) ∧ Sub w x x' t.2.b ∧ Sub w x v' t.1

theorem Sub.nil (w : World) (x : Value) : Sub w x (.slice none 0 0) [] := ⟨⟨none, 0, rfl, fun h => by simp at h, fun _ => rfl, Nat.le_refl _, by decide⟩, fun _ e => by cases e⟩

/-- The end behind 'fail': the reader as it was, with an error. -/
theorem byt_fail {w W : World} {a0 : Option Addr} {cap : Nat} {b : List UInt8} {c : Nat} (h : Slc w (.slice a0 b.length cap) b) (hs : Stay (fun _ => False) w W) : BytRet W (.slice a0 b.length cap) ([], ⟨b, c⟩) (.returned (.tuple #[rdV (.slice a0 b.length cap) c, .slice none 0 0])) :=
  ⟨_, _, rfl, Sub.stay0 (Sub.refl h) hs, Sub.nil _ _⟩

set_option maxHeartbeats 4000000 in
theorem rrbytes_any (b : List UInt8) (err : Nat) (most : Int) (w : World) (x : Value) (hx : Slc w x b) (hmost : most ≤ 9223372036854775807) : Calls Tryd.prog 30 #[rdV x err, .int .i64 most] w fun e w' => BytRet w' x (takeB (textB most) [] ⟨b, err⟩) e ∧ Stay (fun _ => False) w w' := by
  have HX := Lib.hid hx
  obtain ⟨TK, htk⟩ : ∃ TK, TK = takeB (textB most) [] ⟨b, err⟩ := ⟨_, rfl⟩
  rw [← htk]
  have HT := Lib.hid htk
  clear htk
  obtain ⟨a0, cap, rfl, hr, hn, hcap, hcm⟩ := hx
  have hlen : (b.length : Int) ≤ 9223372036854775807 := by omega
  clear hr hn
  unfold rdV
  by_cases he : err = 0
  · subst he
    by_cases hneg : most < 0
    · have HTK := Lib.hid (HT.out.trans (takeB_zero_err (zero := ([] : List UInt8)) (textB_neg hneg)))
      go_enter Tryd.func30, Tryd.ntmps30
      go_wp2_with fail
      refine (fail_new _ _ _ 1 _ _ rfl).mono ?_
      rintro e w2 ⟨rfl, hs2⟩
      obtain ⟨hb0, hb1⟩ := two_boxes hs2
      obtain ⟨d10, d11, g10, g11⟩ := two_cells hb1
      have hst2 : Stay (fun _ => False) w w2 := ((Stay.alloc _ _).trans (Stay.alloc _ _)).trans hs2
      clear hs2 hb0 hb1
      unfold rdV
      go_wp2
      have hfin := stay_set2 (B := w.heap.size + 1) hst2 (by omega) (.slice a0 b.length cap) (.int .i64 (1 : Int))
      refine bodyPost_ret (v := .tuple #[rdV (.slice a0 b.length cap) 1, .slice none 0 0]) (by simp [results, Tryd.results30, go_sem, d10, d11]; rfl) rfl ⟨?_, hfin⟩
      rw [HTK.out]
      exact byt_fail HX.out hfin
    · have HNEG := Lib.hid (show 0 ≤ most by omega)
      have hwm : IntKind.u64.wrap most = most := IntWalk.u64_in _ (by omega)
      go_enter Tryd.func30, Tryd.ntmps30
      go_wp2_with fail
      refine (rnum_any b _ _ (HX.out.stay0 ((Stay.alloc _ _).trans (Stay.alloc _ _)))).mono ?_
      rintro e w1 ⟨hret, hs1⟩
      obtain ⟨hb0, hb1⟩ := two_boxes hs1
      obtain ⟨c00, c01, f00, f01⟩ := two_cells hb0
      obtain ⟨c10, c11, f10, f11⟩ := two_cells hb1
      have hst : Stay (fun _ => False) w w1 := ((Stay.alloc _ _).trans (Stay.alloc _ _)).trans hs1
      have HB1 := Lib.hid hb1
      clear hb0 hb1 hs1
      cases hnr : numB M64 b with
      | error c =>
        rw [hnr] at hret
        obtain rfl := hret
        have hc0 := numB_err hnr
        have hcb : ((c : Int) == 0) = false := beq_eq_false_iff_ne.2 (by omega)
        have HTK := Lib.hid (HT.out.trans (takeB_zero_err (zero := ([] : List UInt8)) (textB_err (Int.not_lt.2 HNEG.out) hnr)))
        clear hnr hc0
        go_wp2_with fail
        refine (fail_new _ _ _ c _ _ rfl).mono ?_
        rintro e w2 ⟨rfl, hs2⟩
        have hst2 := hst.trans hs2
        obtain ⟨d10, d11, g10, g11⟩ := two_cells ((hs2.block _ (lt_of_block HB1.out) (fun x => x)).trans HB1.out)
        clear c00 c01 f00 f01 c10 c11 f10 f11 hst hs2
        unfold rdV
        go_wp2
        have hfin := stay_set2 (B := w.heap.size + 1) hst2 (by omega) (.slice a0 b.length cap) (.int .i64 (c : Int))
        refine bodyPost_ret (v := .tuple #[rdV (.slice a0 b.length cap) c, .slice none 0 0]) (by simp [results, Tryd.results30, go_sem, d10, d11]; rfl) rfl ⟨?_, hfin⟩
        rw [HTK.out]
        exact byt_fail HX.out hfin
      | ok p =>
        obtain ⟨n, r⟩ := p
        rw [hnr] at hret
        obtain ⟨k, hk, hrk, rfl⟩ := hret
        subst hrk
        have hdl : (b.drop k).length = b.length - k := List.length_drop
        have hnl := numB_le hnr
        unfold M64 at hnl
        have hwl : IntKind.u64.wrap ((b.length : Int) - (k : Int)) = (b.length : Int) - (k : Int) := IntWalk.u64_in _ (by omega)
        have HN := Lib.hid hnr
        clear hnr
        by_cases h1 : most < (n : Int)
        · have HTK := Lib.hid (HT.out.trans (takeB_zero_err (zero := ([] : List UInt8)) (textB_long (Int.not_lt.2 HNEG.out) HN.out h1)))
          go_wp2_with fail
          refine (fail_new _ _ _ 2 _ _ rfl).mono ?_
          rintro e w2 ⟨rfl, hs2⟩
          have hst2 := hst.trans hs2
          obtain ⟨d10, d11, g10, g11⟩ := two_cells ((hs2.block _ (lt_of_block HB1.out) (fun x => x)).trans HB1.out)
          clear c00 c01 f00 f01 c10 c11 f10 f11 hst hs2
          unfold rdV
          go_wp2
          have hfin := stay_set2 (B := w.heap.size + 1) hst2 (by omega) (.slice a0 b.length cap) (.int .i64 (2 : Int))
          refine bodyPost_ret (v := .tuple #[rdV (.slice a0 b.length cap) 2, .slice none 0 0]) (by simp [results, Tryd.results30, go_sem, d10, d11]; rfl) rfl ⟨?_, hfin⟩
          rw [HTK.out]
          exact byt_fail HX.out hfin
        · by_cases h2 : b.length - k < n
          · have HTK := Lib.hid (HT.out.trans (takeB_zero_err (zero := ([] : List UInt8)) (textB_end (Int.not_lt.2 HNEG.out) HN.out h1 (by rw [hdl]; exact h2))))
            have h2' : (b.length : Int) - (k : Int) < (n : Int) := by omega
            go_wp2_with fail
            refine (fail_new _ _ _ 12 _ _ rfl).mono ?_
            rintro e w2 ⟨rfl, hs2⟩
            have hst2 := hst.trans hs2
            obtain ⟨d10, d11, g10, g11⟩ := two_cells ((hs2.block _ (lt_of_block HB1.out) (fun x => x)).trans HB1.out)
            clear c00 c01 f00 f01 c10 c11 f10 f11 hst hs2
            unfold rdV
            go_wp2
            have hfin := stay_set2 (B := w.heap.size + 1) hst2 (by omega) (.slice a0 b.length cap) (.int .i64 (12 : Int))
            refine bodyPost_ret (v := .tuple #[rdV (.slice a0 b.length cap) 12, .slice none 0 0]) (by simp [results, Tryd.results30, go_sem, d10, d11]; rfl) rfl ⟨?_, hfin⟩
            rw [HTK.out]
            exact byt_fail HX.out hfin
          · have htk := HT.out.trans (takeB_ok (zero := ([] : List UInt8)) (s := ⟨b, 0⟩) rfl (textB_ok (Int.not_lt.2 HNEG.out) HN.out h1 (by rw [hdl]; exact h2)))
            rw [List.drop_drop] at htk
            have HTK := Lib.hid htk
            have hnk : k + n ≤ b.length := by omega
            have h2' : ¬ (b.length : Int) - (k : Int) < (n : Int) := by omega
            have hw : IntKind.i64.wrap (n : Int) = (n : Int) := IntWalk.i64_in _ (by omega)
            have hkn : (k : Int) + (n : Int) ≤ 9223372036854775807 := by omega
            have hcut := HX.out.cut hk
            have hfst := Slc.first (k := n) (by rw [← hdl] at hcut; exact hcut.1) (by rw [hdl]; omega)
            have HF := Lib.hid (show Sub w (.slice a0 b.length cap) (.slice (if cap = k then a0 else a0.map (·.add k)) n (cap - k)) ((b.drop k).take n) from ⟨hfst, fun g hg => hcut.2 g (by revert hg; generalize (if cap = k then a0 else a0.map (·.add k)) = a1; cases a1 <;> exact id)⟩)
            have HC2 := Lib.hid (HX.out.cut hnk)
            clear htk hcut hfst h2
            have hcases : (cap = k ∧ n = 0) ∨ (¬ cap = k ∧ cap = k + n) ∨ (¬ cap = k ∧ ¬ cap = k + n) := by omega
            rcases hcases with ⟨hck, hn0⟩ | ⟨hck, hckn⟩ | ⟨hck, hckn⟩
            · skip
              have HC3 := Lib.hid (show Sub w (.slice a0 b.length cap) (Value.slice a0 (b.length - k) 0) (b.drop (k + n)) by have h := HC2.out; rw [hn0, Nat.add_zero, if_pos hck, hck, Nat.sub_self] at h; rw [hn0, Nat.add_zero, hck]; exact h)
              have HF3 := Lib.hid (show Sub w (.slice a0 b.length cap) (Value.slice a0 0 0) ((b.drop k).take n) by have h := HF.out; rw [if_pos hck, hck, hn0, Nat.sub_self] at h; rw [hck, hn0]; exact h)
              clear HF HC2
              go_wp2
              have hfin := stay_set3 (A := w.heap.size) (B := w.heap.size + 1) hst (by omega) (by omega) (Value.slice a0 (b.length - k) 0) (Value.slice a0 (b.length - k) 0) (.int .i64 (0 : Int))
              refine bodyPost_ret (v := .tuple #[rdV (Value.slice a0 (b.length - k) 0) 0, Value.slice a0 0 0]) (by simp [results, Tryd.results30, go_sem, c10, c11]; rfl) rfl ⟨?_, hfin⟩
              rw [HTK.out]
              exact ⟨_, _, rfl, Sub.stay0 HC3.out hfin, Sub.stay0 HF3.out hfin⟩
            · skip
              have HC3 := Lib.hid (show Sub w (.slice a0 b.length cap) (Value.slice a0 (b.length - (k + n)) 0) (b.drop (k + n)) by have h := HC2.out; rw [if_pos hckn, hckn, Nat.sub_self] at h; rw [hckn]; exact h)
              have HF3 := Lib.hid (show Sub w (.slice a0 b.length cap) (Value.slice (a0.map (fun x => x.add k)) (k + n - k) n) ((b.drop k).take n) by have h := HF.out; rw [if_neg hck, hckn, Nat.add_sub_cancel_left] at h; rw [hckn, Nat.add_sub_cancel_left]; exact h)
              clear HF HC2
              go_wp2
              have hfin := stay_set3 (A := w.heap.size) (B := w.heap.size + 1) hst (by omega) (by omega) (Value.slice a0 (b.length - (k + n)) 0) (Value.slice a0 (b.length - (k + n)) 0) (.int .i64 (0 : Int))
              refine bodyPost_ret (v := .tuple #[rdV (Value.slice a0 (b.length - (k + n)) 0) 0, Value.slice (a0.map (fun x => x.add k)) (k + n - k) n]) (by simp [results, Tryd.results30, go_sem, c10, c11]; rfl) rfl ⟨?_, hfin⟩
              rw [HTK.out]
              exact ⟨_, _, rfl, Sub.stay0 HC3.out hfin, Sub.stay0 HF3.out hfin⟩
            · skip
              have HC3 := Lib.hid (show Sub w (.slice a0 b.length cap) (Value.slice (a0.map (fun x => x.add (k + n))) (b.length - (k + n)) (cap - (k + n))) (b.drop (k + n)) by have h := HC2.out; rw [if_neg hckn] at h; exact h)
              have HF3 := Lib.hid (show Sub w (.slice a0 b.length cap) (Value.slice (a0.map (fun x => x.add k)) (k + n - k) (cap - k)) ((b.drop k).take n) by have h := HF.out; rw [if_neg hck] at h; rw [Nat.add_sub_cancel_left]; exact h)
              clear HF HC2
              go_wp2
              have hfin := stay_set3 (A := w.heap.size) (B := w.heap.size + 1) hst (by omega) (by omega) (Value.slice (a0.map (fun x => x.add (k + n))) (b.length - (k + n)) (cap - (k + n))) (Value.slice (a0.map (fun x => x.add (k + n))) (b.length - (k + n)) (cap - (k + n))) (.int .i64 (0 : Int))
              refine bodyPost_ret (v := .tuple #[rdV (Value.slice (a0.map (fun x => x.add (k + n))) (b.length - (k + n)) (cap - (k + n))) 0, Value.slice (a0.map (fun x => x.add k)) (k + n - k) (cap - k)]) (by simp [results, Tryd.results30, go_sem, c10, c11]; rfl) rfl ⟨?_, hfin⟩
              rw [HTK.out]
              exact ⟨_, _, rfl, Sub.stay0 HC3.out hfin, Sub.stay0 HF3.out hfin⟩
  · have hb : ((err : Int) == 0) = false := beq_eq_false_iff_ne.2 (by omega)
    have HTK := Lib.hid (HT.out.trans (takeB_bad (zero := ([] : List UInt8)) (s := ⟨b, err⟩) he))
    go_enter Tryd.func30, Tryd.ntmps30
    go_wp2
    refine bodyPost_ret (v := .tuple #[rdV (.slice a0 b.length cap) err, .slice none 0 0]) (by simp [results, Tryd.results30, go_sem]; rfl) rfl ⟨?_, (Stay.alloc _ _).trans (Stay.alloc _ _)⟩
    rw [HTK.out]
    exact byt_fail HX.out ((Stay.alloc _ _).trans (Stay.alloc _ _))

end Go.Proofs.YtgchdgdhjafdbaaDoor.Pk
