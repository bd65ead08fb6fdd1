/-
  The document's answer (chapter 11): the filter of bytes.
-/
import Derived.Test.YtgchdgdhjafdbaaDoorBoU
import Derived.Test.YtgchdgdhjafdbaaDoorBoQ
import Derived.Test.YtgchdgdhjafdbaaDoorPkRefD
import Derived.Test.YtgchdgdhjafdbaaDoorPkRefI
namespace Go.Proofs.YtgchdgdhjafdbaaDoor.Bo
open Go.RowKit Pk
set_option maxRecDepth 100000

theorem midB_set {B : List Bool} {i : Nat} (h : i < B.length) : (midB B i).set i (B.getD i false) = midB B (i + 1) := by
  cases hb : B.getD i false
  · rw [midB_no h hb]
    refine bits_eq (by rw [List.length_set]) (fun n => ?_)
    rw [getD_set (by rw [midB_len (Nat.le_of_lt h)]; exact h), midB_at (Nat.le_of_lt h)]
    by_cases e : n = i
    · subst e; simp
    · rw [if_neg e]
  · exact (midB_yes h hb).symm
theorem rem_table : ∀ c : Fin 256, ∀ j : Fin 8, (((((c.val : Nat) : Int) / (2 : Int) ^ j.val).tmod 2) == 1) = c.val.testBit j.val := by decide +kernel
theorem rdone_at (s : RS) (w : World) (x : Value) (hx : Slc w x s.b) : Calls Tryd.prog 31 #[.agg #[x, .int .i64 (s.err : Int)]] w fun e w' => e = .returned (.int .i64 (doneB s : Nat)) ∧ Stay (fun _ => False) w w' := rdone_ref s.b s.err w x hx

theorem run_make_boolU (w : World) (n : Nat) (hn : n ≤ 4294967296) : (Instr.makeSlice 31 (.int .u64 (n : Int)) (.int .u64 (n : Int))).run Tryd.prog w = .ok (.slice (some ⟨w.heap.size, 0, none⟩) n n) (w.alloc (.cells (cellsT (List.replicate n false)).toArray 4)) := by
  obtain ⟨i0, hi, hz0, hz1, hz2⟩ := info_parts infoB
  have hm := run_make (P := Tryd.prog) w 31 4 i0 (.bool false) Tryd.underlying31 hi hz0 .u64 .u64 n n (by omega) (Int.le_refl _) (by rw [hz2]; omega) (by omega)
  rw [hz1, Int.toNat_natCast, Nat.mul_one, made_one _ rfl] at hm
  rw [show cellsT (List.replicate n false) = List.replicate n (.bool false) by simp [cellsT]]
  exact hm
section
variable {ops : Array Oper} {rest : List Oper} {o : Oper} {a : Act} {w : World} {Q : Exit → Act → World → Prop}
theorem make_boolU (hgd : o.guard = none) (x y : Operand) (ho : o.op = .makeSlice 31 x y) (n : Nat) (hx : a.eval x = .int .u64 (n : Int)) (hy : a.eval y = .int .u64 (n : Int)) (hn : n ≤ 4294967296)
    (h : ∀ w1, TO w.heap.size w1 (.slice (some ⟨w.heap.size, 0, none⟩) n n) (List.replicate n false) → Stay (fun _ => False) w w1 → w1.heap.size = w.heap.size + 1 → wpList Tryd.prog ops Q rest (a.put o.dst (.slice (some ⟨w.heap.size, 0, none⟩) n n)) w1) : wpList Tryd.prog ops Q (o :: rest) a w :=
  wpList_plain hgd fun _ hK => by
    unfold Oper.wp execOp
    simp only [ho, hx, hy, Sem.run_bind, Sem.run_pure, run_make_boolU w n hn, Result.andThen_ok]
    refine hK _ _ (h _ ?_ (Stay.alloc _ _) (by simp))
    have := row_made w 4 (cellsT (List.replicate n false)) (by rw [len_T]; unfold maxLen; simp; omega)
    rw [len_T] at this
    unfold TO
    rw [List.length_replicate] at this ⊢
    exact this
end
theorem slc_stay {X : Nat → Prop} {w w' : World} {x : Value} {b : List UInt8} (h : Slc w x b) (hs : Stay X w w') (hx : 0 < b.length → ∀ k, x.ownBlock = some k → ¬ X k) : Slc w' x b := by
  obtain ⟨a0, c, rfl, hr, hn⟩ := h
  exact ⟨a0, c, rfl, hr.stay hs (fun h0 ad ha => hx h0 ad.block (by rw [ha]; rfl)), hn⟩
/-- A slice that reads as bytes, which lie in elder blocks. -/
structure In0 (B : Nat) (w : World) (x : Value) (b : List UInt8) : Prop where
  slc : Slc w x b
  lt : 0 < b.length → ∀ k, x.ownBlock = some k → k < B
theorem In0.stay {B : Nat} {w w' : World} {x : Value} {b : List UInt8} (h : In0 B w x b) (hs : Stay (fun k => B ≤ k) w w') : In0 B w' x b :=
  ⟨slc_stay h.slc hs (fun h0 k hk hB => by have := h.lt h0 k hk; omega), h.lt⟩
theorem In0.sub {B : Nat} {w w' : World} {x y : Value} {b c : List UInt8} (h : In0 B w x b) (hy : Sub w' x y c) (hl : c.length ≤ b.length) : In0 B w' y c :=
  ⟨hy.1, fun h0 k hk => h.lt (by omega) k (hy.2 k hk)⟩
theorem In0.form {B : Nat} {w : World} {x : Value} {b : List UInt8} (h : In0 B w x b) : ∃ a c, x = .slice a b.length c := by
  obtain ⟨a, c, e, _⟩ := h.slc
  exact ⟨a, c, e⟩
theorem take_text_len (m : Int) (s : RS) : (takeB (textB m) [] s).1.length ≤ s.b.length ∧ (takeB (textB m) [] s).2.b.length ≤ s.b.length := by
  by_cases he : s.err = 0
  · cases hv : textB m s.b with
    | error c => rw [takeB_error he hv]; exact ⟨Nat.zero_le _, Nat.le_refl _⟩
    | ok p =>
      obtain ⟨v, r⟩ := p
      rw [takeB_ok he hv]
      obtain ⟨r1, h1, _, h3, h4, _⟩ := text_of hv
      have := numB_len h1
      refine ⟨by show v.length ≤ s.b.length; omega, ?_⟩
      show r.length ≤ s.b.length
      rw [h3, List.length_drop]
      omega
  · rw [takeB_bad he]; exact ⟨Nat.zero_le _, Nat.le_refl _⟩
/-- A block of two cells written anew. -/
theorem two_put {w : World} {B : Nat} {a0 v0 a v : Value} {t : TypeId} (h : w.heap[B]? = some (.cells #[a0, v0] t (0, 0))) : ((w.setCell ⟨B, 0, none⟩ a).setCell ⟨B, 1, none⟩ v).heap[B]? = some (.cells #[a, v] t (0, 0)) := two_set1 (two_set0 h (u := a)) (u := v)
theorem stay_put {X : Nat → Prop} (w : World) (B : Nat) (a v : Value) (h : X B) : Stay X w ((w.setCell ⟨B, 0, none⟩ a).setCell ⟨B, 1, none⟩ v) :=
  ((Stay.setCell (X := fun k => k = B) w ⟨B, 0, none⟩ a rfl).trans (Stay.setCell (X := fun k => k = B) _ ⟨B, 1, none⟩ v rfl)).mono (fun k (e : k = B) => e ▸ h)

/-- What the document's Decode answers. -/
def RDecRet (w w' : World) (b : List UInt8) (e : Ending) : Prop :=
  if goodB b = true then ∃ u, e = .returned (.tuple #[RV (decK b).1 u, .int .i64 0]) ∧ TO w.heap.size w' u (decBits b) else e = .returned (.tuple #[RV 0 (.slice none 0 0), .int .i64 3])

set_option maxHeartbeats 4000000 in
theorem rdecode_any (w : World) (v : Value) (b : List UInt8) (hv : Slc w v b) (hlen : b.length ≤ 140737488355328) :
    Calls Tryd.prog 9 #[v] w fun e w' => RDecRet w w' b e ∧ Stay (fun _ => False) w w' := by
  obtain ⟨R, hR⟩ : ∃ R : World → Ending → Prop, R = fun w' e => RDecRet w w' b e := ⟨_, rfl⟩
  have HRB := Lib.hid (show ∀ w', goodB b = false → R w' (.returned (.tuple #[.agg #[.int .i64 0, .slice none 0 0], .int .i64 3])) by
    intro w' hg
    rw [hR]
    show RDecRet _ _ _ _
    unfold RDecRet
    rw [if_neg (by rw [hg]; decide)]
    rfl)
  have HRG := Lib.hid (show ∀ w' u, goodB b = true → TO w.heap.size w' u (bitsOf (decA b).1 (rX b).1) → R w' (.returned (.tuple #[.agg #[.int .i64 ((decK b).1 : Nat), u], .int .i64 0])) by
    intro w' u hg h1
    rw [hR]
    show RDecRet _ _ _ _
    unfold RDecRet
    rw [if_pos hg]
    rw [good_rx hg] at h1
    exact ⟨u, rfl, h1⟩)
  rw [show (fun e w' => RDecRet w w' b e ∧ Stay (fun _ => False) w w') = fun e w' => R w' e ∧ Stay (fun _ => False) w w' by rw [hR]]
  clear hR
  obtain ⟨G, hG⟩ : ∃ G, G = goodB b := ⟨_, rfl⟩
  rw [← hG] at HRB HRG
  rw [good_r] at hG
  have hnl := Good.nle (b := b)
  have hkl := Good.kle (b := b)
  have hA : decA b = takeB (numB 1048576) 0 ⟨b, 0⟩ := rfl
  have hK : decK b = takeB (numB 16) 0 (decA b).2 := rfl
  have hX : rX b = takeB (textB (b.length : Int)) [] (decK b).2 := rfl
  generalize rX b = DX at *
  generalize decK b = DK at *
  generalize decA b = DA at *
  obtain ⟨n, ba, ea⟩ := DA
  obtain ⟨k, bk, ek⟩ := DK
  obtain ⟨x, bx, ex⟩ := DX
  dsimp only at *
  have HG := Lib.hid hG
  have HA := Lib.hid hA
  have HK := Lib.hid hK
  have HX := Lib.hid hX
  have hal := take_b_len 1048576 ⟨b, 0⟩
  rw [← hA] at hal
  have hkb := take_b_len 16 ⟨ba, ea⟩
  rw [← hK] at hkb
  have hxb := take_text_len (b.length : Int) ⟨bk, ek⟩
  rw [← hX] at hxb
  dsimp only at hal hkb hxb
  have HAL := Lib.hid hal
  have HKB := Lib.hid hkb
  have HXB := Lib.hid hxb
  have hin : In0 w.heap.size w v b := ⟨hv, fun h0 => hv.blk_lt h0⟩
  have HIN := Lib.hid hin
  have HV := Lib.hid hv
  obtain ⟨va, vc, rfl, _, _, hcap, hcm⟩ := hv
  have hbl : (b.length : Int) ≤ 9223372036854775807 := by omega
  have hs0 : Stay (fun _ => False) w (w.alloc (.cells #[.int .i64 0, .slice none 0 0] 33)) := Stay.alloc _ _
  have HC1 := Lib.hid (rruint_at b 0 1048576 1048576 (w.alloc (.cells #[.int .i64 0, .slice none 0 0] 33)) (.slice va b.length vc) (.agg #[.slice va b.length vc, .int .i64 0]) rfl rfl (HV.out.stay0 hs0) (by unfold M64; omega))
  have HR0 := Lib.hid (heap_alloc_new w (.cells #[.int .i64 0, .slice none 0 0] 33))
  have HS0 := Lib.hid hs0
  clear hG hA hK hX hs0 hal hkb hxb hin
  go_enter Tryd.func9, Tryd.ntmps9
  go_wp2_with fail
  refine HC1.out.mono ?_
  rw [← HA.out]
  rintro e w1 ⟨⟨x1, rfl, hx1⟩, hs1⟩
  dsimp only at hx1 ⊢
  obtain ⟨a1, c1, rfl⟩ : ∃ a1 c1, x1 = .slice a1 ba.length c1 := by obtain ⟨a, c, e, _⟩ := hx1.1; exact ⟨a, c, e⟩
  have hS1 : Stay (fun _ => False) w w1 := HS0.out.trans hs1
  have hz1 : w.heap.size < w1.heap.size := by have := hs1.size; simp at this; omega
  have HIN1 := Lib.hid ((HIN.out.stay (hS1.mono (fun _ x => x.elim))).sub hx1 HAL.out)
  have HS1 := Lib.hid hS1
  have HR1 := Lib.hid ((hs1.block w.heap.size (by simp) (fun x => x)).trans HR0.out)
  obtain ⟨B, hB⟩ : ∃ B, B = w1.heap.size := ⟨_, rfl⟩
  have hBw : w.heap.size < B := by omega
  have HBW := Lib.hid hBw
  have hb2 := heap_alloc_new w1 (.cells #[.slice a1 ba.length c1, .int .i64 (ea : Int)] 67)
  rw [← hB] at hb2
  have HB2 := Lib.hid hb2
  have HB := Lib.hid hB
  clear hx1 hs1 hS1 hz1 hBw hb2 hB
  unfold rdV u64V
  go_wp2_with fail
  refine (rruint_at ba ea 16 16 _ (.slice a1 ba.length c1) _ rfl rfl (HIN1.out.slc.stay0 (Stay.alloc _ _)) (by unfold M64; omega)).mono ?_
  rw [← HK.out, ← HB.out]
  rintro e w2 ⟨⟨x2, rfl, hx2⟩, hs2⟩
  dsimp only at hx2 ⊢
  have hin2 : In0 w.heap.size w2 x2 bk := (HIN1.out.stay (((Stay.alloc w1 _).trans hs2).mono (fun _ x => x.elim))).sub hx2 HKB.out
  obtain ⟨a2, c2, rfl⟩ := hin2.form
  have hS2 : Stay (fun _ => False) w w2 := HS1.out.trans ((Stay.alloc w1 _).trans hs2)
  have hbr := (hs2.block B (lt_of_block HB2.out) (fun x => x)).trans HB2.out
  obtain ⟨r0, r1, f0, f1⟩ := two_cells hbr
  have HR2 := Lib.hid (((Stay.alloc (X := fun _ => False) w1 _).trans hs2 |>.block w.heap.size (lt_of_block HR1.out) (fun x => x)).trans HR1.out)
  obtain ⟨w3, hw3⟩ : ∃ w3, w3 = (w2.setCell ⟨B, 0, none⟩ (.slice a2 bk.length c2)).setCell ⟨B, 1, none⟩ (.int .i64 (ek : Int)) := ⟨_, rfl⟩
  have hs3 : Stay (fun k => k = B) w2 w3 := by rw [hw3]; exact stay_put w2 B _ _ rfl
  have HB3 := Lib.hid (show w3.heap[B]? = some (.cells #[.slice a2 bk.length c2, .int .i64 (ek : Int)] 67 (0, 0)) by rw [hw3]; exact two_put hbr)
  have HS3 := Lib.hid (show Stay (fun _ => False) w w3 from stay_seal (X := fun k => w.heap.size ≤ k) ((hS2.mono (fun _ x => x.elim)).trans (hs3.mono (fun k (e : k = B) => by have := HBW.out; omega))) (fun k hk => hk))
  have HIN3 := Lib.hid (hin2.stay (hs3.mono (fun k (e : k = B) => by have := HBW.out; omega)))
  have HR3 := Lib.hid ((hs3.block w.heap.size (lt_of_block HR2.out) (fun (e : w.heap.size = B) => by have := HBW.out; omega)).trans HR2.out)
  have HW3 := Lib.hid hw3
  clear hin2 hS2 hbr hs3 hw3 hs2 hx2
  unfold rdV u64V
  go_wp2_with fail
  rw [← HW3.out]
  clear r0 r1 f0 f1
  refine (rrbytes_any bk ek (b.length : Int) w3 (.slice a2 bk.length c2) HIN3.out.slc (by omega)).mono ?_
  rw [← HX.out]
  rintro e w4 ⟨⟨x3, y3, rfl, hx3, hy3⟩, hs4⟩
  dsimp only at hx3 hy3 ⊢
  have hin3 : In0 w.heap.size w4 x3 bx := (HIN3.out.stay (hs4.mono (fun _ x => x.elim))).sub hx3 HXB.out.2
  have hin4 : In0 w.heap.size w4 y3 x := (HIN3.out.stay (hs4.mono (fun _ x => x.elim))).sub hy3 HXB.out.1
  obtain ⟨a3, c3, rfl⟩ := hin3.form
  obtain ⟨a4, c4, rfl⟩ := hin4.form
  have hbr := (hs4.block B (lt_of_block HB3.out) (fun x => x)).trans HB3.out
  obtain ⟨r0, r1, f0, f1⟩ := two_cells hbr
  obtain ⟨w5, hw5⟩ : ∃ w5, w5 = (w4.setCell ⟨B, 0, none⟩ (.slice a3 bx.length c3)).setCell ⟨B, 1, none⟩ (.int .i64 (ex : Int)) := ⟨_, rfl⟩
  have hs5 : Stay (fun k => k = B) w4 w5 := by rw [hw5]; exact stay_put w4 B _ _ rfl
  have HS5 := Lib.hid (show Stay (fun _ => False) w w5 from stay_seal (X := fun k => w.heap.size ≤ k) (((HS3.out.trans hs4).mono (fun _ x => x.elim)).trans (hs5.mono (fun k (e : k = B) => by have := HBW.out; omega))) (fun k hk => hk))
  have HIN5 := Lib.hid (hin3.stay (hs5.mono (fun k (e : k = B) => by have := HBW.out; omega)))
  have HX5 := Lib.hid (hin4.stay (hs5.mono (fun k (e : k = B) => by have := HBW.out; omega)))
  have HR5 := Lib.hid ((hs5.block w.heap.size (lt_of_block ((hs4.block _ (lt_of_block HR3.out) (fun x => x)).trans HR3.out)) (fun (e : w.heap.size = B) => by have := HBW.out; omega)).trans ((hs4.block _ (lt_of_block HR3.out) (fun x => x)).trans HR3.out))
  have HW5 := Lib.hid hw5
  clear hin3 hin4 hbr hs5 hw5 hs4 hx3 hy3
  unfold rdV
  go_wp2_with fail
  rw [← HW5.out]
  clear r0 r1 f0 f1
  refine (rdone_at ⟨bx, ex⟩ w5 (.slice a3 bx.length c3) HIN5.out.slc).mono ?_
  rintro e w6 ⟨rfl, hs6⟩
  have HS6 := Lib.hid (HS5.out.trans hs6)
  have HX6 := Lib.hid (HX5.out.stay (hs6.mono (fun _ x => x.elim)))
  have hr6 := (hs6.block _ (lt_of_block HR5.out) (fun x => x)).trans HR5.out
  obtain ⟨r0, r1, f0, f1⟩ := two_cells hr6
  have HR6 := Lib.hid hr6
  clear hs6 hr6
  have hxl : (x.length : Int) ≤ 9223372036854775807 := by have := HXB.out.1; have := HKB.out; have := HAL.out; omega
  obtain ⟨dn, hdn⟩ : ∃ dn, dn = doneB ⟨bx, ex⟩ := ⟨_, rfl⟩
  rw [← hdn] at HG ⊢
  clear hdn
  by_cases hd : dn = 0
  · subst hd
    by_cases hn0 : n = 0
    · have HGF := Lib.hid (show G = false by rw [HG.out, decide_eq_false (p := 1 ≤ n) (by omega)]; simp)
      subst hn0
      go_wp2
      obtain ⟨d0, d1⟩ := rnew_end (a := .int .i64 0) (v := .slice none 0 0) HR6.out
      have hsE : Stay (fun _ => False) w ((w6.setCell ⟨w.heap.size, 0, none⟩ (.int .i64 0)).setCell ⟨w.heap.size, 1, none⟩ (.slice none 0 0)) := stay_set2 HS6.out (Nat.le_refl _) _ _
      exact bodyPost_ret (v := .tuple #[.agg #[.int .i64 0, .slice none 0 0], .int .i64 3]) (by simp [results, Tryd.results9, go_sem, d0, d1]) rfl ⟨HRB.out _ HGF.out, hsE⟩
    · have hn1 : 1 ≤ n := by omega
      have hnz : ((n : Int) == 0) = false := beq_eq_false_iff_ne.2 (by omega)
      by_cases hk0 : k = 0
      · have HGF := Lib.hid (show G = false by rw [HG.out, decide_eq_false (p := 1 ≤ k) (by omega)]; simp)
        subst hk0
        go_wp2
        obtain ⟨d0, d1⟩ := rnew_end (a := .int .i64 0) (v := .slice none 0 0) HR6.out
        have hsE : Stay (fun _ => False) w ((w6.setCell ⟨w.heap.size, 0, none⟩ (.int .i64 0)).setCell ⟨w.heap.size, 1, none⟩ (.slice none 0 0)) := stay_set2 HS6.out (Nat.le_refl _) _ _
        exact bodyPost_ret (v := .tuple #[.agg #[.int .i64 0, .slice none 0 0], .int .i64 3]) (by simp [results, Tryd.results9, go_sem, d0, d1]) rfl ⟨HRB.out _ HGF.out, hsE⟩
      · have hk1 : 1 ≤ k := by omega
        have hkz : ((k : Int) == 0) = false := beq_eq_false_iff_ne.2 (by omega)
        have hnd : ((n : Int) + 7) / 8 = (need n : Nat) := by unfold need; omega
        obtain ⟨m, hm⟩ : ∃ m, m = need n := ⟨_, rfl⟩
        have HM := Lib.hid (show m = (n + 7) / 8 from hm)
        rw [← hm] at hnd HG
        clear hm
        by_cases hl : x.length = m
        · subst hl
          obtain ⟨gt, hgt⟩ : ∃ gt, gt = w6.heap.size := ⟨_, rfl⟩
          have HGT := Lib.hid hgt
          clear hgt r0 r1 f0 f1
          go_wp2_with (at_make; refine make_boolU rfl (.tmp 52) (.tmp 52) rfl n rfl rfl (by omega) ?_; intro w7 ho7 hs7 hz7; have HO7 := Lib.hid ho7; have HS7 := Lib.hid hs7; have HZ7 := Lib.hid hz7; clear ho7 hs7 hz7)
          have hw68 : Stay (fun _ => False) w6 (w7.alloc (.cells #[.int .i64 (k : Int), .slice (some ⟨w6.heap.size, 0, none⟩) n n] 33)) := HS7.out.trans (Stay.alloc _ _)
          have hp8 := heap_alloc_new w7 (.cells #[.int .i64 (k : Int), .slice (some ⟨w6.heap.size, 0, none⟩) n n] 33)
          have ho8 := HO7.out.stay0 (Stay.alloc w7 (.cells #[.int .i64 (k : Int), .slice (some ⟨w6.heap.size, 0, none⟩) n n] 33))
          have hr8 := (hw68.block _ (lt_of_block HR6.out) (fun x => x)).trans HR6.out
          have hz6 := HS6.out.size
          rw [← HGT.out] at hp8 ho8 ⊢
          obtain ⟨w8, hw8⟩ : ∃ w8, w8 = w7.alloc (.cells #[.int .i64 (k : Int), .slice (some ⟨gt, 0, none⟩) n n] 33) := ⟨_, rfl⟩
          have HS8 := Lib.hid (show Stay (fun _ => False) w6 w8 by rw [hw8, HGT.out]; exact hw68)
          obtain ⟨P, hP⟩ : ∃ P, P = w7.heap.size := ⟨_, rfl⟩
          rw [← hw8] at hp8 ho8 ⊢
          rw [← hP] at hp8 ⊢
          have HP8 := Lib.hid hp8
          have HO8 := Lib.hid ho8
          have HR8 := Lib.hid (show w8.heap[w.heap.size]? = some (.cells #[.int .i64 0, .slice none 0 0] 33 (0, 0)) by rw [hw8, HGT.out]; exact hr8)
          have HPG := Lib.hid (show P = gt + 1 by rw [hP, HZ7.out, HGT.out])
          have hx0 : 0 < x.length := by have := HM.out; omega
          have hxs : x.length ≤ 131072 := by have := HM.out; omega
          obtain ⟨ad, had, _⟩ : ∃ ad, a4 = some ad ∧ True := by
            obtain ⟨a9, c9, e9, hr9, _⟩ := HX6.out.slc
            cases e9
            obtain ⟨ad, e, _⟩ := hr9 hx0
            exact ⟨ad, e, trivial⟩
          subst had
          have HGW := Lib.hid (show w.heap.size < gt by have h1 := HGT.out; have h2 := lt_of_block HR6.out; omega)
          obtain ⟨D, hD⟩ : ∃ D, D = bitsOf n x := ⟨_, rfl⟩
          have HD := Lib.hid hD
          have HDL := Lib.hid (show D.length = n by rw [hD]; exact bitsOf_len _ _)
          rw [← hD] at HRG
          clear hw68 hp8 ho8 hr8 hw8 hP HO7 HS7 HZ7 hz6 hD
          go_loopw [9] (fun i wr => ∃ j : Nat, j ≤ 8 * x.length ∧ i = .int .i64 (j : Int) ∧ TO gt wr (.slice (some ⟨gt, 0, none⟩) n n) (midB D (min j n)) ∧ (∀ t, n ≤ t → t < j → bt x t = false) ∧ Stay (fun i => i = gt) w8 wr) (fun i _ => 8 * x.length - (intOf i).toNat)
          case atStart => exact ⟨0, Nat.zero_le _, rfl, by rw [Nat.zero_min, midB_zero, HDL.out]; exact HO8.out, fun t _ h => by omega, Stay.refl _ _⟩
          case round =>
            obtain ⟨j, hj, rfl, ho, hall, hst⟩ := hrel
            have HO := Lib.hid ho
            have HALL := Lib.hid hall
            have HST := Lib.hid hst
            have hwr : Stay (fun k => w.heap.size ≤ k) w6 wr := (HS8.out.mono (fun _ x => x.elim)).trans (hst.mono (fun i (e : i = gt) => by have := HGW.out; omega))
            have HWR := Lib.hid (show Stay (fun _ => False) w wr from stay_seal (X := fun k => w.heap.size ≤ k) ((HS6.out.mono (fun _ x => x.elim)).trans hwr) (fun k hk => hk))
            have hrr := (hst.block _ (lt_of_block HR8.out) (fun (e : w.heap.size = gt) => by have := HGW.out; omega)).trans HR8.out
            have HRR := Lib.hid hrr
            have HPR := Lib.hid ((hst.block _ (lt_of_block HP8.out) (fun (e : P = gt) => by have := HPG.out; omega)).trans HP8.out)
            have hxr := HX6.out.stay hwr
            clear ho hall hst hwr
            by_cases hlt : j < 8 * x.length
            · obtain ⟨c0, hc0⟩ : ∃ c0, x[j / 8]? = some c0 := ⟨_, List.getElem?_eq_getElem (by omega)⟩
              have hcx : wr.cell? (ad.add (j / 8)) = some (byteV c0) := by
                obtain ⟨a9, c9, e9, hr9, _⟩ := hxr.slc
                cases e9
                obtain ⟨ad2, e, hc⟩ := hr9 hx0
                cases e
                exact hc _ _ (by simp [cellsB, hc0])
              unfold byteV at hcx
              have hbt : bt x j = c0.toNat.testBit (j % 8) := by unfold bt; rw [List.getD_eq_getElem?_getD, hc0]; rfl
              have ht : (((((c0.toNat : Nat) : Int) / (2 : Int) ^ (j % 8)).tmod 2) == 1) = bt x j := by rw [hbt]; exact rem_table ⟨c0.toNat, c0.toNat_lt⟩ ⟨j % 8, Nat.mod_lt _ (by decide)⟩
              have hj8 : j / 8 < x.length := by omega
              clear hc0 hbt hxr hrr
              by_cases hjn : j < n
              · have hmin : min j n = j := Nat.min_eq_left (Nat.le_of_lt hjn)
                rw [hmin] at HO
                have hml : n = (midB D j).length := by rw [midB_len (by rw [HDL.out]; omega), HDL.out]
                have HML := Lib.hid hml
                obtain ⟨prq, hprq⟩ := two_cells HPR.out
                obtain ⟨p1, pf0, pf1⟩ := hprq
                have ct := TO.cell' HML.out HO.out (getD_of (B := midB D j) (n := j) (by rw [← HML.out]; exact hjn))
                have ft := TO.fr HML.out HO.out j
                have HSET := Lib.hid (show (midB D j).set j (bt x j) = midB D (min (j + 1) n) by
                  rw [Nat.min_eq_left hjn, ← midB_set (by rw [HDL.out]; exact hjn)]
                  congr 1
                  rw [HD.out, List.getD_eq_getElem?_getD, bitsOf_at x hjn]
                  rfl)
                clear hml hmin prq pf0 pf1
                have HTB := Lib.hid ht
                clear ht
                go_wp2
                rw [HTB.out]
                refine ⟨⟨j + 1, hlt, by go_num, ?_, fun t h1 h2 => HALL.out t h1 (by omega), HST.out.trans (Stay.setCell (X := fun i => i = gt) _ ⟨gt, j, none⟩ _ rfl)⟩, by simp [intOf]; omega⟩
                rw [← HSET.out]
                exact TO.set HML.out HO.out j (bt x j)
              · cases hbit : bt x j
                · rw [hbit] at ht
                  have HBIT := Lib.hid hbit
                  clear hbit
                  go_wp2
                  refine ⟨⟨j + 1, hlt, by go_num, ?_, fun t h1 h2 => ?_, HST.out⟩, by simp [intOf]; omega⟩
                  · have h := HO.out
                    rw [Nat.min_eq_right (by omega)] at h ⊢
                    exact h
                  · rcases Nat.lt_or_ge t j with h3 | h3
                    · exact HALL.out t h1 h3
                    · obtain rfl : t = j := by omega
                      exact HBIT.out
                · rw [hbit] at ht
                  have HGF := Lib.hid (show G = false by rw [HG.out, (odd_iff hn1 HM.out).2 ⟨j, by omega, hbit⟩]; simp)
                  obtain ⟨r0, r1, f0, f1⟩ := two_cells HRR.out
                  go_wp2
                  obtain ⟨d0, d1⟩ := rnew_end (a := .int .i64 0) (v := .slice none 0 0) HRR.out
                  have hsE : Stay (fun _ => False) w ((wr.setCell ⟨w.heap.size, 0, none⟩ (.int .i64 0)).setCell ⟨w.heap.size, 1, none⟩ (.slice none 0 0)) := stay_set2 HWR.out (Nat.le_refl _) _ _
                  exact bodyPost_ret (v := .tuple #[.agg #[.int .i64 0, .slice none 0 0], .int .i64 3]) (by simp [results, Tryd.results9, go_sem, d0, d1]) rfl ⟨HRB.out _ HGF.out, hsE⟩
            · obtain rfl : j = 8 * x.length := by omega
              have hGT : G = true := by
                rw [HG.out, decide_eq_true hn1, decide_eq_true hk1]
                have ho : oddB x n = false := by
                  cases h : oddB x n with
                  | false => rfl
                  | true =>
                    obtain ⟨i, h1, h2⟩ := (odd_iff hn1 HM.out).1 h
                    rcases Nat.lt_or_ge i (8 * x.length) with h3 | h3
                    · rw [HALL.out i h1 h3] at h2; cases h2
                    · unfold bt at h2
                      rw [getD_out _ (by omega)] at h2
                      rw [show (0 : UInt8).toNat = 0 from rfl, Nat.zero_testBit] at h2
                      cases h2
                rw [ho]
                simp
              have HGT2 := Lib.hid hGT
              have HTO := Lib.hid (show TO gt wr (.slice (some ⟨gt, 0, none⟩) n n) D by
                have h := HO.out
                rw [Nat.min_eq_right (by have := HM.out; omega)] at h
                have e : midB D n = D := by have h := midB_all D; rw [HDL.out] at h; exact h
                rw [e] at h
                exact h)
              obtain ⟨r0, r1, f0, f1⟩ := two_cells HRR.out
              obtain ⟨p0, p1, _, _⟩ := two_cells HPR.out
              clear hGT hxr hrr
              go_wp2
              obtain ⟨d0, d1⟩ := rnew_end (a := .int .i64 (k : Int)) (v := .slice (some ⟨gt, 0, none⟩) n n) HRR.out
              have hs9 : Stay (fun i => i = w.heap.size) wr ((wr.setCell ⟨w.heap.size, 0, none⟩ (.int .i64 (k : Int))).setCell ⟨w.heap.size, 1, none⟩ (.slice (some ⟨gt, 0, none⟩) n n)) := stay_put wr _ _ _ rfl
              refine bodyPost_ret (v := .tuple #[.agg #[.int .i64 (k : Int), .slice (some ⟨gt, 0, none⟩) n n], .int .i64 0]) (by simp [results, Tryd.results9, go_sem, d0, d1]) rfl ⟨HRG.out _ _ HGT2.out ?_, stay_set2 HWR.out (Nat.le_refl _) _ _⟩
              exact (HTO.out.stay hs9 (fun i hi => by cases hi; show ¬ gt = w.heap.size; have := HGW.out; omega)).base' (fun i hi => by cases hi; show w.heap.size ≤ gt; have := HGW.out; omega)
        · have HGF := Lib.hid (show G = false by rw [HG.out, decide_eq_false (p := x.length = m) hl]; simp)
          have hlz : ((x.length : Int) == (m : Int)) = false := beq_eq_false_iff_ne.2 (by omega)
          go_wp2
          obtain ⟨d0, d1⟩ := rnew_end (a := .int .i64 0) (v := .slice none 0 0) HR6.out
          have hsE : Stay (fun _ => False) w ((w6.setCell ⟨w.heap.size, 0, none⟩ (.int .i64 0)).setCell ⟨w.heap.size, 1, none⟩ (.slice none 0 0)) := stay_set2 HS6.out (Nat.le_refl _) _ _
          exact bodyPost_ret (v := .tuple #[.agg #[.int .i64 0, .slice none 0 0], .int .i64 3]) (by simp [results, Tryd.results9, go_sem, d0, d1]) rfl ⟨HRB.out _ HGF.out, hsE⟩
  · have HGF := Lib.hid (show G = false by rw [HG.out, decide_eq_false hd]; simp)
    have hdz : ((dn : Int) == 0) = false := beq_eq_false_iff_ne.2 (by omega)
    go_wp2
    obtain ⟨d0, d1⟩ := rnew_end (a := .int .i64 0) (v := .slice none 0 0) HR6.out
    have hsE : Stay (fun _ => False) w ((w6.setCell ⟨w.heap.size, 0, none⟩ (.int .i64 0)).setCell ⟨w.heap.size, 1, none⟩ (.slice none 0 0)) := stay_set2 HS6.out (Nat.le_refl _) _ _
    exact bodyPost_ret (v := .tuple #[.agg #[.int .i64 0, .slice none 0 0], .int .i64 3]) (by simp [results, Tryd.results9, go_sem, d0, d1]) rfl ⟨HRB.out _ HGF.out, hsE⟩

end Go.Proofs.YtgchdgdhjafdbaaDoor.Bo
