/-
  HornerNear's walk.
-/
import Derived.Test.YtkbkjpeghbiadaaDoorHnNearP
import Derived.Test.YtkbkjpeghbiadaaDoorHnSeals
import Derived.Laws.Bits64
namespace Go.Proofs.YtkbkjpeghbiadaaDoor.Hn
open Go.RowKit
set_option maxRecDepth 100000

theorem xor_byte (c d : UInt8) : bits .xor .u8 (c.toNat : Int) (d.toNat : Int) = ((c ^^^ d).toNat : Int) := by
  have hc := c.toNat_lt
  have hd := d.toNat_lt
  have hx : c.toNat ^^^ d.toNat < 2 ^ 8 := Nat.xor_lt_two_pow (by omega) (by omega)
  have h1 : (BitVec.ofInt 8 (c.toNat : Int)).toNat = c.toNat := by
    rw [BitVec.ofInt_natCast, BitVec.toNat_ofNat]; exact Nat.mod_eq_of_lt (by omega)
  have h2 : (BitVec.ofInt 8 (d.toNat : Int)).toNat = d.toNat := by
    rw [BitVec.ofInt_natCast, BitVec.toNat_ofNat]; exact Nat.mod_eq_of_lt (by omega)
  show IntKind.u8.wrap ((BitVec.ofInt 8 (c.toNat : Int) ^^^ BitVec.ofInt 8 (d.toNat : Int)).toNat : Int) = _
  rw [BitVec.toNat_xor, h1, h2, IntKind.wrap_u8, UInt8.toNat_xor]
  omega

theorem own_setByte {base : Nat} {w : World} {g c o : Nat} {l : List UInt8} {n : Nat} (h : Owns base w (.slice (some ⟨g, 0, none⟩) n c) l) (x : UInt8) (hn : l.length = n) :
    Owns base (w.setCell ⟨g, o, none⟩ (byteV x)) (.slice (some ⟨g, 0, none⟩) n c) (l.set o x) := by
  refine ⟨by simp [cellsB], ?_⟩
  rcases h.2 with ⟨e, _⟩ | ⟨g', cap, cur, e, hb, hg, h1, h2, h3, h4⟩
  · cases e
  · cases e
    refine .inr ⟨g, c, cur.setIfInBounds o (byteV x), by rw [List.length_set], hb, ?_, by rw [List.length_set]; exact h1, h2, by rw [Array.size_setIfInBounds]; exact h3, ?_⟩
    · simp [World.setCell, Array.getElem?_modify, hg]
    · rw [Array.toList_setIfInBounds, List.length_set, List.take_set, h4]
      unfold cellsB
      rw [List.map_set]

theorem own_free {base : Nat} {w : World} {g c : Nat} {l : List UInt8} {n : Nat} (h : Owns base w (.slice (some ⟨g, 0, none⟩) n c) l) (o : Nat) : w.frozen? ⟨g, o, none⟩ = false := by
  rcases h.2 with ⟨e, _⟩ | ⟨g', cap, cur, e, hb, hg, _⟩
  · cases e
  · cases e
    simp [World.frozen?, hg]

/-- The three bytes. -/
def three (y0 y1 y2 : UInt8) : Nat → UInt8 := fun k => match k with | 0 => y0 | 1 => y1 | _ => y2
theorem three_cell {w : World} {g : Nat} {t : TypeId} {fr : Nat × Nat} {y0 y1 y2 : UInt8} (h : w.heap[g]? = some (.cells #[byteV y0, byteV y1, byteV y2] t fr)) (k : Nat) (hk : k < 3) : w.cell? ⟨g, k, none⟩ = some (.int .u8 ((three y0 y1 y2 k).toNat : Int)) := by
  rw [cell_of_row _ _ _ _ _ _ h]
  rcases (by omega : k = 0 ∨ k = 1 ∨ k = 2) with rfl | rfl | rfl <;> rfl

theorem oth_val (c : UInt8) : (((c.toNat : Nat) : Int) != 0) = (c != 0) := by
  rw [Bool.eq_iff_iff]
  simp [← UInt8.toNat_inj]
theorem near_round {b : List UInt8} {i j g cap : Nat} {y : Nat → UInt8} {c : UInt8} {wr w0 : World} {ot : Bool} {v : Value} {n : Nat} (hj3 : j < 3) (hij3 : i + j < b.length) (ho : Owns w0.heap.size wr (.slice (some ⟨g, 0, none⟩) b.length cap) (nearB b i y j)) (hs : Stay (fun _ => False) w0 wr)
    (hge : w0.heap.size ≤ g) (hn : nearB b i y (j + 1) = (nearB b i y j).set (i + j) (c ^^^ y j)) (hot : othB y (j + 1) = (ot || (y j != 0))) (hn2 : n = i + j) (hv : v = .bool (ot || (((y j).toNat : Int) != 0))) :
    ∃ j', j' ≤ 3 ∧ i + j' ≤ b.length ∧ Value.int .i64 ((j : Int) + 1) = .int .i64 (j' : Nat) ∧ v = .bool (othB y j') ∧ Owns w0.heap.size (wr.drew.setCell ⟨g, n, none⟩ (.int .u8 (bits .xor .u8 (c.toNat : Int) ((y j).toNat : Int)))) (.slice (some ⟨g, 0, none⟩) b.length cap) (nearB b i y j') ∧
      Stay (fun _ => False) w0 (wr.drew.setCell ⟨g, n, none⟩ (.int .u8 (bits .xor .u8 (c.toNat : Int) ((y j).toNat : Int)))) := by
  subst hn2
  subst hv
  refine ⟨j + 1, by omega, by omega, by go_num, by rw [hot, oth_val], ?_, ?_⟩
  · rw [xor_byte, hn]
    exact own_setByte (ho.drew) (c ^^^ y j) (length_nearB _ _ _ _)
  · exact stay_seal (X := fun k => k = g) ((hs.mono (fun _ x => x.elim)).trans (Stay.drew.trans (Stay.setCell _ _ _ rfl))) (fun k e => by omega)

theorem near_ne {X b : List UInt8} {ot : Bool} (h0 : ot = false → X = b) (h1 : ot = true → moreN 1 X ≠ moreN 1 b) : (((moreN 1 X : Nat) : Int) != ((moreN 1 b : Nat) : Int)) = ot := by
  cases ot with
  | false => rw [h0 rfl]; simp
  | true => have := h1 rfl; simp; omega
/-- The error that there is, or none. -/
def errT : Bool → Value
  | true => .iface 45 (.int .i64 11)
  | false => .nilIface
theorem near_err {l : List UInt8} {ot : Bool} (h : codeB l = if ot then 11 else 0) : errO (codeB l) = errT ot := by
  rw [h]
  cases ot <;> rfl
theorem num_e11 (w : World) (hg : ErrCell w) : Calls Tryd.prog 11 #[.iface 45 (.int .i64 11)] w fun e w' => e = .returned (.int .i64 11) ∧ Stay (fun _ => False) w w' := num_any 11 w hg _ rfl

set_option maxHeartbeats 2000000 in
theorem near_walk (b : List UInt8) (x : Value) (at_ : Int) (y0 y1 y2 : UInt8) (i : Nat) (w : World) (hg : ErrCell w) (hx : Slc w x b) (hlen : b.length ≤ 140737488355328)
    (hi : 0 < b.length → (IntKind.u64.wrap at_).tmod (b.length : Int) = (i : Int) ∧ i < b.length) :
    Calls Tryd.prog 5 #[x, .int .i64 at_, .agg #[byteV y0, byteV y1, byteV y2]] w fun e w' => e = .returned (.bool true) ∧ Stay (fun _ => False) w w' := by
  have hs0 := Stay.alloc (X := fun _ => False) w (.cells #[byteV y0, byteV y1, byteV y2] 42)
  have HX := Lib.hid (hx.stay0 hs0)
  have HG := Lib.hid hg
  have HB := Lib.hid (heap_alloc_new w (.cells #[byteV y0, byteV y1, byteV y2] 42))
  have HI := Lib.hid hi
  obtain ⟨a0, ca, rfl, _⟩ := hx
  obtain ⟨i0, hi0, hz0, hz1, hz2⟩ := info_parts info5
  have HI0 := Lib.hid hi0
  have HZ0 := Lib.hid hz0
  have HZ1 := Lib.hid hz1
  have HZ2 := Lib.hid hz2
  clear hg hi hi0 hz0 hz1 hz2
  by_cases hl : b.length = 0 ∨ (5000 : Int) < (b.length : Int)
  · rcases hl with hl | hl
    · have hlz : ((b.length : Int) == 0) = true := beq_iff_eq.2 (by omega)
      have HL := Lib.hid hl
      clear hl
      go_enter Tryd.func5, Tryd.ntmps5
      go_wp2_with fail
      refine (sure_any _).mono ?_
      rintro e w1 ⟨rfl, hs1⟩
      go_wp2
      go_ret
      exact ⟨rfl, hs0.trans hs1⟩
    · have hlz : ((b.length : Int) == 0) = false := beq_eq_false_iff_ne.2 (by omega)
      go_enter Tryd.func5, Tryd.ntmps5
      go_wp2_with fail
      refine (sure_any _).mono ?_
      rintro e w1 ⟨rfl, hs1⟩
      go_wp2
      go_ret
      exact ⟨rfl, hs0.trans hs1⟩
  · have h0 : 0 < b.length := by omega
    have hl5 : (b.length : Int) ≤ 5000 := by omega
    have hlz : ((b.length : Int) == 0) = false := beq_eq_false_iff_ne.2 (by omega)
    obtain ⟨hi1, hi2⟩ := HI.out h0
    have HI1 := Lib.hid hi1
    clear hl hi1 HI
    go_enter Tryd.func5, Tryd.ntmps5
    go_wp2_with fail
    generalize w.alloc (.cells #[byteV y0, byteV y1, byteV y2] 42) = w0 at HX HB hs0 ⊢
    refine (own_any _ b w0 HX.out hlen).mono ?_
    rintro e w1 ⟨v1, rfl, how1, hs1⟩
    obtain ⟨g, cap, rfl, hcap, hcm⟩ := how1.at h0
    have hge := (how1.lt g rfl).1
    have HO1 := Lib.hid how1
    have HS1 := Lib.hid hs1
    have hzz : ¬ (b.length : Int) = 0 := by omega
    have hi3 : (i : Int) < (b.length : Int) := by omega
    clear how1 hs1
    go_wp2_with fail
    rw [HI1.out, show wrap64 (i : Int) = (i : Int) by unfold wrap64; omega]
    obtain ⟨y, hyd⟩ : ∃ y, y = three y0 y1 y2 := ⟨_, rfl⟩
    have HYD := Lib.hid hyd
    clear hyd
    go_loopw [9, 10] (fun oth k wr => ∃ j : Nat, j ≤ 3 ∧ i + j ≤ b.length ∧ k = .int .i64 j ∧ oth = .bool (othB y j) ∧ Owns w0.heap.size wr (.slice (some ⟨g, 0, none⟩) b.length cap) (nearB b i y j) ∧ Stay (fun _ => False) w0 wr) (fun _ k _ => 3 - (intOf k).toNat)
    case atStart => exact ⟨0, by omega, by omega, rfl, rfl, by rw [nearB_zero]; exact HO1.out, HS1.out⟩
    case round =>
      obtain ⟨j, hj, hij, rfl, rfl, how, hst⟩ := hrel
      have HO := Lib.hid how
      have HS := Lib.hid hst
      clear how hst
      by_cases hlt : j < 3 ∧ i + j < b.length
      · obtain ⟨hj3, hij3⟩ := hlt
        obtain ⟨c, hc⟩ : ∃ c, b[i + j]? = some c := ⟨_, List.getElem?_eq_getElem hij3⟩
        have HN := Lib.hid (nearB_succ b i y j c hc)
        have hky : wr.cell? ⟨w.heap.size, j, none⟩ = some (.int .u8 ((y j).toNat : Int)) := by rw [HYD.out]; exact HS.out.cell (three_cell HB.out j hj3) (fun x => x)
        have hkx : wr.cell? ⟨g, i + j, none⟩ = some (.int .u8 (c.toNat : Int)) := by
          have := World.ownsRow.cells (g := g) HO.out rfl (i + j) (byteV c) (by simp [cellsB, nearB_at, hc])
          rw [add_at, Nat.zero_add] at this
          exact this
        have hfx : wr.frozen? ⟨g, i + j, none⟩ = false := own_free HO.out _
        have hij4 : (i : Int) + (j : Int) < (b.length : Int) := by omega
        have HOT := Lib.hid (show othB y (j + 1) = (othB y j || (y j != 0)) from rfl)
        clear hc
        have hcb := c.toNat_lt
        have hyb := (y j).toNat_lt
        generalize othB y j = ot at *
        have e1 : IntKind.i64.wrap ((i : Int) + (j : Int)) = (i : Int) + (j : Int) := IntWalk.i64_in _ (by omega)
        have e2 : (0 : Int) ≤ (i : Int) + (j : Int) := by omega
        have e3 : ((i : Int) + (j : Int)).toNat = i + j := by omega
        cases ot
        all_goals
          go_wp2_with fail
          go_region
          clear e1 e2 e3
          go_wp2
          go_roundw
          case rel => exact near_round hj3 hij3 HO.out HS.out hge HN.out HOT.out rfl rfl
          case measure => simp [intOf]; omega
      · have hj0 : 0 < j := by omega
        have HSAME := Lib.hid (fun h => near_same (b := b) (i := i) (k := j) (y := y) h)
        have HUN := Lib.hid (fun h => near_unlike (b := b) (i := i) (m := j) (y := y) 1 hj0 hj hij h)
        have HCODE := Lib.hid (near_code (length_nearB b i y j) (othB y j) HSAME.out HUN.out)
        have HXL := Lib.hid (length_nearB b i y j)
        have hso := moreN_lt 1 b
        have hsx := moreN_lt 1 (nearB b i y j)
        have HNE := Lib.hid (near_ne (ot := othB y j) HSAME.out HUN.out)
        have HEO := Lib.hid (near_err HCODE.out)
        generalize nearB b i y j = X at *
        clear HSAME HUN HCODE
        have hcase : (¬ ((j : Int) < 3)) ∨ ((j : Int) < 3 ∧ i + j = b.length) := by omega
        generalize othB y j = ot at *
        have HW := Lib.hid (Stay.trans hs0 HS.out)
        clear hlt hij
        rcases hcase with h3 | ⟨h3, hij⟩
        all_goals
          cases ot
        all_goals
          go_wp2_with fail
          refine (seal_any _ b _ (HX.out.stay0 HS.out) (by omega)).mono ?_
          rintro e w3 ⟨s3, rfl, ho3, hs3⟩
          have hsl := ho3.slc
          obtain ⟨gs, cs, rfl, hcs, hcsm⟩ := ho3.at (by rw [length_sealB]; omega)
          have hcut := (hsl.cut (k := b.length) (by rw [length_sealB]; omega)).1
          rw [length_sealB] at hcs
          rw [if_neg (by omega)] at hcut
          simp only [Option.map_some, add_at, length_sealB, Nat.zero_add, Nat.add_sub_cancel_left] at hcut
          rw [show (sealB b).drop b.length = tailB (moreN 1 b) by simp [sealB]] at hcut
          rw [length_sealB]
          have hcsn : ¬ cs = b.length := by omega
          have HCUT := Lib.hid hcut
          have e4 : (b.length : Int) ≤ (b.length : Int) + 4 := by omega
          have hT3 := HS.out.trans hs3
          have HT3 := Lib.hid hT3
          have HO3 := Lib.hid (HO.out.slc.stay0 hs3)
          clear hcut hsl ho3 hs3 hT3
          go_wp2_with fail
          refine wp_region_any (by kernel_rfl) ?_
          change wpAny _ _ _ _ _ _ _ (World.drew _)
          refine wpAny_take (i := 0) (v := ?_) rfl (by kernel_rfl) (by kernel_rfl) (by kernel_rfl) (fun _ _ _ h => h) (Or.inl ⟨by rfl, ?_⟩) ?_
          rotate_left
          · intro w
            go_simp
            with_reducible rfl
          refine wpAny_take (i := 2) (v := ?_) rfl (by kernel_rfl) (by kernel_rfl) (by kernel_rfl) (fun _ _ _ h => h) (Or.inl ⟨by rfl, ?_⟩) ?_
          rotate_left
          · intro w
            go_simp
            with_reducible rfl
          refine wpAny_take (i := 3) (v := ?_) rfl (by kernel_rfl) (by kernel_rfl) (by kernel_rfl) (fun _ _ _ h => h) (Or.inl ⟨by rfl, ?_⟩) ?_
          rotate_left
          · intro w
            go_simp
            with_reducible rfl
          refine wpAny_take (i := 4) (v := ?_) rfl (by kernel_rfl) (by kernel_rfl) (by kernel_rfl) (fun _ _ _ h => h) (Or.inl ⟨by rfl, ?_⟩) ?_
          rotate_left
          · intro w
            go_simp
            with_reducible rfl
          refine wpAny_take (i := 5) (v := ?_) rfl (by kernel_rfl) (by kernel_rfl) (by kernel_rfl) (fun _ _ _ h => h) (Or.inl ⟨by rfl, ?_⟩) ?_
          rotate_left
          · intro w
            go_simp
            with_reducible rfl
          refine wpAny_ready (rs := [1]) (by kernel_rfl) (by simp) (AllReady.cons rfl (fun K hK => ?_) AllReady.nil)
          go_simp
          go_wp2_with (go_at_call 12; refine (own_any _ X _ (HO3.out.stay0 Stay.drew) (by rw [HXL.out]; omega)).mono ?_; rintro e w4 ⟨v4, rfl, ho4, hs4⟩; have HT4 := Lib.hid ((HT3.out.trans Stay.drew).trans hs4); have HS4 := Lib.hid ((Stay.drew (X := fun _ => False) (w := w3)).trans hs4); have HV4 := Lib.hid ho4; clear ho4 hs4)
          refine wpAny_ready (rs := [6]) (by kernel_rfl) (by simp) (AllReady.cons rfl (fun K hK => ?_) AllReady.nil)
          refine step_append_slc rfl (.tmp 76) (.tmp 80) 22 rfl w3.heap.size i0 Tryd.underlying22 HI0.out HZ0.out HZ1.out HZ2.out v4 (.slice (some ⟨gs, b.length, none⟩) 4 (cs - b.length)) X (tailB (moreN 1 b)) rfl rfl HV4.out (HCUT.out.stay0 HS4.out) (by rw [HXL.out, length_tailB]; omega) HS4.out.size ?_
          intro v5 w5 hown5 hgr5 hnn5
          have hS5 := stay_seal (X := fun k => w3.heap.size ≤ k) ((HS4.out.mono (fun _ x => x.elim)).trans (Stay.grown (X := fun k => w3.heap.size ≤ k) hgr5 (fun k e => (HV4.out.lt k e).1))) (fun k hk => hk)
          have HS5 := Lib.hid hS5
          have HV5 := Lib.hid hown5.slc
          clear hS5 hown5 hgr5 hnn5
          refine hK _ _ ?_
          clear hK K
          go_frame
          refine wpAny_ready (rs := [7]) (by kernel_rfl) (by simp) (AllReady.cons rfl (fun K hK => ?_) AllReady.nil)
          go_simp
          go_wp2_with (go_at_call 7; refine (open_code _ (X ++ tailB (moreN 1 b)) _ HV5.out (by rw [List.length_append, HXL.out, length_tailB]; omega)).mono ?_; rintro e w6 ⟨⟨z6, he, hz6⟩, hs6⟩; rw [HEO.out] at he; simp only [errT] at he; subst he; have HT6 := Lib.hid ((HT3.out.trans HS5.out).trans hs6); have HS6 := Lib.hid (HS5.out.trans hs6); clear hz6 hs6)
          obtain ⟨D, hDd⟩ : ∃ D : World → Prop, D = Stay (fun _ => False) w6 := ⟨_, rfl⟩
          have HD := Lib.hid (show ∀ W, D W → Stay (fun _ => False) w6 W by intro W h; rw [hDd] at h; exact h)
          have HN0 := Lib.hid (show D w6 by rw [hDd]; exact Stay.refl _ _)
          clear hDd
          haveI : Nonempty (InC D) := ⟨⟨_, HN0.out⟩⟩
          refine wpAny_class D 8 rfl rfl (by kernel_rfl) (by kernel_rfl) HN0.out ?_
          simp only [List.drop_succ_cons, List.drop_zero]
          repeat (go_big_quiet_step (fail))
          refine wpQuiet_nil ?_
          rintro W ⟨ic, rfl⟩
          have HF := Lib.hid (HD.out _ ic.h)
          generalize ic.w = w9 at *
          clear HD HN0
          go_wp2_with fail
          refine (sum_any X _ _ (HO3.out.stay0 (HS6.out.trans HF.out))).mono ?_
          rintro e w' ⟨rfl, rfl⟩
          go_wp2_with fail
          refine (sum_any b _ _ ((HX.out.stay0 HT3.out).stay0 (HS6.out.trans HF.out))).mono ?_
          rintro e w' ⟨rfl, rfl⟩
          unfold u32V
          have hne := HNE.out
          go_wp2_with fail
          clear hne
          have hT9 := hs0.trans (HT6.out.trans HF.out)
          have HT9 := Lib.hid hT9
          clear hT9
          first
            | (refine (num_e11 _ (HG.out.stay0 HT9.out)).mono ?_
               rintro e w10 ⟨rfl, hs10⟩
               go_wp2_with fail
               refine (sure_any _).mono ?_
               rintro e w11 ⟨rfl, hs11⟩
               go_wp2
               go_ret
               exact ⟨rfl, (HT9.out.trans hs10).trans hs11⟩)
            | (refine (sure_any _).mono ?_
               rintro e w11 ⟨rfl, hs11⟩
               go_wp2
               go_ret
               exact ⟨rfl, HT9.out.trans hs11⟩)

end Go.Proofs.YtkbkjpeghbiadaaDoor.Hn
