/-
  log: the small calls: a sector's place, a number's tag, Need, spell, tell.
-/
import Derived.Test.YthbcgimmbcdnmaaDoorLoP
import Derived.Test.YthbcgimmbcdnmaaDoorClass
import Derived.Stop.BytesEq
namespace Go.Proofs.YthbcgimmbcdnmaaDoor.Lo
open Go.RowKit
open Pk (spellB bytesB takeB numB textB RS Slc Owns RdAt WrAt)
set_option maxRecDepth 100000
set_option linter.unusedVariables false

theorem i64_w (x : Int) (h1 : -9223372036854775808 ≤ x) (h2 : x ≤ 9223372036854775807) : IntKind.i64.wrap x = x := by
  rw [IntKind.wrap_i64]
  omega
theorem isNumber_any (w : World) (s : Int) :
    Calls Tryd.prog 16 #[.int .i64 s] w fun e w' => e = .returned (.bool (decide (1 ≤ s) && decide (s ≤ 1099511627776))) ∧ w' = w := by
  by_cases h1 : 1 ≤ s
  · by_cases h2 : s ≤ 1099511627776
    · rw [decide_eq_true h1, decide_eq_true h2]
      go_enter Tryd.func16, Tryd.ntmps16
      go_wp2
      go_ret
      exact ⟨rfl, rfl⟩
    · rw [decide_eq_true h1, decide_eq_false h2]
      go_enter Tryd.func16, Tryd.ntmps16
      go_wp2
      go_ret
      exact ⟨rfl, rfl⟩
  · rw [decide_eq_false h1]
    go_enter Tryd.func16, Tryd.ntmps16
    go_wp2
    go_ret
    exact ⟨rfl, rfl⟩

theorem sector_any (w : World) (p : Value) (F S i : Nat) (hS : 1 ≤ S) (hF : F ≤ 16384) (hS2 : S ≤ 16384) (hi : i ≤ 4000000) :
    Calls Tryd.prog 35 #[.agg #[p, .int .i64 (F : Int), .int .i64 (S : Int)], .int .i64 (i : Int)] w fun e w' => e = .returned (.int .i64 ((F + i % S : Nat) : Int)) ∧ Stay (fun _ => False) w w' := by
  go_enter Tryd.func35, Tryd.ntmps35
  have hne : ¬ ((S : Int)) = 0 := by omega
  have e2 : wrap64 ((F : Int) + (i : Int) % (S : Int)) = ((F + i % S : Nat) : Int) := by
    have h2 : i % S ≤ i := Nat.mod_le _ _
    unfold wrap64; omega
  obtain ⟨c0, c1, c2⟩ : (w.alloc (.cells #[p, .int .i64 (F : Int), .int .i64 (S : Int)] 58)).cell? ⟨w.heap.size, 0, none⟩ = some p ∧ (w.alloc (.cells #[p, .int .i64 (F : Int), .int .i64 (S : Int)] 58)).cell? ⟨w.heap.size, 1, none⟩ = some (.int .i64 (F : Int)) ∧ (w.alloc (.cells #[p, .int .i64 (F : Int), .int .i64 (S : Int)] 58)).cell? ⟨w.heap.size, 2, none⟩ = some (.int .i64 (S : Int)) :=
    ⟨cell_of_row _ _ _ _ _ _ (heap_alloc_new w _), cell_of_row _ _ _ _ _ _ (heap_alloc_new w _), cell_of_row _ _ _ _ _ _ (heap_alloc_new w _)⟩
  go_wp2
  go_region
  go_wp2
  go_ret
  exact ⟨by rw [← e2]; rfl, (Stay.alloc _ _).trans Stay.drew⟩

/-- The bytes of an array of eight, as it is filled from its end. -/
def fillT (s j : Nat) : List UInt8 := List.replicate (8 - j) 0 ++ (tagB s).drop (8 - j)
theorem fill_zero (s : Nat) : fillT s 0 = List.replicate 8 0 := by simp [fillT, tagB]
theorem fill_all (s : Nat) : fillT s 8 = tagB s := by simp [fillT]

theorem slc_lt {w : World} {x : Value} {l : List UInt8} (h : Slc w x l) (h0 : 0 < l.length) {k : Nat} (hk : x.ownBlock = some k) : k < w.heap.size := by
  obtain ⟨a0, c, rfl, hr, _⟩ := h
  obtain ⟨ad, rfl, hc⟩ := hr h0
  have h1 : (cellsB l)[0]? = some ((cellsB l)[0]'(by rw [length_cellsB]; exact h0)) := List.getElem?_eq_getElem _
  have h2 := hc 0 _ h1
  have e0 : ad.add 0 = ad := by unfold Addr.add; simp
  rw [e0] at h2
  have := World.block_lt_of_cell? w ad h2
  have e : ad.block = k := Option.some.inj hk
  omega
theorem slc_take {w : World} {a0 : Option Addr} {c : Nat} {l : List UInt8} (h : Slc w (.slice a0 l.length c) l) {n : Nat} (hn : n ≤ l.length) : Slc w (.slice a0 n c) (l.take n) := by
  obtain ⟨a1, c1, e, hr, h1, h2, h3⟩ := h
  cases e
  have hl : (l.take n).length = n := by rw [List.length_take]; omega
  refine ⟨a0, c, by rw [hl], fun h0 => ?_, h1, by omega, h3⟩
  obtain ⟨ad, rfl, hc⟩ := hr (by omega)
  refine ⟨ad, rfl, fun j v hv => hc j v ?_⟩
  simp only [cellsB, List.map_take, List.getElem?_take] at hv
  split at hv
  · exact hv
  · cases hv
theorem equal_any (w : World) (x y : Value) (a b : List UInt8) (hx : Slc w x a) (hy : Slc w y b) :
    Calls Tryd.prog 73 #[x, y] w fun e w' => e = .returned (.bool (decide (a = b))) ∧ w' = w := by
  have c1 := Pk.conv_slc hx
  have c2 := Pk.conv_slc hy
  unfold Pk.strV at c1 c2
  go_enter Tryd.func73, Tryd.ntmps73
  go_wp2
  go_ret
  exact ⟨by rw [show decide (a = b) = (a == b) from Bool.eq_iff_iff.2 ⟨fun h => beq_iff_eq.2 (of_decide_eq_true h), fun h => decide_eq_true (beq_iff_eq.1 h)⟩]; rfl, rfl⟩

theorem hasPrefix_any (w : World) (x y : Value) (a b : List UInt8) (hx : Slc w x a) (hy : Slc w y b) :
    Calls Tryd.prog 56 #[x, y] w fun e w' => e = .returned (.bool (decide (b <+: a))) ∧ w' = w := by
  have HX := Lib.hid hx
  have HY := Lib.hid hy
  obtain ⟨xa, xc, rfl, _⟩ := id hx
  obtain ⟨ya, yc, rfl, _⟩ := id hy
  clear hx hy
  by_cases hl : b.length ≤ a.length
  · go_enter Tryd.func56, Tryd.ntmps56
    go_wp2_with fail
    refine (equal_any w _ _ (a.take b.length) b (slc_take HX.out hl) HY.out).mono ?_
    rintro e w' ⟨rfl, rfl⟩
    have e1 : decide (a.take b.length = b) = decide (b <+: a) := by
      refine decide_eq_decide.2 ⟨fun h => ⟨a.drop b.length, ?_⟩, fun h => ?_⟩
      · have := List.take_append_drop b.length a
        rw [h] at this
        exact this
      · obtain ⟨r, rfl⟩ := h
        rw [List.take_left' rfl]
    rw [e1]
    go_wp2
    go_ret
    exact ⟨rfl, rfl⟩
  · have e1 : decide (b <+: a) = false := decide_eq_false (fun h => hl h.length_le)
    rw [e1]
    go_enter Tryd.func56, Tryd.ntmps56
    go_wp2
    go_ret
    exact ⟨rfl, rfl⟩

set_option maxHeartbeats 2000000 in
theorem spell_any (w : World) (s : Nat) (x : Value) (l : List UInt8) (hs : s ≤ 1099511627776) (hx : Slc w x l) (hl : l.length ≤ 65536) :
    Calls Tryd.prog 27 #[.int .i64 (s : Int), x] w fun e w' => ∃ v, e = .returned v ∧ Owns w.heap.size w' v (recB s l) ∧ Stay (fun _ => False) w w' := by
  have HX := Lib.hid hx
  have hlt := fun h0 k hk => slc_lt hx h0 (k := k) hk
  have hsp := Pk.len_spell s
  have hsp2 := Pk.len_spell l.length
  have hww : IntKind.u64.wrap (s : Int) = (s : Int) := by rw [IntKind.wrap_u64]; omega
  have HZ := Lib.hid hlt
  clear hx hlt
  go_enter Tryd.func27, Tryd.ntmps27
  go_wp2_with fail
  refine (Pk.new_any w).mono ?_
  rintro e w0 ⟨rfl, rfl⟩
  have HW0 := Lib.hid (Pk.WrAt.new w)
  go_wp2_with fail
  refine (Pk.uint_base w.heap.size _ w.heap.size [] s HW0.out (by omega) (by simp)).mono ?_
  rintro e w1 ⟨rfl, hw1, hs1⟩
  have HS1 := Lib.hid (Pk.stay_seal ((Stay.alloc w _).trans hs1) (fun k hk => hk))
  have HW1 := Lib.hid hw1
  clear hw1 hs1
  go_wp2_with fail
  refine (Pk.wbytes_base w.heap.size w1 w.heap.size _ l _ HW1.out (HX.out.stay0 HS1.out) (fun h0 k hk => Or.inl (HZ.out h0 k hk)) (by simp; omega)).mono ?_
  rintro e w2 ⟨rfl, hw2, hs2⟩
  have HS2 := Lib.hid (Pk.stay_seal ((HS1.out.mono (fun _ x => x.elim)).trans hs2) (fun k hk => hk))
  have HW2 := Lib.hid hw2
  clear hw2 hs2
  go_wp2_with fail
  refine (Pk.done_any _ w2 _ _ HW2.out (by simp [bytesB]; omega)).mono ?_
  rintro e w3 ⟨v, rfl, how, hs3⟩
  have HS3 := Lib.hid (HS2.out.trans hs3)
  have HO := Lib.hid how
  clear how hs3
  go_wp2_with fail
  refine (Hn.seal_any v _ w3 HO.out.slc (by simp [bytesB]; omega)).mono ?_
  rintro e w4 ⟨v4, rfl, how4, hs4⟩
  have h4 := HS3.out.size
  go_wp2
  go_ret
  exact ⟨_, rfl, how4.base (fun k hk => by have := (how4.lt k hk).1; omega), HS3.out.trans hs4⟩

theorem tag_vals {s : Nat} (hs : s ≤ 1099511627776) : (cellsB (tagB s)).toArray = #[.int .u8 ((s : Int) / 72057594037927936), .int .u8 ((s : Int) / 281474976710656), .int .u8 ((s : Int) / 1099511627776), .int .u8 ((s : Int) / 4294967296 % 256), .int .u8 ((s : Int) / 16777216 % 256), .int .u8 ((s : Int) / 65536 % 256), .int .u8 ((s : Int) / 256 % 256), .int .u8 ((s : Int) % 256)] := by
  rw [tagB_lit]
  simp [cellsB, byteV]
  omega
theorem info_tag {l : List UInt8} (h : l.length = 8) : (Tryd.prog.info? 97).map (·.size) = some (cellsB l).toArray.size := by
  rw [List.size_toArray, length_cellsB, h]
  kernel_rfl
/-- A whole tag out of cells that are known. -/
theorem load_tag {w : World} {g o : Nat} {t : TypeId} {S : Array Value} {fr : Nat × Nat} {l : List UInt8} (hl : l.length = 8) (hg : w.heap[g]? = some (.cells S t fr)) (hc : ∀ j, j < 8 → S[o + j]? = (cellsB l).toArray[j]?) :
    (loadVar 97 ⟨g, o, none⟩).run Tryd.prog w = .ok (.agg (cellsB l).toArray) w :=
  run_loadVar_mid (P := Tryd.prog) w g o t 97 S (cellsB l).toArray fr _ hg Tryd.underlying97 rfl (info_tag hl) (fun j hj => hc j (by rw [List.size_toArray, length_cellsB, hl] at hj; exact hj))
theorem tagOf_any (w : World) (s : Nat) (hs : s ≤ 1099511627776) :
    Calls Tryd.prog 44 #[.int .i64 (s : Int)] w fun e w' => e = .returned (.agg (cellsB (tagB s)).toArray) ∧ Stay (fun _ => False) w w' := by
  have HT := Lib.hid (tag_vals hs)
  go_enter Tryd.func44, Tryd.ntmps44
  go_wp2
  refine wp_loop_rounds 9 ?_
  repeat any_goals (rw [rounds_succ]; go_wp2)
  rw [← HT.out]
  have hld := load_tag (l := tagB s) (len_tagB s) (show ((w.alloc (.cells (cellsB (tagB s)).toArray 97)).alloc (.cells (cellsB (tagB s)).toArray 97)).heap[w.heap.size]? = _ from (Below.heap_alloc _ _ _ (by simp)).trans (heap_alloc_new w _)) (o := 0) (fun j _ => by rw [Nat.zero_add])
  exact bodyPost_ret (v := .agg (cellsB (tagB s)).toArray) (by simp [results, Tryd.results44, asAddr, hld]) rfl ⟨rfl, (Stay.alloc _ _).trans (Stay.alloc _ _)⟩

/-- The number of sectors, with the bounds. -/
def needP (n s : Int) : Nat := if n < 0 ∨ 65536 < n ∨ s < 1 ∨ 1099511627776 < s then 0 else needN n.toNat s.toNat
set_option maxHeartbeats 2000000 in
theorem need_any (w : World) (n s : Int) :
    Calls Tryd.prog 7 #[.int .i64 n, .int .i64 s] w fun e w' => e = .returned (.int .i64 (needP n s : Int)) ∧ Stay (fun _ => False) w w' := by
  have hnum := fun w => isNumber_any w s
  by_cases hb : n < 0 ∨ 65536 < n ∨ s < 1 ∨ 1099511627776 < s
  · have e0 : needP n s = 0 := if_pos hb
    rw [e0]
    by_cases h1 : n < 0
    · go_enter Tryd.func7, Tryd.ntmps7
      go_wp2
      go_ret
      exact ⟨rfl, Stay.refl _ _⟩
    by_cases h2 : 65536 < n
    · go_enter Tryd.func7, Tryd.ntmps7
      go_wp2
      go_ret
      exact ⟨rfl, Stay.refl _ _⟩
    have h3 : (decide (1 ≤ s) && decide (s ≤ 1099511627776)) = false := by
      rw [Bool.and_eq_false_iff, decide_eq_false_iff_not, decide_eq_false_iff_not]
      omega
    rw [h3] at hnum
    have HN := Lib.hid hnum
    clear hnum h3 hb e0
    go_enter Tryd.func7, Tryd.ntmps7
    go_wp2_with fail
    refine (HN.out w).mono ?_
    rintro e w' ⟨rfl, rfl⟩
    go_wp2
    go_ret
    exact ⟨rfl, Stay.refl _ _⟩
  · obtain ⟨m, rfl⟩ : ∃ m : Nat, n = (m : Int) := ⟨n.toNat, by omega⟩
    obtain ⟨t, rfl⟩ : ∃ t : Nat, s = (t : Int) := ⟨s.toNat, by omega⟩
    have e0 : needP (m : Int) (t : Int) = needN m t := by unfold needP; rw [if_neg hb, Int.toNat_natCast, Int.toNat_natCast]
    rw [e0]
    have h3 : (decide (1 ≤ (t : Int)) && decide ((t : Int) ≤ 1099511627776)) = true := by
      rw [Bool.and_eq_true, decide_eq_true_iff, decide_eq_true_iff]
      omega
    rw [h3] at hnum
    have HN := Lib.hid hnum
    have hm : m ≤ 65536 := by omega
    have ht : t ≤ 1099511627776 := by omega
    have h1 : ¬ (m : Int) < 0 := by omega
    have h2 : ¬ 65536 < (m : Int) := by omega
    have hsp := Pk.len_spell t
    have hsp2 := Pk.len_spell m
    have hl4 := Hn.length_sealB ([] ++ spellB t ++ spellB m)
    clear hnum h3 hb e0
    go_enter Tryd.func7, Tryd.ntmps7
    go_wp2_with fail
    refine (HN.out w).mono ?_
    rintro e w' ⟨rfl, rfl⟩
    go_wp2_with fail
    refine (Pk.new_any w').mono ?_
    rintro e w0 ⟨rfl, rfl⟩
    have HW0 := Lib.hid (Pk.WrAt.new w')
    go_wp2_with fail
    refine (Pk.uint_base w'.heap.size _ w'.heap.size [] t HW0.out (by omega) (by simp)).mono ?_
    rintro e w1 ⟨rfl, hw1, hs1⟩
    have HS1 := Lib.hid (Pk.stay_seal ((Stay.alloc w' _).trans hs1) (fun k hk => hk))
    have HW1 := Lib.hid hw1
    clear hw1 hs1
    go_wp2_with fail
    refine (Pk.uint_base w'.heap.size w1 w'.heap.size _ m HW1.out (by omega) (by simp; omega)).mono ?_
    rintro e w2 ⟨rfl, hw2, hs2⟩
    have HS2 := Lib.hid (Pk.stay_seal ((HS1.out.mono (fun _ x => x.elim)).trans hs2) (fun k hk => hk))
    have HW2 := Lib.hid hw2
    clear hw2 hs2
    go_wp2_with fail
    refine (Pk.done_any _ w2 _ _ HW2.out (by simp; omega)).mono ?_
    rintro e w3 ⟨v, rfl, how, hs3⟩
    have HS3 := Lib.hid (HS2.out.trans hs3)
    have HO := Lib.hid how
    clear how hs3
    go_wp2_with fail
    refine (Hn.seal_any v _ w3 HO.out.slc (by simp; omega)).mono ?_
    rintro e w4 ⟨v4, rfl, how4, hs4⟩
    obtain ⟨a4, c4, rfl⟩ := how4.form
    rw [hl4]
    have hq : (([] ++ spellB t ++ spellB m : List UInt8)).length + 4 = (spellB t).length + (spellB m).length + 4 := by simp
    rw [hq]
    have e8 : (((spellB t).length : Int) + ((spellB m).length : Int) + 4 + (m : Int) + 56 - 1) / 56 = (needN m t : Int) := by unfold needN secs; omega
    have HS4 := Lib.hid (HS3.out.trans hs4)
    have HE := Lib.hid e8
    clear how4 e8 hs4
    go_wp2
    go_ret
    exact ⟨by rw [← HE.out]; rfl, HS4.out⟩

theorem take_b_le (most : Nat) (s : RS) : (takeB (numB most) 0 s).2.b.length ≤ s.b.length := by
  by_cases h0 : s.err = 0
  · cases hr : numB most s.b with
    | error c => rw [Pk.takeB_error h0 hr]; exact Nat.le_refl _
    | ok v =>
      obtain ⟨t, r⟩ := v
      rw [Pk.takeB_ok h0 hr]
      exact Pk.numB_len hr
  · rw [Pk.takeB_bad h0]; exact Nat.le_refl _
theorem text_le (s : RS) : (takeB (textB 65536) [] s).1.length ≤ 65536 := by
  by_cases h0 : s.err = 0
  · cases hr : textB 65536 s.b with
    | error c => rw [Pk.takeB_error h0 hr]; exact Nat.zero_le _
    | ok v =>
      obtain ⟨t, r⟩ := v
      rw [Pk.takeB_ok h0 hr]
      unfold textB at hr
      rw [if_neg (by omega)] at hr
      cases hn : numB Pk.M64 s.b with
      | error c => rw [hn] at hr; cases hr
      | ok v =>
        obtain ⟨n, r0⟩ := v
        rw [hn] at hr
        simp only [] at hr
        split at hr
        · cases hr
        · split at hr
          · cases hr
          · cases hr
            rw [List.length_take]
            omega
  · rw [Pk.takeB_bad h0]; exact Nat.zero_le _
theorem errV_one (c : Nat) : (Pk.errV c).oneCell' = true := by
  unfold Pk.errV
  split <;> rfl

set_option maxHeartbeats 2000000 in
theorem tell_any (w : World) (x : Value) (b : List UInt8) (s : Nat) (hx : Slc w x b) (hb : b.length ≤ 10000000) (hs : s ≤ 1099511627776) :
    Calls Tryd.prog 34 #[x, .int .i64 (s : Int)] w fun e w' => (∃ v, e = .returned (.tuple #[v, .bool (tellR s b).isSome]) ∧ ((tellR s b).isSome = true → Owns w.heap.size w' v ((tellR s b).getD []))) ∧ Stay (fun _ => False) w w' := by
  have HX := Lib.hid hx
  obtain ⟨r1, hr1⟩ : ∃ r, r = takeB (numB 1099511627776) 0 ⟨b, 0⟩ := ⟨_, rfl⟩
  obtain ⟨r2, hr2⟩ : ∃ r, r = takeB (textB 65536) [] r1.2 := ⟨_, rfl⟩
  have et : tellR s b = if r2.2.err = 0 ∧ (recB s r2.1) <+: b then some r2.1 else none := by rw [hr2, hr1]; rfl
  have HE := Lib.hid et
  have HR1 := Lib.hid hr1
  have HR2 := Lib.hid hr2
  clear hx et hr1 hr2
  go_enter Tryd.func34, Tryd.ntmps34
  go_wp2_with fail
  refine (Pk.read_any w x b HX.out (by omega)).mono ?_
  rintro e w1 ⟨p, rfl, hrd, hs1⟩
  have hpb : w.heap.size ≤ p := hrd.own
  have HRD := Lib.hid hrd
  have HS1 := Lib.hid hs1
  clear hrd hs1
  go_wp2_with fail
  refine (Pk.ruint_any _ w1 p ⟨b, 0⟩ 1099511627776 HRD.out).mono ?_
  rintro e w2 ⟨rfl, hrd2, hs2⟩
  rw [← HR1.out] at hrd2
  have HRD2 := Lib.hid hrd2
  have HS2 := Lib.hid (Pk.stay_seal ((HS1.out.mono (fun _ x => x.elim)).trans hs2) (fun k hk => by omega))
  clear hrd2 hs2
  go_wp2_with fail
  refine (Pk.rbytes_any _ w2 p r1.2 65536 HRD2.out (by rw [HR1.out]; exact Nat.le_trans (take_b_le _ _) (by show b.length ≤ _; omega)) (by decide)).mono ?_
  rintro e w3 ⟨⟨v, rfl, how⟩, hrd3, hs3⟩
  rw [← HR2.out] at how hrd3
  have HRD3 := Lib.hid hrd3
  have hsz2 := HS2.out.size
  have HOW := Lib.hid (how.base (base' := w.heap.size) (fun k hk => by have := (how.lt k hk).1; omega))
  have HS3 := Lib.hid (Pk.stay_seal ((HS2.out.mono (fun _ x => x.elim)).trans hs3) (fun k hk => by omega))
  have hl2 : r2.1.length ≤ 65536 := by rw [HR2.out]; exact text_le _
  clear hrd3 hs3 how
  go_wp2_with fail
  refine (Pk.err_any _ w3 p r2.2 HRD3.out).mono ?_
  rintro e w4 ⟨rfl, rfl⟩
  by_cases h0 : r2.2.err = 0
  · rw [h0, Pk.errV_zero]
    go_wp2_with fail
    refine (spell_any w3 s v r2.1 hs HOW.out.slc hl2).mono ?_
    rintro e w5 ⟨v5, rfl, how5, hs5⟩
    have HOW5 := Lib.hid how5
    have HS5 := Lib.hid hs5
    clear how5 hs5
    go_wp2_with fail
    refine (hasPrefix_any w5 x v5 b (recB s r2.1) ((HX.out.stay0 HS3.out).stay0 HS5.out) HOW5.out.slc).mono ?_
    rintro e w6 ⟨rfl, rfl⟩
    by_cases hp : (recB s r2.1) <+: b
    · have E1 : Hid (tellR s b = some r2.1) := Lib.hid (by rw [HE.out, if_pos ⟨h0, hp⟩])
      rw [decide_eq_true hp]
      go_wp2
      go_ret2
      rw [E1.out]
      exact ⟨⟨v, rfl, fun _ => HOW.out.stay0 HS5.out⟩, HS3.out.trans HS5.out⟩
    · have E1 : Hid (tellR s b = none) := Lib.hid (by rw [HE.out, if_neg (fun h => hp h.2)])
      rw [decide_eq_false hp]
      go_wp2
      go_ret2
      rw [E1.out]
      exact ⟨⟨_, rfl, fun h => by cases h⟩, HS3.out.trans HS5.out⟩
  · have E1 : Hid (tellR s b = none) := Lib.hid (by rw [HE.out, if_neg (fun h => h0 h.1)])
    rw [Pk.errV_pos h0]
    unfold Pk.errI
    go_wp2
    go_ret2
    rw [E1.out]
    exact ⟨⟨_, rfl, fun h => by cases h⟩, HS3.out⟩

end Go.Proofs.YthbcgimmbcdnmaaDoor.Lo
