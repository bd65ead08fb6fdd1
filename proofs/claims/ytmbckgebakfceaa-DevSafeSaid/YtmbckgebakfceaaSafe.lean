/-
  DevSafe: the walk.
-/
import Derived.Test.YtmbckgebakfceaaActs
namespace Go.Proofs.Ytmbckgebakfceaa
open Go.RowKit Go.Maps

/-- What stays of the first two sectors, whatever is done to the others, and whenever it is started anew. -/
structure SafeInv (la lb : List UInt8) (d : DS) (k : Int) : Prop where
  ok : Ok4 d k
  s0 : d.s 0 = pad la
  l0 : d.L 0 = none
  s1 : d.s 1 = pad la ∨ d.s 1 = pad lb
  l1 : d.L 1 = none ∨ d.L 1 = some (pad lb)

theorem started_is (d : DS) (ks : List Bool) (j : Nat) (hw : WideL d.L d.n) : (d.started ks).s j = d.s j ∨ ∃ l, d.L j = some l ∧ (d.started ks).s j = l := by
  cases hl : d.L j with
  | none => exact .inl (by rw [← cur_started]; exact started_miss d ks j hl)
  | some l =>
    have hm : j ∈ keysL d.L d.n := mem_keysL.2 ⟨(hw j l hl).2, by rw [hl]; rfl⟩
    obtain ⟨r, hr, hj⟩ := List.getElem_of_mem hm
    have h := started_hit d ks j r hr (by rw [List.getD_eq_getElem?_getD, List.getElem?_eq_getElem hr]; exact hj) l hl
    rw [cur_started] at h
    by_cases hb : ks.getD r false = true
    · rw [if_pos hb] at h; exact .inr ⟨l, rfl, h⟩
    · rw [if_neg hb] at h; exact .inl h

theorem SafeInv.start {la lb : List UInt8} {d : DS} {k : Int} (h : SafeInv la lb d k) (hw : WideL d.L d.n) (ks : List Bool) : SafeInv la lb (d.started ks) k := by
  refine ⟨⟨h.ok.n, rfl, h.ok.lo, rfl, h.ok.w0, h.ok.w1⟩, ?_, rfl, ?_, .inl rfl⟩
  · rcases started_is d ks 0 hw with e | ⟨l, hl, _⟩
    · rw [e]; exact h.s0
    · rw [h.l0] at hl; cases hl
  · rcases started_is d ks 1 hw with e | ⟨l, hl, e⟩
    · rw [e]; exact h.s1
    · rcases h.l1 with e1 | e1
      · rw [e1] at hl; cases hl
      · rw [e1] at hl; cases hl; exact .inr e

theorem SafeInv.write {la lb : List UInt8} {d : DS} {k : Int} (h : SafeInv la lb d k) (i : Nat) (hi : 2 ≤ i) (l : List UInt8) : SafeInv la lb (d.wrote i l) (k + 1) := by
  have e0 : ¬ 0 = i := by omega
  have e1 : ¬ 1 = i := by omega
  exact ⟨h.ok.wrote i l, h.s0, by simp [DS.wrote, updL, e0, h.l0], h.s1, by simpa [DS.wrote, updL, e1] using h.l1⟩

theorem SafeInv.more {la lb : List UInt8} {d : DS} {k k' : Int} (h : SafeInv la lb d k) (hk : k ≤ k') : SafeInv la lb d k' :=
  ⟨⟨h.ok.n, h.ok.cr, h.ok.lo, h.ok.ar, h.ok.w0, Int.le_trans h.ok.w1 hk⟩, h.s0, h.l0, h.s1, h.l1⟩

/-- The device ahead of the loop. -/
def dSafe (la lb : List UInt8) : DS := (((((fresh 4).wrote 0 la).flushed).wrote 1 la).flushed).wrote 1 lb

theorem safe_init (la lb : List UInt8) : SafeInv la lb (dSafe la lb) 3 := by
  refine ⟨⟨rfl, rfl, rfl, rfl, (by decide : (0 : Int) ≤ 0 + 1 + 1 + 1), (by decide : (0 : Int) + 1 + 1 + 1 ≤ 3)⟩, ?_, ?_, .inl ?_, .inr ?_⟩
  · simp [dSafe, DS.wrote, DS.flushed, DS.cur, updL, none64]
  · simp [dSafe, DS.wrote, DS.flushed, updL, none64]
  · simp [dSafe, DS.wrote, DS.flushed, DS.cur, updL]
  · simp [dSafe, DS.wrote, updL]
theorem safe_cur0 (la lb : List UInt8) : (dSafe la lb).cur 0 = pad la := by simp [dSafe, DS.wrote, DS.flushed, DS.cur, updL, none64]
theorem safe_cur1 (la lb : List UInt8) : (dSafe la lb).cur 1 = pad lb := by simp [dSafe, DS.wrote, DS.cur, updL]

theorem idx_23 (x : Int) : wrap64 (2 + wrap64 ((IntKind.u64.wrap x).tmod 2)) = ((2 : Nat) : Int) ∨ wrap64 (2 + wrap64 ((IntKind.u64.wrap x).tmod 2)) = ((3 : Nat) : Int) := by
  have h0 : 0 ≤ IntKind.u64.wrap x := by
    show 0 ≤ x % _
    exact Int.emod_nonneg _ (by decide)
  rw [Int.tmod_eq_emod_of_nonneg h0]
  have h2 : IntKind.u64.wrap x % 2 = 0 ∨ IntKind.u64.wrap x % 2 = 1 := by omega
  rcases h2 with h | h
  · rw [h]; exact .inl (by kernel_rfl)
  · rw [h]; exact .inr (by kernel_rfl)

/-- 64 cells that hold a sector's bytes. -/
def Holds64 (w : World) (g : Nat) (l : List UInt8) : Prop := ∀ j, j < 64 → w.cell? ⟨g, j, none⟩ = (cellsB l)[j]?
theorem Holds64.stay {w w' : World} {g : Nat} {l : List UInt8} {X : Nat → Prop} (h : Holds64 w g l) (hl : l.length = 64) (hs : Stay X w w') (hx : ¬ X g) : Holds64 w' g l := by
  intro j hj
  have e : (cellsB l)[j]? = some ((cellsB l)[j]'(by rw [length_cellsB, hl]; exact hj)) := List.getElem?_eq_getElem _
  rw [e]; exact hs.cell ((h j hj).trans e) hx

/-- The string of bytes l. -/
def strOf (l : List UInt8) : ByteArray := ⟨l.toArray⟩
theorem conv_sec {w : World} {g cap : Nat} {l : List UInt8} (h : Holds64 w g l) (hl : l.length = 64) : (convert 22 9 (.slice (some ⟨g, 0, none⟩) 64 cap)).run Try.prog w = .ok (.string (strOf l)) w := by
  have := run_convert_bytes_back (P := Try.prog) w 22 9 5 ⟨g, 0, none⟩ cap l Try.underlying22 Try.underlying5 Try.underlying9 (fun j hj => by
    rw [add_at, Nat.zero_add, h j (by omega)]
    simp [cellsB, hj, byteV])
  rw [hl] at this
  exact this

/-- Write of nothing into a sector. -/
theorem write_nothing (w : World) (pd ps pm : Nat) (d : DS) (i : Nat) (k : Int) (h : DevAt w pd ps pm d) (ho : Ok4 d k) (hk : k ≤ 100) (hi : i < 4) :
    Calls Try.prog 7 #[.pointer (some ⟨pd, 0, none⟩), .int .i64 i, .slice none 0 0] w fun e w' => e = .returned .nilIface ∧ DevAt w' pd ps pm (d.wrote i []) ∧ Stay (own pd ps pm) w w' :=
  write_free w pd ps pm d i none 0 [] h ho.cr ho.lo ho.ar (by rw [ho.n]; exact hi) (by simp) (fun h => by simp at h) (fun h => by simp at h) ho.w0 (by have := ho.w1; omega)

set_option maxRecDepth 100000 in
set_option maxHeartbeats 1000000 in
/-- One of the texts is too long. -/
theorem safe_long (ap bp lp : Option Addr) (ac bc lc : Nat) (la lb : List UInt8) (n : Nat) (w : World) (h : 64 < la.length ∨ 64 < lb.length) (hla : la.length ≤ 9223372036854775807) (hlb : lb.length ≤ 9223372036854775807) :
    Calls Try.prog 3 #[.slice ap la.length ac, .slice bp lb.length bc, .slice lp n lc] w fun e w' => e = .returned (.bool true) ∧ Stay (fun _ => False) w w' := by
  by_cases h1 : 64 < la.length
  · go_enter Try.func3, Try.ntmps3
    go_wp2_with fail
    refine (new_at 4 _ (by omega) (by omega)).mono ?_
    rintro e w1 ⟨pd, ps, pm, rfl, _, _, hs1⟩
    go_wp2_with fail
    refine (sure_yes w1).mono ?_
    rintro e w2 ⟨rfl, hs2⟩
    go_wp2
    go_ret
    exact ⟨rfl, hs1.trans hs2⟩
  · have h2 : 64 < lb.length := by omega
    go_enter Try.func3, Try.ntmps3
    go_wp2_with fail
    refine (new_at 4 _ (by omega) (by omega)).mono ?_
    rintro e w1 ⟨pd, ps, pm, rfl, _, _, hs1⟩
    go_wp2_with fail
    refine (sure_yes w1).mono ?_
    rintro e w2 ⟨rfl, hs2⟩
    go_wp2
    go_ret
    exact ⟨rfl, hs1.trans hs2⟩

set_option maxRecDepth 100000 in
set_option maxHeartbeats 1000000 in
theorem safe_walk (ap bp lp : Option Addr) (ac bc lc : Nat) (la lb : List UInt8) (xs : List ActV) (w : World) (h1 : la.length ≤ 64) (h2 : lb.length ≤ 64)
    (ra : ReadsAs w ap la) (rb : ReadsAs w bp lb) (oa : 0 < la.length → ∀ ad, ap = some ad → ad.block < w.heap.size) (ob : 0 < lb.length → ∀ ad, bp = some ad → ad.block < w.heap.size) (rx : ReadsActs w lp xs) :
    Calls Try.prog 3 #[.slice ap la.length ac, .slice bp lb.length bc, .slice lp xs.length lc] w fun e w' => e = .returned (.bool true) ∧ Stay (fun _ => False) w w' := by
  have RA := Lib.hid ra
  have RB := Lib.hid rb
  have OA := Lib.hid oa
  have OB := Lib.hid ob
  have RX := Lib.hid rx
  clear ra rb oa ob rx
  go_enter Try.func3, Try.ntmps3
  go_wp2_with fail
  refine (new_at 4 _ (by omega) (by omega)).mono ?_
  rintro e w1 ⟨pd, ps, pm, rfl, hd1, hF, hs1⟩
  have noa : 0 < la.length → ∀ ad, ap = some ad → ¬ own pd ps pm ad.block := fun h0 ad e => hF.not_own (OA.out h0 ad e)
  have nob : 0 < lb.length → ∀ ad, bp = some ad → ¬ own pd ps pm ad.block := fun h0 ad e => hF.not_own (OB.out h0 ad e)
  have ra1 := RA.out.stay hs1 (fun _ _ _ x => x)
  have rb1 := RB.out.stay hs1 (fun _ _ _ x => x)
  have NA := Lib.hid noa
  have NB := Lib.hid nob
  have RA1 := Lib.hid ra1
  have RB1 := Lib.hid rb1
  clear noa nob ra1 rb1
  go_wp2_with fail
  refine (write_free w1 pd ps pm (fresh 4) 0 ap ac la hd1 rfl rfl rfl (by decide) h1 RA1.out NA.out (by decide) (by decide)).mono ?_
  rintro e w2 ⟨rfl, hd2, hs2⟩
  go_wp2_with fail
  refine (flush_up w2 pd ps pm _ hd2 rfl rfl).mono ?_
  rintro e w3 ⟨rfl, hd3, hs3⟩
  have hs13 := hs2.trans hs3
  go_wp2_with fail
  refine (write_free w3 pd ps pm _ 1 ap ac la hd3 rfl rfl rfl (by show 1 < 4; decide) h1 (RA1.out.stay hs13 NA.out) NA.out (by show (0 : Int) ≤ 0 + 1; decide) (by show (0 : Int) + 1 < 4611686018427387904; decide)).mono ?_
  rintro e w4 ⟨rfl, hd4, hs4⟩
  go_wp2_with fail
  refine (flush_up w4 pd ps pm _ hd4 rfl rfl).mono ?_
  rintro e w5 ⟨rfl, hd5, hs5⟩
  have hs15 := (hs13.trans hs4).trans hs5
  go_wp2_with fail
  refine (write_free w5 pd ps pm _ 1 bp bc lb hd5 rfl rfl rfl (by show 1 < 4; decide) h2 (RB1.out.stay hs15 NB.out) NB.out (by show (0 : Int) ≤ 0 + 1 + 1; decide) (by show (0 : Int) + 1 + 1 < 4611686018427387904; decide)).mono ?_
  rintro e w6 ⟨rfl, hd6', hs6⟩
  have hd6 : DevAt w6 pd ps pm (dSafe la lb) := hd6'
  clear hd6'
  go_wp2_with fail
  refine (read_up w6 pd ps pm _ 0 hd6 rfl rfl (by show 0 < 4; decide)).mono ?_
  rintro e w7 ⟨g0, k0, rfl, hg0, hc0, hd7, hs7⟩
  rw [safe_cur0] at hc0
  go_wp2_with fail
  refine (read_up w7 pd ps pm _ 1 hd7 rfl rfl (by show 1 < 4; decide)).mono ?_
  rintro e w8 ⟨g1, k1, rfl, hg1, hc1, hd8, hs8⟩
  rw [safe_cur1] at hc1
  have hs18 : Stay (own pd ps pm) w1 w8 := ((hs15.trans hs6).trans (hs7.mono (fun _ x => x.elim))).trans (hs8.mono (fun _ x => x.elim))
  have hc0' : Holds64 w8 g0 (pad la) := Holds64.stay (l := pad la) hc0 (length_pad h1) hs8 (fun x => x)
  have hc1 : Holds64 w8 g1 (pad lb) := hc1
  have n0 : ¬ own pd ps pm g0 := by
    have := hd6.lt1; have := hd6.lt2; have := hd6.lt3
    rintro (e | e | e) <;> omega
  have n1 : ¬ own pd ps pm g1 := by
    have := hd7.lt1; have := hd7.lt2; have := hd7.lt3
    rintro (e | e | e) <;> omega
  have HC0 := Lib.hid hc0'
  have HC1 := Lib.hid hc1
  clear hc0 hc0' hc1 hg0 hg1
  go_wp2_with fail
  go_loopw [18] (fun c wr => ∃ (k : Nat) (d : DS), k ≤ 20 ∧ c = .int .i64 (k : Int) ∧ DevAt wr pd ps pm d ∧ SafeInv la lb d (3 + k) ∧ Stay (own pd ps pm) w8 wr) (fun c _ => 20 - (intOf c).toNat)
  case atStart => exact ⟨0, _, by omega, rfl, hd8, safe_init la lb, Stay.refl _ _⟩
  case round =>
    obtain ⟨k, d, hk, rfl, hdr, hinv, hst⟩ := hrel
    by_cases hi : k < 20 ∧ k < xs.length
    · obtain ⟨hk20, hkn⟩ := hi
      obtain ⟨lb', lo, hlp, hlt, hcell⟩ := RX.out.2 (by omega)
      obtain ⟨v, hv⟩ : ∃ v, xs[k]? = some v := ⟨xs[k], List.getElem?_eq_getElem hkn⟩
      obtain ⟨ck, ca, cs, rk⟩ := hcell k v hv
      subst hlp
      have hsw : Stay (own pd ps pm) w wr := ((hs1.mono (fun _ x => x.elim)).trans hs18).trans hst
      have ck' := hsw.cell ck (hF.not_own hlt)
      have ca' := hsw.cell ca (hF.not_own hlt)
      have cs' := hsw.cell cs (hF.not_own hlt)
      clear hcell ck ca cs hv
      have hkw := rk
      go_wp2_with fail
      all_goals first
        | (go_at_call 10
           refine (start_gen wr pd ps pm d v.kp v.cap v.ks hdr hinv.ok.lo rk hsw (fun k hk => hF.not_own hk)).mono ?_
           rintro e w9 ⟨rfl, hd9, hs9⟩
           have hinv9 := (hinv.start hdr.map.1 v.ks).more (k' := 3 + ((k + 1 : Nat) : Int)) (by omega)
           go_wp2
           exact ⟨⟨k + 1, _, by omega, by go_num, hd9, hinv9, hst.trans hs9⟩, by simp [intOf]; omega⟩)
        | (go_at_call 7
           rcases idx_23 v.at_ with h23 | h23
           · rw [h23]
             clear h23
             refine (write_nothing wr pd ps pm d 2 _ hdr hinv.ok (by omega) (by omega)).mono ?_
             rintro e w9 ⟨rfl, hd9, hs9⟩
             have hinv9 := (hinv.write 2 (by omega) []).more (k' := 3 + ((k + 1 : Nat) : Int)) (by omega)
             go_wp2
             exact ⟨⟨k + 1, _, by omega, by go_num, hd9, hinv9, hst.trans hs9⟩, by simp [intOf]; omega⟩
           · rw [h23]
             clear h23
             refine (write_nothing wr pd ps pm d 3 _ hdr hinv.ok (by omega) (by omega)).mono ?_
             rintro e w9 ⟨rfl, hd9, hs9⟩
             have hinv9 := (hinv.write 3 (by omega) []).more (k' := 3 + ((k + 1 : Nat) : Int)) (by omega)
             go_wp2
             exact ⟨⟨k + 1, _, by omega, by go_num, hd9, hinv9, hst.trans hs9⟩, by simp [intOf]; omega⟩)
    · have hout : (xs.length ≤ k) ∨ (k < xs.length ∧ k = 20) := by omega
      have H01 := Lib.hid h1
      have H02 := Lib.hid h2
      rcases hout with hout | ⟨hout, rfl⟩
      all_goals
        go_wp2_with fail
        refine (start_nils wr pd ps pm d hdr hinv.ok.lo).mono ?_
        rintro e w9 ⟨rfl, hd9, hs9⟩
        have hi9 := hinv.start hdr.map.1 []
        go_wp2_with fail
        refine (read_up w9 pd ps pm _ 0 hd9 rfl hi9.ok.lo (by rw [hi9.ok.n]; decide)).mono ?_
        rintro e wa ⟨g2, k2, rfl, hg2, hc2, hda, hsa⟩
        rw [cur_started, hi9.s0] at hc2
        have HC2 := Lib.hid hc2
        clear hc2
        go_wp2_with fail
        refine (read_up wa pd ps pm _ 1 hda rfl hi9.ok.lo (by rw [hi9.ok.n]; decide)).mono ?_
        rintro e wb ⟨g3, k3, rfl, hg3, hc3, hdb, hsb⟩
        rw [cur_started] at hc3
        have hs8b : Stay (own pd ps pm) w8 wb := ((hst.trans hs9).trans (hsa.mono (fun _ x => x.elim))).trans (hsb.mono (fun _ x => x.elim))
        have kb0 := conv_sec (cap := k0) (HC0.out.stay (length_pad H01.out) hs8b n0) (length_pad H01.out)
        have kb1 := conv_sec (cap := k1) (HC1.out.stay (length_pad H02.out) hs8b n1) (length_pad H02.out)
        have kb2 := conv_sec (cap := k2) (Holds64.stay (l := pad la) HC2.out (length_pad H01.out) hsb (fun x => x)) (length_pad H01.out)
        have hkeys : keysL (d.started []).L (d.started []).n = [] := by
          rw [List.eq_nil_iff_forall_not_mem]; intro j hj; have := (mem_keysL.1 hj).2; simp [DS.started, none64] at this
        have HK := Lib.hid hkeys
        have hsT : ∀ w', Stay (fun _ => False) wb w' → Stay (fun _ => False) w w' := fun w' h => hs1.andThen ((hs18.trans hs8b).trans (h.mono (fun _ x => x.elim))) (fun k hk e => hF.not_own hk e)
        have HT := Lib.hid hsT
        clear hkeys hsT
        have heq : (pad lb = pad la) ∨ (pad lb ≠ pad la) := by
          by_cases h : pad lb = pad la
          · exact .inl h
          · exact .inr h
        rcases hi9.s1 with e1 | e1
        · rw [e1] at hc3
          have kb3 := conv_sec (cap := k3) (l := pad la) hc3 (length_pad H01.out)
          clear heq e1 hc3
          go_wp2_with fail
          refine (loose_nil wb pd ps pm _ hdb HK.out).mono ?_
          rintro e wc ⟨rfl, hdc, hsc⟩
          go_wp2_with fail
          refine (sure_yes wc).mono ?_
          rintro e wd ⟨rfl, hsd⟩
          go_wp2
          go_ret
          exact ⟨rfl, HT.out _ (hsc.trans hsd)⟩
        · rw [e1] at hc3
          have kb3 := conv_sec (cap := k3) (l := pad lb) hc3 (length_pad H02.out)
          clear e1 hc3
          have hb : ((strOf (pad lb)).toList == (strOf (pad la)).toList) = true ∨ ((strOf (pad lb)).toList == (strOf (pad la)).toList) = false := by
            cases ((strOf (pad lb)).toList == (strOf (pad la)).toList) <;> simp
          clear heq
          rcases hb with hb | hb
          all_goals
            go_wp2_with fail
            refine (loose_nil wb pd ps pm _ hdb HK.out).mono ?_
            rintro e wc ⟨rfl, hdc, hsc⟩
            go_wp2_with fail
            refine (sure_yes wc).mono ?_
            rintro e wd ⟨rfl, hsd⟩
            go_wp2
            go_ret
            exact ⟨rfl, HT.out _ (hsc.trans hsd)⟩

end Go.Proofs.Ytmbckgebakfceaa
