/-
  ToggleNewest's walk.
-/
import Derived.Test.YtaolbbkkpdghaaaDoorTgTxts
import Derived.Test.YtaolbbkkpdghaaaDoorErrG
namespace Go.Proofs.YtaolbbkkpdghaaaDoor.Tg
open Go.RowKit Pk
set_option maxRecDepth 100000

/-- What holds between two rounds. -/
structure NewInv (w4 : World) (pd ps pm : Nat) (o0 o1 : UInt8) (i : Nat) (nv lv : Value) (wr : World) (d : DS) (o : Option (List UInt8)) (n : Nat) : Prop where
  hn : nv = .int .u64 (n : Int)
  hl : lv = strV (o.getD [])
  at_ : DevAt wr pd ps pm d
  ok : DOk d (2 + 20000 * (i : Int))
  h : Holds d 2 10 o n
  le : n ≤ i
  z : o = none ↔ n = 0
  ar : d.ar = false
  c1 : d.cur 1 = pad [o0]
  c12 : d.cur 12 = pad [o1]
  nn : d.n = 13
  st : Stay (own pd ps pm) w4 wr

/-- A save of a text that is too long. -/
theorem save_over (w : World) (pd ps pm : Nat) (d : DS) (f s : Nat) (o : Option (List UInt8)) (n : Nat) (x : Value) (l : List UInt8) (h : DevAt w pd ps pm d) (hok : DOk d 4611686018400000000) (hx : Txt w pd ps pm x l) (hh : Holds d f s o n)
    (hl : 64 * ((s - 1) / 2) < l.length) :
    Calls Tryd.prog 6 #[.pointer (some ⟨pd, 0, none⟩), areaV (f : Int) (s : Int), x] w fun e w' => e = .returned (.iface 42 (.int .i64 2)) ∧ Stay (own pd ps pm) w w' ∧ DevAt w' pd ps pm d := by
  have h1 := hh.s3
  have h2 := hh.fn
  have h3 := hh.n2
  refine (save_any w pd ps pm d f s x l h hok hx ⟨by omega, by omega⟩ ⟨by omega, by omega⟩).mono ?_
  rintro e w' ⟨rfl, hd, hs⟩
  rw [save_long hh l hl] at hd ⊢
  exact ⟨rfl, hs, hd⟩

/-- What is told, where the device holds none. -/
theorem load_none (w : World) (pd ps pm : Nat) (d : DS) (f s n : Nat) (h : DevAt w pd ps pm d) (hh : Holds d f s none n) :
    Calls Tryd.prog 8 #[.pointer (some ⟨pd, 0, none⟩), areaV (f : Int) (s : Int)] w fun e w' => ∃ v, e = .returned (.tuple #[v, .int .u64 0, .iface 42 (.int .i64 8)]) ∧ Owns w.heap.size w' v [] ∧ Stay (fun _ => False) w w' := by
  have h1 := hh.s3
  have h2 := hh.fn
  have h3 := hh.n2
  have hl := load_any w pd ps pm d f s h ⟨by omega, by omega⟩ ⟨by omega, by omega⟩
  rw [hh.load_none] at hl
  exact hl

theorem save_n (d : DS) (f s : Int) (l : List UInt8) : (saveD d f s l).1.n = d.n := by
  unfold saveD saveAt
  (repeat' split) <;> first | rfl | (rw [wrAll_n, wrAll_n]) | (rw [wrAll_n])

theorem holds_begin (o0 o1 : UInt8) : Holds (((fresh 13).wrote 1 [o0]).wrote 12 [o1]) 2 10 none 0 := by
  refine ⟨rfl, rfl, fun j h1 h2 => ?_, fun _ => length_zsec, fun j l hl => ?_, by omega, by show 2 + 10 ≤ 13; omega, by show 13 ≤ 16384; omega, ⟨rfl, rfl⟩⟩
  · simp only [DS.wrote, updL, fresh, none64]
    rw [if_neg (by omega), if_neg (by omega)]
  · simp only [DS.wrote, updL, fresh, none64] at hl
    split at hl
    · cases hl; exact length_pad (by simp)
    split at hl
    · cases hl; exact length_pad (by simp)
    · cases hl
theorem cur_begin1 (o0 o1 : UInt8) : (((fresh 13).wrote 1 [o0]).wrote 12 [o1]).cur 1 = pad [o0] := by rw [cur_wrote_other _ _ _ _ (by omega), cur_wrote_same]
theorem cur_begin12 (o0 o1 : UInt8) : (((fresh 13).wrote 1 [o0]).wrote 12 [o1]).cur 12 = pad [o1] := cur_wrote_same _ _ _

theorem reads_one {w : World} {b j : Nat} {x : UInt8} {cs : Array Value} {t : TypeId} (h : w.heap[b]? = some (.cells cs t (0, 0))) (hj : cs[j]? = some (byteV x)) : Go.Proofs.YtaolbbkkpdghaaaDoor.ReadsAs w (some ⟨b, j, none⟩) [x] := by
  intro _
  refine ⟨_, rfl, fun q v hv => ?_⟩
  have hq : q = 0 := by
    have := (List.getElem?_eq_some_iff.1 hv).1
    simpa [cellsB] using this
  subst hq
  rw [add_at, Nat.add_zero, cell_of_row _ _ _ _ _ _ h, hj]
  simpa [cellsB] using hv

set_option maxHeartbeats 4000000 in
theorem newest_walk (w : World) (lp : Option Addr) (c0 : Nat) (xs : List (Value × List UInt8)) (o0 o1 : UInt8) (hx : Txts w lp xs) (hg : ErrCell w) :
    Calls Tryd.prog 3 #[.slice lp xs.length c0, .agg #[byteV o0, byteV o1]] w fun e w' => e = .returned (.bool true) ∧ Stay (fun _ => False) w w' := by
  have hlen := hx.1
  have HX := Lib.hid hx
  have HG := Lib.hid hg
  clear hx hg
  go_enter Tryd.func3, Tryd.ntmps3
  go_wp2_with fail
  obtain ⟨w0, hw0⟩ : ∃ w0, w.alloc (.cells #[byteV o0, byteV o1] 23) = w0 := ⟨_, rfl⟩
  have HO := Lib.hid (show w0.heap[w.heap.size]? = some (.cells #[byteV o0, byteV o1] 23 (0, 0)) from hw0 ▸ heap_alloc_new w _)
  have HS0 := Lib.hid (show Stay (fun _ => False) w w0 from hw0 ▸ Stay.alloc _ _)
  rw [hw0]
  refine (new_at 13 w0 (by omega) (by omega)).mono ?_
  rintro e w1 ⟨pd, ps, pm, rfl, h1, hF, hs1⟩
  have HF := Lib.hid (show From w.heap.size pd ps pm by have := HS0.out.size; exact ⟨Nat.le_trans this hF.1, Nat.le_trans this hF.2.1, Nat.le_trans this hF.2.2⟩)
  have HNO := Lib.hid (show ¬ own pd ps pm w.heap.size from fun q => absurd (lt_of_block HO.out) (by rcases q with q | q | q <;> (have := hF.1; have := hF.2.1; have := hF.2.2; omega)))
  have HS1 := Lib.hid (HS0.out.trans hs1)
  have HO1 := Lib.hid ((hs1.block _ (lt_of_block HO.out) (fun x => x)).trans HO.out)
  have HD1 := Lib.hid h1
  clear hs1 hF h1 hw0
  go_wp2_with fail
  obtain ⟨w2, hw2⟩ : ∃ w2, w1.alloc (.cells #[.int .i64 2, .int .i64 10] 30) = w2 := ⟨_, rfl⟩
  have HA2 := Lib.hid (show w2.heap[w1.heap.size]? = some (.cells #[.int .i64 2, .int .i64 10] 30 (0, 0)) from hw2 ▸ heap_alloc_new w1 _)
  have HO2 := Lib.hid (show w2.heap[w.heap.size]? = some (.cells #[byteV o0, byteV o1] 23 (0, 0)) by rw [← hw2, Below.heap_alloc _ _ _ (lt_of_block HO1.out)]; exact HO1.out)
  have HS2 := Lib.hid (show Stay (fun _ => False) w1 w2 from hw2 ▸ Stay.alloc _ _)
  have HD2 := Lib.hid (HD1.out.stay HS2.out (fun x => x) (fun x => x) (fun x => x))
  rw [hw2]
  clear hw2
  have HNA := Lib.hid (show ¬ own pd ps pm w1.heap.size from fun q => absurd (dev_lts HD1.out _ q) (Nat.lt_irrefl _))
  refine (write_free w2 pd ps pm (fresh 13) 1 _ 2 [o0] HD2.out rfl rfl rfl (by show 1 < 13; omega) (by simp) (reads_one HO2.out rfl) (fun _ ad e => by cases e; exact HNO.out) (by decide) (by decide)).mono ?_
  rintro e w3 ⟨rfl, h3, hs3⟩
  have HO3 := Lib.hid ((hs3.block _ (lt_of_block HO2.out) HNO.out).trans HO2.out)
  have HA3 := Lib.hid ((hs3.block _ (lt_of_block HA2.out) HNA.out).trans HA2.out)
  have HS3 := Lib.hid ((HS2.out.mono (fun _ x => x.elim)).trans hs3)
  have HD3 := Lib.hid h3
  clear h3 hs3
  go_wp2_with fail
  refine (write_free w3 pd ps pm ((fresh 13).wrote 1 [o0]) 12 _ 1 [o1] HD3.out rfl rfl rfl (by show 12 < 13; omega) (by simp) (reads_one HO3.out rfl) (fun _ ad e => by cases e; exact HNO.out) (by show (0 : Int) ≤ 0 + 1; decide) (by show (0 : Int) + 1 < _; decide)).mono ?_
  rintro e w4 ⟨rfl, h4, hs4⟩
  have HO4 := Lib.hid ((hs4.block _ (lt_of_block HO3.out) HNO.out).trans HO3.out)
  have HA4 := Lib.hid ((hs4.block _ (lt_of_block HA3.out) HNA.out).trans HA3.out)
  have HS4 := Lib.hid (HS3.out.trans hs4)
  have HD4 := Lib.hid h4
  clear h4 hs4
  go_wp2
  go_loopw [8, 9, 10] (fun a b c wr => ∃ (i : Nat) (d : DS) (o : Option (List UInt8)) (n : Nat), i ≤ xs.length ∧ i ≤ 20 ∧ c = .int .i64 (i : Int) ∧ NewInv w4 pd ps pm o0 o1 i a b wr d o n) (fun _ _ c _ => 20 - valI c)
  case atStart =>
    exact ⟨0, _, none, 0, Nat.zero_le _, Nat.zero_le _, rfl, rfl, rfl, HD4.out, ⟨by show (0 : Int) ≤ 0 + 1 + 1; omega, by show (0 : Int) + 1 + 1 ≤ _; omega, fun h => by cases h⟩, holds_begin o0 o1, Nat.le_refl _, ⟨fun _ => rfl, fun _ => rfl⟩, rfl, cur_begin1 o0 o1, cur_begin12 o0 o1, rfl, Stay.refl _ _⟩
  case round =>
    obtain ⟨i, d, o, n, hi1, hi2, rfl, hv⟩ := hrel
    obtain ⟨rfl, rfl, hd, hok, hh, hle, hz, har, hc1, hc12, hnn, hst⟩ := hv
    have HNN := Lib.hid hnn
    have HST := Lib.hid hst
    have HDR := Lib.hid hd
    have HOK := Lib.hid hok
    have HH := Lib.hid hh
    have HZ := Lib.hid hz
    have HAR := Lib.hid har
    have HC1 := Lib.hid hc1
    have HC12 := Lib.hid hc12
    have HWR := Lib.hid (show Stay (own pd ps pm) w wr from (HS1.out.mono (fun _ x => x.elim)).trans (HS4.out.trans hst))
    have HAR4 := Lib.hid ((hst.block _ (lt_of_block HA4.out) HNA.out).trans HA4.out)
    have HOR4 := Lib.hid ((hst.block _ (lt_of_block HO4.out) HNO.out).trans HO4.out)
    clear hst hd hok hh hz har hc1 hc12 hnn
    by_cases hmore : i < xs.length ∧ i < 20
    · obtain ⟨hm1, hm2⟩ := hmore
      obtain ⟨lb, lo, rfl, hlb, hget⟩ := HX.out.2 (by omega)
      obtain ⟨⟨xv, l⟩, hxl⟩ : ∃ v, xs[i]? = some v := ⟨xs[i], List.getElem?_eq_getElem hm1⟩
      have hgi : w.cell? ⟨lb, lo + i, none⟩ = some xv ∧ Slc w xv l := hget i _ hxl
      have htx : Txt wr pd ps pm xv l := (txts_txt (v := (xv, l)) hgi HF.out).stay HWR.out (fun _ _ hX => hX)
      obtain ⟨ak, ck, hxv, _⟩ := hgi.2
      subst hxv
      have HGI := Lib.hid hgi
      have HTX := Lib.hid htx
      have HGW := Lib.hid (show wr.cell? ⟨lb, lo + i, none⟩ = some (.slice ak l.length ck) ∧ ¬ own pd ps pm lb from ⟨HWR.out.cell hgi.1 (HF.out.not_own hlb), HF.out.not_own hlb⟩)
      have HGN := Lib.hid (show ¬ own pd ps pm 0 from HF.out.not_own (World.block_lt_of_cell? w _ HG.out))
      obtain ⟨S, hSd⟩ : ∃ S : World → Prop, S = Stay (own pd ps pm) wr := ⟨_, rfl⟩
      have HS := Lib.hid (show ∀ W, S W → Stay (own pd ps pm) wr W by intro W h; rw [hSd] at h; exact h)
      have HSm := Lib.hid (show ∀ W, Stay (own pd ps pm) wr W → S W by intro W h; rw [hSd]; exact h)
      have HS0' := Lib.hid (HSm.out wr.drew Stay.drew)
      have hrowA := fun W (h : S W) => ((HS.out W h).block _ (lt_of_block HAR4.out) HNA.out).trans HAR4.out
      have HU0 := Lib.hid (fun W (h : S W) => cell_of_row W _ 0 _ _ _ (hrowA W h))
      have HU1 := Lib.hid (fun W (h : S W) => cell_of_row W _ 1 _ _ _ (hrowA W h))
      have HE0 := Lib.hid (show ∀ W, S W → W.cell? ⟨lb, lo + i, none⟩ = some (.slice ak l.length ck) from fun W h => (HWR.out.trans (HS.out W h)).cell HGI.out.1 (HF.out.not_own hlb))
      clear hSd hrowA hget hxl hgi htx
      have hn20 : n ≤ 20 := by omega
      by_cases hfit : l.length ≤ 256
      · have hsv : Calls Tryd.prog 6 #[.pointer (some ⟨pd, 0, none⟩), .agg #[.int .i64 2, .int .i64 10], .slice ak l.length ck] wr.drew _ :=
          save_free wr.drew pd ps pm d 2 10 o n _ l (HDR.out.stay (Stay.drew (X := fun _ => False)) (fun x => x) (fun x => x) (fun x => x)) (HOK.out.mono (by omega)) (HTX.out.stay (Stay.drew (X := fun _ => False)) (fun _ _ x => x.elim)) HH.out (by unfold topN; omega) HAR.out (by omega)
        have HSV := Lib.hid hsv
        clear hsv
        go_wp2
        refine wp_region_held (S := S) (by kernel_rfl) ?_
        change wpAnyH _ _ _ _ _ _ _ _ (World.drew _)
        refine wpAnyH_takeL (i := 0) (v := .pointer (some ⟨pd, 0, none⟩)) #[true, false, false, false, false, false, false, false] rfl (by kernel_rfl) (by kernel_rfl) (by kernel_rfl) (fun _ _ _ h => h) (by kernel_rfl) HS0'.out (Or.inl ⟨by rfl, fun W hW => ?_⟩) ?_
        · go_simp
        conv =>
          arg 8
          simp [Act.put]
        refine wpAnyH_takeL (i := 1) (v := .agg #[.int .i64 2, .int .i64 10]) #[true, true, false, false, false, false, false, false] rfl (by kernel_rfl) (by kernel_rfl) (by kernel_rfl) (fun _ _ _ h => h) (by kernel_rfl) HS0'.out (Or.inl ⟨by rfl, fun W hW => ?_⟩) ?_
        · have k0 := HU0.out W hW
          have k1 := HU1.out W hW
          go_simp
        conv =>
          arg 8
          simp [Act.put]
        refine wpAnyH_takeL (i := 2) (v := .slice (some ⟨lb, lo, none⟩) xs.length c0) #[true, true, true, false, false, false, false, false] rfl (by kernel_rfl) (by kernel_rfl) (by kernel_rfl) (fun _ _ _ h => h) (by kernel_rfl) HS0'.out (Or.inl ⟨by rfl, fun W hW => ?_⟩) ?_
        · go_simp
        conv =>
          arg 8
          simp [Act.put]
        refine wpAnyH_takeL (i := 3) (v := .int .i64 (i : Int)) #[true, true, true, true, false, false, false, false] rfl (by kernel_rfl) (by kernel_rfl) (by kernel_rfl) (fun _ _ _ h => h) (by kernel_rfl) HS0'.out (Or.inl ⟨by rfl, fun W hW => ?_⟩) ?_
        · go_simp
        conv =>
          arg 8
          simp [Act.put]
        refine wpAnyH_takeL (i := 4) (v := .pointer (some ⟨lb, lo + i, none⟩)) #[true, true, true, true, true, false, false, false] rfl (by kernel_rfl) (by kernel_rfl) (by kernel_rfl) (fun _ _ _ h => h) (by kernel_rfl) HS0'.out (Or.inl ⟨by rfl, fun W hW => ?_⟩) ?_
        · go_simp
        conv =>
          arg 8
          simp [Act.put]
        refine wpAnyH_takeL (i := 5) (v := .slice ak l.length ck) #[true, true, true, true, true, true, false, false] rfl (by kernel_rfl) (by kernel_rfl) (by kernel_rfl) (fun _ _ _ h => h) (by kernel_rfl) HS0'.out (Or.inl ⟨by rfl, fun W hW => ?_⟩) ?_
        · have k0 := HE0.out W hW
          go_simp
        conv =>
          arg 8
          simp [Act.put]
        refine wpAnyH_one #[true, true, true, true, true, true, true, false] (i := 6) rfl (by kernel_rfl) (by kernel_rfl) (fun K hK => ?_)
        go_simp
        go_wp2_with (
          go_at_call 6
          refine (HSV.out).mono ?_
          rintro e w6 ⟨rfl, hs6, d6, hd6, hh6, har6, he6, hl6, ho6⟩
          have HD6 := Lib.hid hd6
          have HH6 := Lib.hid hh6
          have HR6 := Lib.hid har6
          have HE6 := Lib.hid he6
          have HL6 := Lib.hid hl6
          have HO6 := Lib.hid ho6
          have HS6 := Lib.hid ((Stay.drew (X := own pd ps pm) (w := wr)).trans hs6)
          clear hs6 hd6 hh6 har6 he6 hl6 ho6)
        refine hK _ _ ?_ ?_
        · exact HSm.out _ HS6.out
        conv =>
          arg 8
          simp [Act.put]
        refine wpAnyH_takeL (i := 7) (v := .nilIface) #[true, true, true, true, true, true, true, true] rfl (by kernel_rfl) (by kernel_rfl) (by kernel_rfl) (fun _ _ _ h => h) (by kernel_rfl) (HSm.out _ HS6.out) (Or.inl ⟨by rfl, fun W hW => ?_⟩) ?_
        · go_simp
        conv =>
          arg 8
          simp [Act.put]
        refine wpAnyH_done (by kernel_rfl) ?_ _
        go_wp2
        obtain ⟨D, hDd⟩ : ∃ D : World → Prop, D = Stay (fun _ => False) w6 := ⟨_, rfl⟩
        have HD := Lib.hid (show ∀ W, D W → Stay (fun _ => False) w6 W by intro W h; rw [hDd] at h; exact h)
        have HDm := Lib.hid (show ∀ W, Stay (fun _ => False) w6 W → D W by intro W h; rw [hDd]; exact h)
        clear hDd
        have HN0 := Lib.hid (HDm.out w6.drew Stay.drew)
        have ke : ∀ i' : InC D, i'.w.cell? ⟨lb, lo + i, none⟩ = some (.slice ak l.length ck) := fun i' => (HS6.out.trans ((HD.out _ i'.h).mono (fun _ x => x.elim))).cell HGW.out.1 HGW.out.2
        have hfitb : decide ((l.length : Int) ≤ 256) = true := by simp; omega
        haveI : Nonempty (InC D) := ⟨⟨_, HN0.out⟩⟩
        refine wp_region_class D HN0.out (by kernel_rfl) (by kernel_rfl) ?_
        repeat (go_big_quiet_step (fail))
        refine wpQuiet_nil ?_
        rintro W ⟨i', rfl⟩
        have hst9 := HD.out _ i'.h
        clear ke
        generalize i'.w = w9 at *
        have HS9 := Lib.hid (HS6.out.trans (hst9.mono (Y := own pd ps pm) (fun _ x => x.elim)))
        have HT9 := Lib.hid hst9
        clear hst9
        have ke9 := HS9.out.cell HGW.out.1 HGW.out.2
        have hcs := conv_slc ((HTX.out.stay HS9.out (fun _ _ hX => hX)).s)
        go_wp2
        go_roundw
        case rel =>
          have hcur : ∀ j, d6.cur j = d6.s j := fun j => by unfold DS.cur; rw [HL6.out]; rfl
          exact ⟨i + 1, d6, some l, n + 1, by omega, by omega, by go_num, by go_num, rfl, HD6.out.stay HT9.out (fun x => x) (fun x => x) (fun x => x), by rw [HE6.out]; exact (save_ok HOK.out _ _ l).mono (by omega), HH6.out, by omega, by simp, HR6.out,
            by rw [hcur, HO6.out 1 (.inl (by omega))]; exact HC1.out, by rw [hcur, HO6.out 12 (.inr (by omega))]; exact HC12.out, by rw [HE6.out, save_n]; exact HNN.out, HST.out.trans HS9.out⟩
        case measure => simp [valI]; omega
      · have hsv : Calls Tryd.prog 6 #[.pointer (some ⟨pd, 0, none⟩), .agg #[.int .i64 2, .int .i64 10], .slice ak l.length ck] wr.drew _ :=
          save_over wr.drew pd ps pm d 2 10 o n _ l (HDR.out.stay (Stay.drew (X := fun _ => False)) (fun x => x) (fun x => x) (fun x => x)) (HOK.out.mono (by omega)) (HTX.out.stay (Stay.drew (X := fun _ => False)) (fun _ _ x => x.elim)) HH.out (by omega)
        have HSV := Lib.hid hsv
        clear hsv
        go_wp2
        refine wp_region_held (S := S) (by kernel_rfl) ?_
        change wpAnyH _ _ _ _ _ _ _ _ (World.drew _)
        refine wpAnyH_takeL (i := 0) (v := .pointer (some ⟨pd, 0, none⟩)) #[true, false, false, false, false, false, false, false] rfl (by kernel_rfl) (by kernel_rfl) (by kernel_rfl) (fun _ _ _ h => h) (by kernel_rfl) HS0'.out (Or.inl ⟨by rfl, fun W hW => ?_⟩) ?_
        · go_simp
        conv =>
          arg 8
          simp [Act.put]
        refine wpAnyH_takeL (i := 1) (v := .agg #[.int .i64 2, .int .i64 10]) #[true, true, false, false, false, false, false, false] rfl (by kernel_rfl) (by kernel_rfl) (by kernel_rfl) (fun _ _ _ h => h) (by kernel_rfl) HS0'.out (Or.inl ⟨by rfl, fun W hW => ?_⟩) ?_
        · have k0 := HU0.out W hW
          have k1 := HU1.out W hW
          go_simp
        conv =>
          arg 8
          simp [Act.put]
        refine wpAnyH_takeL (i := 2) (v := .slice (some ⟨lb, lo, none⟩) xs.length c0) #[true, true, true, false, false, false, false, false] rfl (by kernel_rfl) (by kernel_rfl) (by kernel_rfl) (fun _ _ _ h => h) (by kernel_rfl) HS0'.out (Or.inl ⟨by rfl, fun W hW => ?_⟩) ?_
        · go_simp
        conv =>
          arg 8
          simp [Act.put]
        refine wpAnyH_takeL (i := 3) (v := .int .i64 (i : Int)) #[true, true, true, true, false, false, false, false] rfl (by kernel_rfl) (by kernel_rfl) (by kernel_rfl) (fun _ _ _ h => h) (by kernel_rfl) HS0'.out (Or.inl ⟨by rfl, fun W hW => ?_⟩) ?_
        · go_simp
        conv =>
          arg 8
          simp [Act.put]
        refine wpAnyH_takeL (i := 4) (v := .pointer (some ⟨lb, lo + i, none⟩)) #[true, true, true, true, true, false, false, false] rfl (by kernel_rfl) (by kernel_rfl) (by kernel_rfl) (fun _ _ _ h => h) (by kernel_rfl) HS0'.out (Or.inl ⟨by rfl, fun W hW => ?_⟩) ?_
        · go_simp
        conv =>
          arg 8
          simp [Act.put]
        refine wpAnyH_takeL (i := 5) (v := .slice ak l.length ck) #[true, true, true, true, true, true, false, false] rfl (by kernel_rfl) (by kernel_rfl) (by kernel_rfl) (fun _ _ _ h => h) (by kernel_rfl) HS0'.out (Or.inl ⟨by rfl, fun W hW => ?_⟩) ?_
        · have k0 := HE0.out W hW
          go_simp
        conv =>
          arg 8
          simp [Act.put]
        refine wpAnyH_one #[true, true, true, true, true, true, true, false] (i := 6) rfl (by kernel_rfl) (by kernel_rfl) (fun K hK => ?_)
        go_simp
        go_wp2_with (
          go_at_call 6
          refine (HSV.out).mono ?_
          rintro e w6 ⟨rfl, hs6, hd6⟩
          have HD6 := Lib.hid hd6
          have HS6 := Lib.hid ((Stay.drew (X := own pd ps pm) (w := wr)).trans hs6)
          clear hs6 hd6)
        refine hK _ _ ?_ ?_
        · exact HSm.out _ HS6.out
        conv =>
          arg 8
          simp [Act.put]
        refine wpAnyH_takeL (i := 7) (v := .iface 42 (.int .i64 2)) #[true, true, true, true, true, true, true, true] rfl (by kernel_rfl) (by kernel_rfl) (by kernel_rfl) (fun _ _ _ h => h) (by kernel_rfl) (HSm.out _ HS6.out) (Or.inl ⟨by rfl, fun W hW => ?_⟩) ?_
        · go_simp
        conv =>
          arg 8
          simp [Act.put]
        refine wpAnyH_done (by kernel_rfl) ?_ _
        go_wp2
        obtain ⟨D, hDd⟩ : ∃ D : World → Prop, D = Stay (fun _ => False) w6 := ⟨_, rfl⟩
        have HD := Lib.hid (show ∀ W, D W → Stay (fun _ => False) w6 W by intro W h; rw [hDd] at h; exact h)
        have HDm := Lib.hid (show ∀ W, Stay (fun _ => False) w6 W → D W by intro W h; rw [hDd]; exact h)
        clear hDd
        have HN0 := Lib.hid (HDm.out w6.drew Stay.drew)
        have ke : ∀ i' : InC D, i'.w.cell? ⟨lb, lo + i, none⟩ = some (.slice ak l.length ck) := fun i' => (HS6.out.trans ((HD.out _ i'.h).mono (fun _ x => x.elim))).cell HGW.out.1 HGW.out.2
        have hfitb : decide ((l.length : Int) ≤ 256) = false := by simp; omega
        have H1 := Lib.hid (show ∀ W, D W → Calls Tryd.prog 7 #[.iface 42 (.int .i64 2)] W fun e w' => e = .returned (.int .i64 2) ∧ D w' from fun W h => (num_errno 2 W (HG.out.stay ((HWR.out.trans HS6.out).trans ((HD.out W h).mono (fun _ x => x.elim))) HGN.out)).mono fun e w' ⟨h1, h2⟩ => ⟨h1, HDm.out _ ((HD.out W h).trans h2)⟩)
        haveI : Nonempty (InC D) := ⟨⟨_, HN0.out⟩⟩
        refine wp_region_class D HN0.out (by kernel_rfl) (by kernel_rfl) ?_
        repeat (go_big_quiet_step ((first
          | with_reducible exact calls_class H1.out)))
        refine wpQuiet_nil ?_
        rintro W ⟨i', rfl⟩
        have hst9 := HD.out _ i'.h
        clear ke
        generalize i'.w = w9 at *
        have HS9 := Lib.hid (HS6.out.trans (hst9.mono (Y := own pd ps pm) (fun _ x => x.elim)))
        have HT9 := Lib.hid hst9
        clear hst9
        go_wp2
        go_roundw
        case rel => exact ⟨i + 1, d, o, n, by omega, by omega, by go_num, rfl, rfl, HD6.out.stay HT9.out (fun x => x) (fun x => x) (fun x => x), HOK.out.mono (by omega), HH.out, by omega, HZ.out, HAR.out, HC1.out, HC12.out, HNN.out, HST.out.trans HS9.out⟩
        case measure => simp [valI]; omega
    · have HSW := Lib.hid (show Stay (own pd ps pm) w1 wr from HS4.out.trans HST.out)
      have hend : ¬ ((i : Int) < (xs.length : Int)) ∨ ((i : Int) < (xs.length : Int) ∧ ¬ ((i : Int) < 20)) := by
        by_cases h : i < xs.length
        · exact .inr ⟨by omega, by omega⟩
        · exact .inl (by omega)
      have ka0 := cell_of_row wr _ 0 _ _ _ HAR4.out
      have ka1 := cell_of_row wr _ 1 _ _ _ HAR4.out
      have HGN := Lib.hid (show ¬ own pd ps pm 0 from HF.out.not_own (World.block_lt_of_cell? w _ HG.out))
      have hn20 : n ≤ 20 := by omega
      cases o with
      | none =>
        have hn0 : n = 0 := HZ.out.1 rfl
        subst hn0
        have hld : Calls Tryd.prog 8 #[.pointer (some ⟨pd, 0, none⟩), .agg #[.int .i64 2, .int .i64 10]] wr _ := load_none wr pd ps pm d 2 10 0 HDR.out HH.out
        have HLD := Lib.hid hld
        clear hld
        rcases hend with hend | ⟨hend1, hend2⟩
        all_goals
          go_wp2_with fail
          refine HLD.out.mono ?_
          rintro e w7 ⟨v7, rfl, ho7, hs7⟩
          have HS7 := Lib.hid hs7
          have HO7 := Lib.hid ho7.slc
          clear hs7 ho7
          go_wp2_with fail
          refine (read_up w7 pd ps pm d 1 (HDR.out.stay HS7.out (fun x => x) (fun x => x) (fun x => x)) HH.out.cr HH.out.lo (by rw [HNN.out]; omega)).mono ?_
          rintro e w8 ⟨g8, c8, rfl, hg8, hcl8, hd8, hs8⟩
          have HD8 := Lib.hid hd8
          have HS8 := Lib.hid hs8
          have HK8 := Lib.hid (show w8.cell? ⟨g8, 0, none⟩ = some (.int .u8 (o0.toNat : Int)) by rw [hcl8 0 (by omega), HC1.out]; rfl)
          clear hd8 hs8 hcl8 hg8
          go_wp2_with fail
          refine (read_up w8 pd ps pm d 12 HD8.out HH.out.cr HH.out.lo (by rw [HNN.out]; omega)).mono ?_
          rintro e w9 ⟨g9, c9, rfl, hg9, hcl9, hd9, hs9⟩
          have HS9 := Lib.hid (show Stay (fun _ => False) wr w9 from (HS7.out.trans HS8.out).trans hs9)
          have k9 : w9.cell? ⟨g9, 0, none⟩ = some (.int .u8 (o1.toNat : Int)) := by rw [hcl9 0 (by omega), HC12.out]; rfl
          have k8 : w9.cell? ⟨g8, 0, none⟩ = some (.int .u8 (o0.toNat : Int)) := hs9.cell HK8.out (fun x => x)
          have hrow9 := (HS9.out.block _ (lt_of_block HOR4.out) (fun x => x)).trans HOR4.out
          have kb0 : w9.cell? ⟨w.heap.size, 0, none⟩ = some (.int .u8 (o0.toNat : Int)) := cell_of_row w9 _ 0 _ _ _ hrow9
          have kb1 : w9.cell? ⟨w.heap.size, 1, none⟩ = some (.int .u8 (o1.toNat : Int)) := cell_of_row w9 _ 1 _ _ _ hrow9
          clear hcl9 hd9 hs9 hrow9 hg9
          go_wp2
          go_quiet (fail)
          go_wp2_with (first
            | (go_at_call 7
               refine (num_errno 8 _ (HG.out.stay ((HWR.out.trans (HS9.out.mono (fun _ x => x.elim))).trans (stay_drewN _ _)) HGN.out)).mono ?_
               rintro e w10 ⟨rfl, hs10⟩
               have HS10 := Lib.hid (HS9.out.trans ((stay_drewN _ _).trans hs10))
               clear hs10)
            | (go_at_call 10
               refine (sure_any _).mono ?_
               rintro e w11 ⟨rfl, hs11⟩
               have HS11 := Lib.hid (HS10.out.trans hs11)
               clear hs11))
          go_ret
          exact ⟨rfl, HS1.out.andThen (HSW.out.trans (HS11.out.mono (fun _ x => x.elim))) (fun k hk hq => HF.out.not_own hk hq)⟩
      | some t =>
        have hnz : n ≠ 0 := fun e => by have := HZ.out.2 e; cases this
        have hnb : ((n : Int) == 0) = false := by simpa using hnz
        have hld : Calls Tryd.prog 8 #[.pointer (some ⟨pd, 0, none⟩), .agg #[.int .i64 2, .int .i64 10]] wr _ := load_some wr pd ps pm d 2 10 n t HDR.out HH.out
        have HLD := Lib.hid hld
        have est : strV ((some t).getD []) = .string ⟨t.toArray⟩ := rfl
        rw [est]
        clear hld est hnz
        rcases hend with hend | ⟨hend1, hend2⟩
        all_goals
          go_wp2_with fail
          refine HLD.out.mono ?_
          rintro e w7 ⟨v7, rfl, ho7, hs7⟩
          have HS7 := Lib.hid hs7
          have HO7 := Lib.hid ho7.slc
          clear hs7 ho7
          go_wp2_with fail
          refine (read_up w7 pd ps pm d 1 (HDR.out.stay HS7.out (fun x => x) (fun x => x) (fun x => x)) HH.out.cr HH.out.lo (by rw [HNN.out]; omega)).mono ?_
          rintro e w8 ⟨g8, c8, rfl, hg8, hcl8, hd8, hs8⟩
          have HD8 := Lib.hid hd8
          have HS8 := Lib.hid hs8
          have HK8 := Lib.hid (show w8.cell? ⟨g8, 0, none⟩ = some (.int .u8 (o0.toNat : Int)) by rw [hcl8 0 (by omega), HC1.out]; rfl)
          clear hd8 hs8 hcl8 hg8
          go_wp2_with fail
          refine (read_up w8 pd ps pm d 12 HD8.out HH.out.cr HH.out.lo (by rw [HNN.out]; omega)).mono ?_
          rintro e w9 ⟨g9, c9, rfl, hg9, hcl9, hd9, hs9⟩
          have HS9 := Lib.hid (show Stay (fun _ => False) wr w9 from (HS7.out.trans HS8.out).trans hs9)
          have k9 : w9.cell? ⟨g9, 0, none⟩ = some (.int .u8 (o1.toNat : Int)) := by rw [hcl9 0 (by omega), HC12.out]; rfl
          have k8 : w9.cell? ⟨g8, 0, none⟩ = some (.int .u8 (o0.toNat : Int)) := hs9.cell HK8.out (fun x => x)
          have hrow9 := (HS9.out.block _ (lt_of_block HOR4.out) (fun x => x)).trans HOR4.out
          have kb0 : w9.cell? ⟨w.heap.size, 0, none⟩ = some (.int .u8 (o0.toNat : Int)) := cell_of_row w9 _ 0 _ _ _ hrow9
          have kb1 : w9.cell? ⟨w.heap.size, 1, none⟩ = some (.int .u8 (o1.toNat : Int)) := cell_of_row w9 _ 1 _ _ _ hrow9
          have hcs := fun q => conv_slc (HO7.out.stay0 ((HS8.out.trans hs9).trans (stay_drewN w9 q)))
          unfold strV at hcs
          clear hcl9 hd9 hs9 hrow9 hg9
          go_wp2
          go_quiet (fail)
          go_wp2_with (
            go_at_call 10
            refine (sure_any _).mono ?_
            rintro e w11 ⟨rfl, hs11⟩
            have HS11 := Lib.hid (HS9.out.trans ((stay_drewN _ _).trans hs11))
            clear hs11)
          go_ret
          exact ⟨rfl, HS1.out.andThen (HSW.out.trans (HS11.out.mono (fun _ x => x.elim))) (fun k hk hq => HF.out.not_own hk hq)⟩

end Go.Proofs.YtaolbbkkpdghaaaDoor.Tg
