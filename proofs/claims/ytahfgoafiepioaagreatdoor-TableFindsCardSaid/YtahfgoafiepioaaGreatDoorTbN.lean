/-
  table: a key's entry; all entries.
-/
import Derived.Test.YtahfgoafiepioaaGreatDoorTbM
namespace Go.Proofs.YtahfgoafiepioaaGreatDoor.Tb
open Go.RowKit
open Pk (stay_seal)
open Me (En EnS EnO Box enC enV norm ltB Sorted getL posN hasB sizeL entOf)
set_option maxRecDepth 100000
set_option linter.unusedVariables false

theorem from_pos {ch : List En} {k : List UInt8} {i : Nat} (h : From ch.length (fun i => !ltB (keyAt ch i) k) i) : posN ch k = i := by
  refine Me.posN_is k ch i h.le (fun t ht e he => ?_) (fun e he => ?_)
  · have := h.lo t ht
    rw [keyAt_of he] at this
    simpa using this
  · have := h.hi i (Nat.le_refl _) (List.getElem?_eq_some_iff.1 he).1
    rw [keyAt_of he] at this
    simpa using this
theorem from_mono {ch : List En} {k : List UInt8} (hs : Sorted ch) (i j : Nat) (hij : i ≤ j) (hj : j < ch.length) (h : (!ltB (keyAt ch i) k) = true) : (!ltB (keyAt ch j) k) = true := by
  have h1 : ltB (keyAt ch i) k = false := by simpa using h
  have h2 := key_le hs hij hj
  cases h3 : ltB (keyAt ch j) k with
  | false => rfl
  | true => rw [Me.le_lt h2 h3] at h1; cases h1
/-- What Get tells. -/
theorem get_is {L : List En} {p q j : Nat} {k : List UInt8} (hs : Sorted L) (hp : 1 ≤ p) (hq : 1 ≤ q) (h : IsJ L p k j) :
    (findN L p q k j < 0 → getL L k = none) ∧ (0 ≤ findN L p q k j → ∃ m : Nat, findN L p q k j = (m : Int) ∧ m < cN L.length p ∧ getL L k = getL (chunk L p m) k) := by
  unfold findN
  by_cases hc : mayT L q k = true ∧ ltB (lastK L) k = false
  · rw [if_pos hc]
    cases j with
    | zero => exact ⟨fun _ => get_before hp hs h, fun h0 => by omega⟩
    | succ m => exact ⟨fun h0 => by omega, fun _ => ⟨m, by omega, by have := h.le; omega, get_part hp hs h⟩⟩
  · rw [if_neg hc]
    refine ⟨fun _ => ?_, fun h0 => by omega⟩
    cases hm : mayT L q k with
    | false => exact get_not hq hm
    | true =>
      cases hl : ltB (lastK L) k with
      | true => exact get_behind hs hl
      | false => exact absurd ⟨hm, hl⟩ hc

set_option maxHeartbeats 4000000 in
theorem get_any (w : World) (t p q : Nat) (L : List En) (k : List UInt8) (h : TAt w t L p q) (hk : k.length ≤ 140737488351232) :
    Calls Tryz.prog 11 #[.pointer (some ⟨t, 0, none⟩), .string ⟨k.toArray⟩] w fun e w' => e = .returned (.tuple #[enV (entOf (getL L k)), .bool (getL L k).isSome, .nilIface]) ∧ Stay (fun _ => False) w w' := by
  obtain ⟨w1, hw1⟩ : ∃ w1, w.alloc (.cells #[.string ⟨k.toArray⟩] 9) = w1 := ⟨_, rfl⟩
  have hz1 : w1.heap.size = w.heap.size + 1 := by rw [← hw1]; simp
  have hbx := Box.new w1 ⟨[], [], false⟩
  obtain ⟨w2, hw2⟩ : ∃ w2, w1.alloc (.cells (enC ⟨[], [], false⟩).toArray 27) = w2 := ⟨_, rfl⟩
  rw [hw2] at hbx
  have hs2 : Stay (fun _ => False) w w2 := by
    rw [← hw2, ← hw1]
    exact (Stay.alloc _ _).trans (Stay.alloc _ _)
  obtain ⟨b, hb⟩ : ∃ b, b = w.heap.size := ⟨_, rfl⟩
  have hd1 : w2.cell? ⟨b, 0, none⟩ = some (.string ⟨k.toArray⟩) := by
    have h1 : w1.cell? ⟨b, 0, none⟩ = some (.string ⟨k.toArray⟩) := by
      rw [hb, ← hw1, cell_of_row _ w.heap.size 0 _ _ _ (heap_alloc_new w _)]
      rfl
    rw [← hw2]
    exact (Stay.alloc (X := fun _ => False) w1 _).cell h1 (fun x => x)
  rw [hz1, ← hb] at hbx
  have HBX := Lib.hid hbx
  have HD1 := Lib.hid hd1
  have HT2 := Lib.hid (h.stay0 hs2)
  have HS2 := Lib.hid hs2
  have W1 := Lib.hid hw1
  have W2 := Lib.hid hw2
  have HB := Lib.hid hb
  have HZ := Lib.hid hz1
  have HGI := Lib.hid (fun j => get_is (k := k) (j := j) h.srt h.p1 h.q1)
  have HSR := Lib.hid h.srt
  have HN2 := Lib.hid h.n2
  have HKK := Lib.hid hk
  clear hw1 hw2 hbx hd1 hs2 hb hz1 h hk
  go_enter Tryz.func11, Tryz.ntmps11
  go_wp2_with (first
    | (with_reducible refine Me.alloc_en rfl rfl ?_; rw [W1.out, W2.out, HZ.out, ← HB.out]; have hd1 := HD1.out))
  refine (find_any w2 t p q L k HT2.out HKK.out).mono ?_
  rintro e w3 ⟨⟨j, hj, rfl⟩, hs3⟩
  have HG := Lib.hid (HGI.out j hj)
  have HS3 := Lib.hid (HS2.out.trans hs3)
  have HB3 := Lib.hid (HBX.out.stay0 hs3)
  have HT3 := Lib.hid (HT2.out.stay0 hs3)
  have HD3 := Lib.hid (hs3.cell HD1.out (fun x => x))
  obtain ⟨fn, hfn⟩ : ∃ fn, fn = findN L p q k j := ⟨_, rfl⟩
  rw [← hfn] at HG ⊢
  clear hj hs3 hd1 HBX HD1 HT2 HS2 HGI hfn W1 W2
  by_cases hneg : fn < 0
  · have HGN := Lib.hid (HG.out.1 hneg)
    go_wp2_with (first
      | (refine Box.store HB3.out rfl (.tmp 4) (.tmp 20) rfl rfl ⟨[], [], false⟩ rfl ?_
         intro w4 hb4 hs4
         have H4 := Lib.hid hb4
         have HS4 := Lib.hid (stay_seal (HS3.out.mono (fun _ x => x.elim) |>.trans hs4) (fun k hk => by have hk' : k = b + 1 := hk; have := HB.out; omega))
         clear hb4 hs4))
    have hld := H4.out.run_load
    refine bodyPost_ret (v := .tuple #[enV ⟨[], [], false⟩, .bool false, .nilIface]) (by simp [results, Tryz.results11, asAddr, hld]) rfl ⟨by rw [HGN.out]; rfl, HS4.out⟩
  · obtain ⟨m, hfm, hmn, hgm⟩ := HG.out.2 (by omega)
    rw [hfm]
    have HMN := Lib.hid hmn
    have HGM := Lib.hid hgm
    have hm1 : (m : Int) ≤ 1000000 := by
      have := cN_le (n := L.length) HT3.out.p1
      have := HN2.out
      omega
    clear hneg hfm hmn hgm HG
    go_wp2_with fail
    refine (part_any w3 t p q m L HT3.out HMN.out).mono ?_
    rintro e w4 ⟨⟨v4, rfl, ho4⟩, hs4⟩
    obtain ⟨ch, hch⟩ : ∃ ch, ch = chunk L p m := ⟨_, rfl⟩
    rw [← hch] at ho4
    have HGC := Lib.hid (show getL L k = getL ch k by rw [hch]; exact HGM.out)
    have hsc : Sorted ch := hch ▸ sorted_chunk HSR.out p m
    have hcl : ch.length ≤ 1000000 := by
      have h1 := length_chunk L p m
      rw [← hch] at h1
      have := HN2.out
      omega
    have HGS := Lib.hid (Me.getL_sorted hsc k)
    have HFM := Lib.hid (from_mono (k := k) hsc)
    obtain ⟨a4, c4, rfl⟩ := ho4.form
    have HX4 := Lib.hid ho4.ens
    have HB4 := Lib.hid (HB3.out.stay0 hs4)
    have HD4 := Lib.hid (hs4.cell HD3.out (fun x => x))
    have HS4 := Lib.hid (HS3.out.trans hs4)
    obtain ⟨d, hd⟩ : ∃ d, d = w4.heap.size := ⟨_, rfl⟩
    obtain ⟨w5, hw5⟩ : ∃ w5, w4.alloc (.cells #[.slice a4 ch.length c4] 22) = w5 := ⟨_, rfl⟩
    have hs5 : Stay (fun _ => False) w4 w5 := hw5 ▸ Stay.alloc _ _
    have hd5 : w5.cell? ⟨d, 0, none⟩ = some (.slice a4 ch.length c4) := by
      rw [← hw5, hd, cell_of_row _ w4.heap.size 0 _ _ _ (heap_alloc_new w4 _)]
      rfl
    have hc5 := hs5.cell HD4.out (fun x => x)
    have HD5 := Lib.hid hd5
    have HC5 := Lib.hid hc5
    have HX5 := Lib.hid (HX4.out.stay0 hs5)
    have HB5 := Lib.hid (HB4.out.stay0 hs5)
    have HS5 := Lib.hid (HS4.out.trans hs5)
    have W5 := Lib.hid hw5
    have HD := Lib.hid hd
    clear hs4 ho4 hch hsc hw5 hs5 hd hd5 hc5 HGM HX4 HB4 HS4 HD4 HB3 HD3 HT3
    go_wp2_with fail
    rw [W5.out, ← HD.out]
    refine (search_get ch.length (fun i => !ltB (keyAt ch i) k) _ _ w5 hcl HFM.out (fun W hW i hi => get1_any W d b _ ch k i (hW.cell HD5.out (fun x => x)) (hW.cell HC5.out (fun x => x)) (HX5.out.stay0 hW) hi hcl)).mono ?_
    rintro e w6 ⟨⟨i, rfl, hi⟩, hs6⟩
    have HPI := Lib.hid (from_pos hi)
    have hil := hi.le
    have hd6 := hs6.cell HD5.out (fun x => x)
    have hc6 := hs6.cell HC5.out (fun x => x)
    have HX6 := Lib.hid (HX5.out.stay0 hs6)
    have HB6 := Lib.hid (HB5.out.stay0 hs6)
    have HS6 := Lib.hid (HS5.out.trans hs6)
    have hcli : (ch.length : Int) ≤ 1000000 := by omega
    clear hi hs6 HFM HD5 HC5 HX5 HB5 HS5
    by_cases hlt : i < ch.length
    · obtain ⟨e, he, hek⟩ := at_of hlt
      obtain ⟨g, o, rfl, _, hcs⟩ := HX6.out.at (by omega)
      obtain ⟨c0, c1, c2⟩ := hcs _ e he
      have hne : ((i : Int) == (ch.length : Int)) = false := beq_eq_false_iff_ne.2 (by omega)
      have hii : (i : Int) < ch.length := by omega
      have HHB := Lib.hid (show Me.hasB ch k = (e.k == k) by unfold Me.hasB; rw [HPI.out, he])
      have HEE := Lib.hid he
      have kl := Lib.hid (fun W (hW : Stay (fun _ => False) w6 W) => Me.run_load_at (hW.cell c0 (fun x => x)) (hW.cell c1 (fun x => x)) (hW.cell c2 (fun x => x)))
      have HD6 := Lib.hid hd6
      clear hcs c1 c2 he hek hlt hil
      by_cases hkk : e.k = k
      · have hkb : (e.k == k) = true := by simpa using hkk
        have HRES := Lib.hid (show getL L k = some e by rw [HGC.out, HGS.out, HHB.out, hkb, if_pos rfl, HPI.out, HEE.out])
        clear hkk
        go_wp2
        go_quiet (fail)
        have HB7 := Lib.hid (HB6.out.stay0 (Pk.stay_drewN w6 nq))
        have HS7 := Lib.hid (HS6.out.trans (Pk.stay_drewN w6 nq))
        have kl7 := Lib.hid (kl.out _ (Pk.stay_drewN w6 nq))
        go_wp2_with (first
          | (refine Me.wpList_load_run (by rfl) 27 (.tmp 51) rfl ⟨g, o + i * 3, none⟩ rfl _ kl7.out ?_)
          | (refine Box.store HB7.out rfl (.tmp 4) (.tmp 52) rfl rfl e rfl ?_
             intro w8 hb8 hs8
             have H8 := Lib.hid hb8
             have HS8 := Lib.hid (stay_seal (HS7.out.mono (fun _ x => x.elim) |>.trans hs8) (fun k hk => by have hk' : k = b + 1 := hk; have := HB.out; omega))
             clear hb8 hs8))
        have hld := H8.out.run_load
        refine bodyPost_ret (v := .tuple #[enV e, .bool true, .nilIface]) (by simp [results, Tryz.results11, asAddr, hld]) rfl ⟨by rw [HRES.out]; rfl, HS8.out⟩
      · have hkb : (e.k == k) = false := by simpa using hkk
        have HRES := Lib.hid (show getL L k = none by rw [HGC.out, HGS.out, HHB.out, hkb, if_neg (by decide)])
        clear hkk
        go_wp2
        go_quiet (fail)
        have HB7 := Lib.hid (HB6.out.stay0 (Pk.stay_drewN w6 nq))
        have HS7 := Lib.hid (HS6.out.trans (Pk.stay_drewN w6 nq))
        go_wp2_with (first
          | (refine Box.store HB7.out rfl (.tmp 4) (.tmp 48) rfl rfl ⟨[], [], false⟩ rfl ?_
             intro w8 hb8 hs8
             have H8 := Lib.hid hb8
             have HS8 := Lib.hid (stay_seal (HS7.out.mono (fun _ x => x.elim) |>.trans hs8) (fun k hk => by have hk' : k = b + 1 := hk; have := HB.out; omega))
             clear hb8 hs8))
        have hld := H8.out.run_load
        refine bodyPost_ret (v := .tuple #[enV ⟨[], [], false⟩, .bool false, .nilIface]) (by simp [results, Tryz.results11, asAddr, hld]) rfl ⟨by rw [HRES.out]; rfl, HS8.out⟩
    · obtain rfl : i = ch.length := by omega
      have HRES := Lib.hid (show getL L k = none by
        rw [HGC.out, HGS.out, if_neg]
        intro h
        have := Me.hasB_lt h
        rw [HPI.out] at this
        omega)
      have hne : ((ch.length : Int) == (ch.length : Int)) = true := by simp
      clear hlt hil
      go_wp2
      go_quiet (fail)
      have HB7 := Lib.hid (HB6.out.stay0 (Pk.stay_drewN w6 nq))
      have HS7 := Lib.hid (HS6.out.trans (Pk.stay_drewN w6 nq))
      go_wp2_with (first
        | (refine Box.store HB7.out rfl (.tmp 4) (.tmp 48) rfl rfl ⟨[], [], false⟩ rfl ?_
           intro w8 hb8 hs8
           have H8 := Lib.hid hb8
           have HS8 := Lib.hid (stay_seal (HS7.out.mono (fun _ x => x.elim) |>.trans hs8) (fun k hk => by have hk' : k = b + 1 := hk; have := HB.out; omega))
           clear hb8 hs8))
      have hld := H8.out.run_load
      refine bodyPost_ret (v := .tuple #[enV ⟨[], [], false⟩, .bool false, .nilIface]) (by simp [results, Tryz.results11, asAddr, hld]) rfl ⟨by rw [HRES.out]; rfl, HS8.out⟩

end Go.Proofs.YtahfgoafiepioaaGreatDoor.Tb
