import Derived.Test.YtahfgoafiepioaaGreatDoorTbV
import Derived.Test.YtahfgoafiepioaaGreatDoorTbL
import Derived.Test.YtahfgoafiepioaaGreatDoorGaS
import Derived.Test.YtahfgoafiepioaaGreatDoorTbN
import Derived.Test.YtahfgoafiepioaaGreatDoorGaR
import Derived.Test.YtahfgoafiepioaaGreatDoorTbI
import Derived.Test.YtahfgoafiepioaaGreatDoorTbS
import Derived.Test.YtahfgoafiepioaaGreatDoorGaH
import Derived.Great.BuildSlice
import Derived.Test.YtahfgoafiepioaaGreatDoorTbK
/-
  table, the document's: a table in memory; where a key would be.
-/
namespace Go.Proofs.YtahfgoafiepioaaGreatDoor.Tb
open Go.RowKit
open Pk (stay_seal)
open Me (En EnS EnO Box enC enV norm ltB Sorted getL posN hasB sizeL)
open Pk (spellB bytesB Slc Owns)
open Bo (TO RV)
set_option maxRecDepth 100000
set_option linter.unusedVariables false

/-- The document's table, as its bytes tell it. -/
def RT (n m : Nat) (gf fo cf : Nat) (gp po cp : Nat) (last : List UInt8) (a : Option Addr) (s c : Nat) : Value :=
  .agg #[.int .i64 (n : Int), .slice (some ⟨gf, fo, none⟩) m cf, .slice (some ⟨gp, po, none⟩) m cp, .string ⟨last.toArray⟩, .int .i64 3, .slice a s c]
/-- What it tells: L's, in parts of p, q bits an entry. -/
structure RTAt (w : World) (gf fo gp po : Nat) (a : Option Addr) (s c : Nat) (L : List En) (p q : Nat) : Prop where
  gfl : gf < w.heap.size
  gpl : gp < w.heap.size
  firsts : ∀ i, i < cN L.length p → w.cell? ⟨gf, fo + i, none⟩ = some (.string ⟨(keyAt L (i * p)).toArray⟩)
  parts : ∀ i, i < cN L.length p → ∃ x, w.cell? ⟨gp, po + i, none⟩ = some x ∧ Slc w x (partB (chunk L p i))
  filt : TO 0 w (.slice a s c) (filtB L q)
theorem RTAt.stay0 {w w' : World} {gf fo gp po s c p q : Nat} {a : Option Addr} {L : List En} (h : RTAt w gf fo gp po a s c L p q) (hs : Stay (fun _ => False) w w') : RTAt w' gf fo gp po a s c L p q :=
  ⟨Nat.lt_of_lt_of_le h.gfl hs.size, Nat.lt_of_lt_of_le h.gpl hs.size, fun i hi => hs.cell (h.firsts i hi) (fun x => x), fun i hi => by
    obtain ⟨x, h1, h2⟩ := h.parts i hi
    exact ⟨x, hs.cell h1 (fun x => x), h2.stay0 hs⟩, h.filt.stay0 hs⟩

set_option maxHeartbeats 1200000 in
theorem rfind_any (w : World) (gf fo cf gp po cp : Nat) (a : Option Addr) (s c : Nat) (L : List En) (p q j : Nat) (k : List UInt8) (h : RTAt w gf fo gp po a s c L p q) (hc : cN L.length p ≤ cf) (hm : cN L.length p ≤ 1000000) (hj : IsJ L p k j) (hp : 1 ≤ p) (hs : Sorted L) (hs1 : 1 ≤ q * L.length) (hs2 : q * L.length ≤ 1048576) (hk : k.length + 1 ≤ 140737488355328) :
    Calls Tryz.prog 14 #[RT L.length (cN L.length p) gf fo cf gp po cp (lastK L) a s c, .string ⟨k.toArray⟩] w fun e w' => e = .returned (.int .i64 (findN L p q k j)) ∧ Stay (fun _ => False) w w' := by
  obtain ⟨kl, hkl⟩ : ∃ kl, kl = lastK L := ⟨_, rfl⟩
  have HFN := Lib.hid (show findN L p q k j = if mayT L q k = true ∧ ltB kl k = false then (j : Int) - 1 else -1 by rw [hkl]; rfl)
  obtain ⟨R, hR⟩ : ∃ R, R = findN L p q k j := ⟨_, rfl⟩
  rw [← hR] at HFN ⊢
  rw [← hkl]
  obtain ⟨m, hmm⟩ : ∃ m, m = cN L.length p := ⟨_, rfl⟩
  have HF := Lib.hid (show ∀ i, i < m → w.cell? ⟨gf, fo + i, none⟩ = some (.string ⟨(keyAt L (i * p)).toArray⟩) from fun i hi => h.firsts i (by rw [← hmm]; exact hi))
  have HJ := Lib.hid (show ∀ i, i < m → ltB k (keyAt L (i * p)) = decide (j ≤ i) from fun i hi => by
    by_cases hji : j ≤ i
    · rw [decide_eq_true hji]
      exact find_mono hp hs j i hji (by rw [← hmm]; exact hi) (hj.hi (by rw [← hmm]; omega))
    · rw [decide_eq_false hji]
      exact hj.lo i (by omega))
  have HJM := Lib.hid (show j ≤ m by rw [hmm]; exact hj.le)
  have HLB := Lib.hid (filtB_len L q)
  obtain ⟨B, hB⟩ : ∃ B, B = filtB L q := ⟨_, rfl⟩
  have hft := h.filt
  have HMY := Lib.hid (show mayT L q k = Bo.mayB B (Bo.bitsN B.length 3 k) by rw [hB, filtB_len]; rfl)
  rw [← hB] at hft HLB
  have HT := Lib.hid hft
  have HKK := Lib.hid hk
  have HB1 := Lib.hid (show 1 ≤ B.length by rw [HLB.out]; exact hs1)
  have HB2 := Lib.hid (show B.length ≤ 1048576 by rw [HLB.out]; exact hs2)
  rw [← hmm] at hc hm ⊢
  obtain ⟨my, hmy⟩ : ∃ my, my = mayT L q k := ⟨_, rfl⟩
  rw [← hmy] at HMY HFN
  obtain ⟨n, hn⟩ : ∃ n, n = L.length := ⟨_, rfl⟩
  rw [← hn]
  have hmi : (m : Int) ≤ 1000000 := by omega
  have hci : (m : Int) ≤ cf := by omega
  obtain ⟨b, hb⟩ : ∃ b, b = w.heap.size := ⟨_, rfl⟩
  obtain ⟨w0, hw0⟩ : ∃ w0, w.alloc (.cells #[.int .i64 (n : Int), .slice (some ⟨gf, fo, none⟩) m cf, .slice (some ⟨gp, po, none⟩) m cp, .string ⟨kl.toArray⟩, .int .i64 3, .slice a s c] 46) = w0 := ⟨_, rfl⟩
  have hzw : w0.heap[b]? = some (.cells #[.int .i64 (n : Int), .slice (some ⟨gf, fo, none⟩) m cf, .slice (some ⟨gp, po, none⟩) m cp, .string ⟨kl.toArray⟩, .int .i64 3, .slice a s c] 46 (0, 0)) := by rw [hb, ← hw0]; exact heap_alloc_new w _
  have q1 : w0.cell? ⟨b, 1, none⟩ = some (.slice (some ⟨gf, fo, none⟩) m cf) := by rw [cell_of_row w0 b 1 _ _ _ hzw]; rfl
  have q3 : w0.cell? ⟨b, 3, none⟩ = some (.string ⟨kl.toArray⟩) := by rw [cell_of_row w0 b 3 _ _ _ hzw]; rfl
  have HRUN := Lib.hid (show (loadVar 44 ⟨b, 4, none⟩).run Tryz.prog w0 = .ok (.agg #[.int .i64 3, .slice a s c]) w0 from
    run_loadVar_mid (P := Tryz.prog) w0 b 4 46 44 #[.int .i64 (n : Int), .slice (some ⟨gf, fo, none⟩) m cf, .slice (some ⟨gp, po, none⟩) m cp, .string ⟨kl.toArray⟩, .int .i64 3, .slice a s c] #[.int .i64 3, .slice a s c] (0, 0) _ hzw Tryz.underlying44 rfl info_rf (fun j hj => by
      have hj2 : j = 0 ∨ j = 1 := by have : j < 2 := hj; omega
      rcases hj2 with rfl | rfl <;> rfl))
  have hs0 : Stay (fun _ => False) w w0 := hw0 ▸ Stay.alloc _ _
  have HS0 := Lib.hid hs0
  have HT0 := Lib.hid (HT.out.stay0 hs0)
  have HF0 := Lib.hid (show ∀ i, i < m → w0.cell? ⟨gf, fo + i, none⟩ = some (.string ⟨(keyAt L (i * p)).toArray⟩) from fun i hi => hs0.cell (HF.out i hi) (fun x => x))
  have WW := Lib.hid hw0
  have HBW := Lib.hid hb
  have Q1 := Lib.hid q1
  have Q3 := Lib.hid q3
  clear h hc hm hj hp hs hs1 hs2 hk hkl hR hmm hft hB hmy hn hb hw0 hzw hs0 q1 q3 HF HT
  unfold RT
  go_enter Tryz.func14, Tryz.ntmps14
  go_wp2
  rw [WW.out, ← HBW.out]
  go_loopw [5, 6] (fun av i wr => ∃ r : Nat, r ≤ m ∧ i = .int .i64 (r : Int) ∧ av = .int .i64 (((min r j : Nat) : Int) - 1) ∧ wr = w0) (fun _ i _ => m - (intOf i).toNat)
  case atStart => exact ⟨0, Nat.zero_le _, rfl, by rw [Nat.zero_min]; rfl, rfl⟩
  case round =>
    obtain ⟨r, hr, rfl, rfl, rfl⟩ := hrel
    have q1 := Q1.out
    obtain ⟨d, hd⟩ : ∃ d : Int, d = ((min r j : Nat) : Int) - 1 := ⟨_, rfl⟩
    have HD := Lib.hid hd
    rw [← hd]
    clear hd
    by_cases hlt : r < m
    · have kc := HF0.out r hlt
      have hj2 := HJ.out r hlt
      obtain ⟨kf, hkf⟩ : ∃ kf, kf = keyAt L (r * p) := ⟨_, rfl⟩
      rw [← hkf] at kc hj2
      have HJ2 := Lib.hid hj2
      clear hkf hj2
      by_cases hji : j ≤ r
      · have hq : (Op.bytesLess kf k || kf == k) = false := by rw [leq_not, HJ2.out, decide_eq_true hji]; rfl
        go_wp2
        go_roundw
        case rel => exact ⟨r + 1, hlt, by go_num, by rw [HD.out, Nat.min_eq_right hji, Nat.min_eq_right (by omega)], trivial⟩
        case measure => simp [intOf]; omega
      · have hq : (Op.bytesLess kf k || kf == k) = true := by rw [leq_not, HJ2.out, decide_eq_false hji]; rfl
        go_wp2
        go_roundw
        case rel => exact ⟨r + 1, hlt, by go_num, by rw [Nat.min_eq_left (by omega)]; go_num, trivial⟩
        case measure => simp [intOf]; omega
    · obtain rfl : m = r := by omega
      have q3 := Q3.out
      have HD2 := Lib.hid (show d = (j : Int) - 1 by rw [HD.out, Nat.min_eq_right HJM.out])
      go_wp2_with (first | (refine Me.wpList_load_run (by rfl) 44 (.tmp 22) rfl ⟨b, 4, none⟩ rfl _ HRUN.out ?_))
      refine (Bo.rmay_any wr 3 _ B k 0 HT0.out HB1.out HB2.out (by decide) HKK.out).mono ?_
      rintro e w2 ⟨rfl, hs2⟩
      rw [← HMY.out]
      have q3' := hs2.cell Q3.out (fun x => x)
      have HS2 := Lib.hid (HS0.out.trans hs2)
      clear hs2 q3
      have hfn := HFN.out
      cases my with
      | false =>
        rw [if_neg (by simp)] at hfn
        subst hfn
        go_wp2
        go_ret
        exact ⟨rfl, HS2.out⟩
      | true =>
        cases hlk : ltB kl k with
        | true =>
          have hq : (!Op.bytesLess k kl && !k == kl) = true := by rw [gtr_is, hlk]
          rw [hlk, if_neg (by simp)] at hfn
          subst hfn
          go_wp2
          go_ret
          exact ⟨rfl, HS2.out⟩
        | false =>
          have hq : (!Op.bytesLess k kl && !k == kl) = false := by rw [gtr_is, hlk]
          rw [hlk, if_pos ⟨rfl, rfl⟩] at hfn
          rw [HD2.out, ← hfn]
          clear hfn
          go_wp2
          go_ret
          exact ⟨rfl, HS2.out⟩
end Go.Proofs.YtahfgoafiepioaaGreatDoor.Tb

/-
  table, the document's: Get, over what its Find and its Part answer.
-/
namespace Go.Proofs.YtahfgoafiepioaaGreatDoor.Tb
open Go.RowKit
open Pk (stay_seal)
open Me (En EnS EnO Box enC enV norm ltB Sorted getL posN hasB sizeL entOf getL_take getL_some)
open Pk (Slc Owns)
set_option maxRecDepth 100000
set_option linter.unusedVariables false

theorem info_rt : (Tryz.prog.info? 46).map (·.size) = some 6 := by kernel_rfl
def RBox (w : World) (b n m gf fo cf gp po cp : Nat) (kl : List UInt8) (a : Option Addr) (s c : Nat) : Prop :=
  w.heap[b]? = some (.cells #[.int .i64 (n : Int), .slice (some ⟨gf, fo, none⟩) m cf, .slice (some ⟨gp, po, none⟩) m cp, .string ⟨kl.toArray⟩, .int .i64 3, .slice a s c] 46 (0, 0))
theorem RBox.stay {X : Nat → Prop} {w w' : World} {b n m gf fo cf gp po cp s c : Nat} {kl : List UInt8} {a : Option Addr} (h : RBox w b n m gf fo cf gp po cp kl a s c) (hs : Stay X w w') (hx : ¬ X b) : RBox w' b n m gf fo cf gp po cp kl a s c := (hs.block b (lt_of_block h) hx).trans h
theorem RBox.run {w : World} {b n m gf fo cf gp po cp s c : Nat} {kl : List UInt8} {a : Option Addr} (h : RBox w b n m gf fo cf gp po cp kl a s c) : (loadVar 46 ⟨b, 0, none⟩).run Tryz.prog w = .ok (RT n m gf fo cf gp po cp kl a s c) w :=
  run_loadVar_mid (P := Tryz.prog) w b 0 46 46 _ #[.int .i64 (n : Int), .slice (some ⟨gf, fo, none⟩) m cf, .slice (some ⟨gp, po, none⟩) m cp, .string ⟨kl.toArray⟩, .int .i64 3, .slice a s c] (0, 0) _ h Tryz.underlying46 rfl info_rt (fun j hj => by rw [Nat.zero_add])

set_option maxHeartbeats 1200000 in
theorem rget13_any (w : World) (n m gf fo cf gp po cp : Nat) (kl : List UInt8) (a : Option Addr) (s c : Nat) (k : List UInt8) (fn : Int) (ch : List En) (G : Option En)
    (HFI : ∀ W, Stay (fun _ => False) w W → Calls Tryz.prog 14 #[RT n m gf fo cf gp po cp kl a s c, .string ⟨k.toArray⟩] W fun e w' => e = .returned (.int .i64 fn) ∧ Stay (fun _ => False) W w')
    (HPT : 0 ≤ fn → ∀ W, Stay (fun _ => False) w W → Calls Tryz.prog 41 #[RT n m gf fo cf gp po cp kl a s c, .int .i64 fn] W fun e w' => (∃ v, e = .returned (.tuple #[v, .int .i64 0]) ∧ EnS w' v ch) ∧ Stay (fun _ => False) W w')
    (hneg : fn < 0 → G = none) (hpos : 0 ≤ fn → getL ch k = G) (hcl : ch.length ≤ 1000000) :
    Calls Tryz.prog 12 #[RT n m gf fo cf gp po cp kl a s c, .string ⟨k.toArray⟩] w fun e w' => e = .returned (.tuple #[enV (entOf G), .bool G.isSome, .int .i64 0]) ∧ Stay (fun _ => False) w w' := by
  have HF := Lib.hid HFI
  have HP := Lib.hid HPT
  have HNG := Lib.hid hneg
  have HPG := Lib.hid hpos
  obtain ⟨w1, hw1⟩ : ∃ w1, w.alloc (.cells #[.int .i64 (n : Int), .slice (some ⟨gf, fo, none⟩) m cf, .slice (some ⟨gp, po, none⟩) m cp, .string ⟨kl.toArray⟩, .int .i64 3, .slice a s c] 46) = w1 := ⟨_, rfl⟩
  have hz1 : w1.heap.size = w.heap.size + 1 := by rw [← hw1]; simp
  have hrb : RBox w1 w.heap.size n m gf fo cf gp po cp kl a s c := by rw [← hw1]; exact heap_alloc_new w _
  have hbx := Box.new w1 ⟨[], [], false⟩
  obtain ⟨w2, hw2⟩ : ∃ w2, w1.alloc (.cells (enC ⟨[], [], false⟩).toArray 27) = w2 := ⟨_, rfl⟩
  rw [hw2] at hbx
  have hs12 : Stay (fun _ => False) w1 w2 := hw2 ▸ Stay.alloc _ _
  have HS2 := Lib.hid (show Stay (fun _ => False) w w2 by rw [← hw2, ← hw1]; exact (Stay.alloc _ _).trans (Stay.alloc _ _))
  obtain ⟨b, hb⟩ : ∃ b, b = w.heap.size := ⟨_, rfl⟩
  rw [← hb] at hrb
  rw [hz1, ← hb] at hbx
  have HBX := Lib.hid hbx
  have HRB := Lib.hid (hrb.stay hs12 (fun x => x))
  have W1 := Lib.hid hw1
  have W2 := Lib.hid hw2
  have HB := Lib.hid hb
  have HZ := Lib.hid hz1
  clear HFI HPT hneg hpos hw1 hw2 hbx hrb hb hz1 hs12
  have hu : RT n m gf fo cf gp po cp kl a s c = .agg #[.int .i64 (n : Int), .slice (some ⟨gf, fo, none⟩) m cf, .slice (some ⟨gp, po, none⟩) m cp, .string ⟨kl.toArray⟩, .int .i64 3, .slice a s c] := rfl
  have hrun := HRB.out.run
  rw [hu] at hrun ⊢
  have HU := Lib.hid hu
  have HRN := Lib.hid hrun
  clear hu hrun
  go_enter Tryz.func12, Tryz.ntmps12
  go_wp2_with (first
    | (with_reducible refine Me.alloc_en rfl rfl ?_; rw [W1.out, W2.out, HZ.out, ← HB.out])
    | (refine Me.wpList_load_run (by rfl) 46 (.tmp 2) rfl ⟨b, 0, none⟩ rfl _ HRN.out ?_))
  rw [← HU.out]
  refine (HF.out w2 HS2.out).mono ?_
  rintro e w3 ⟨rfl, hs3⟩
  have HS3 := Lib.hid (HS2.out.trans hs3)
  have HB3 := Lib.hid (HBX.out.stay0 hs3)
  have HR3 := Lib.hid (HRB.out.stay hs3 (fun x => x)).run
  clear hs3 HBX HS2 HF HRN W1 W2
  by_cases hneg : fn < 0
  · have HGN := Lib.hid (HNG.out hneg)
    go_wp2_with (first
      | (refine Box.store HB3.out rfl (.tmp 4) (.tmp 16) rfl rfl ⟨[], [], false⟩ rfl ?_
         intro w4 hb4 hs4
         have H4 := Lib.hid hb4
         have HS4 := Lib.hid (stay_seal (HS3.out.mono (fun _ x => x.elim) |>.trans hs4) (fun k hk => by have hk' : k = b + 1 := hk; have := HB.out; omega))
         clear hb4 hs4))
    have hld := H4.out.run_load
    refine bodyPost_ret (v := .tuple #[enV ⟨[], [], false⟩, .bool false, .int .i64 0]) (by simp [results, Tryz.results12, asAddr, hld]) rfl ⟨by rw [HGN.out]; rfl, HS4.out⟩
  · have HGP := Lib.hid (HPG.out (by omega))
    have HPP := Lib.hid (HP.out (by omega))
    go_wp2_with (first
      | (refine Me.wpList_load_run (by rfl) 46 (.tmp 2) rfl ⟨b, 0, none⟩ rfl _ HR3.out ?_))
    refine (HPP.out w3 HS3.out).mono ?_
    rintro e w4 ⟨⟨v4, rfl, he4⟩, hs4⟩
    have HE4 := Lib.hid he4
    have HS4 := Lib.hid (HS3.out.trans hs4)
    have HB4 := Lib.hid (HB3.out.stay0 hs4)
    obtain ⟨a4, c4, rfl⟩ := he4.form
    have hchm : (ch.length : Int) ≤ 1000000 := by omega
    clear he4 hs4 HS3 HB3 HR3
    go_wp2
    go_loopw [10] (fun i wr => ∃ j : Nat, i = .int .i64 (j : Int) ∧ j ≤ ch.length ∧ Hid (getL (ch.take j) k = none) ∧ Stay (fun _ => False) w4 wr) (fun i _ => ch.length - (intOf i).toNat)
    case atStart => exact ⟨0, rfl, Nat.zero_le _, Lib.hid rfl, Stay.refl _ _⟩
    case round =>
      obtain ⟨j, rfl, hj, he, hst⟩ := hrel
      have HT := Lib.hid hst
      have HB1 := Lib.hid (HB4.out.stay0 hst)
      have HT1 := Lib.hid (HS4.out.trans hst)
      have hX := HE4.out.stay0 hst
      clear hst
      by_cases hlt : j < ch.length
      · obtain ⟨q, hq⟩ : ∃ q, ch[j]? = some q := ⟨_, List.getElem?_eq_getElem hlt⟩
        obtain ⟨g, o, rfl, _, hc⟩ := hX.at (by omega)
        obtain ⟨h0, h1, h2⟩ := hc _ q hq
        have kl := Lib.hid (Me.run_load_at h0 h1 h2)
        have HN := Lib.hid (getL_take he.out hq)
        clear hc h1 h2 hX hq
        by_cases hk : q.k = k
        · have HG := Lib.hid (show getL ch k = some q from getL_some (by rw [HN.out, if_pos hk]))
          rw [hk] at h0
          go_wp2_with (first
            | (refine Me.wpList_load_run (by rfl) 27 (.tmp 38) rfl ⟨g, o + j * 3, none⟩ rfl _ kl.out ?_)
            | (refine Box.store HB1.out rfl (.tmp 4) (.tmp 39) rfl rfl q rfl ?_
               intro w5 hb3 hs3
               have H3 := Lib.hid hb3
               have HS5 := Lib.hid (stay_seal (HT1.out.mono (fun _ x => x.elim) |>.trans hs3) (fun k hk => by have hk' : k = b + 1 := hk; have := HB.out; omega))
               clear hb3 hs3))
          have hld := H3.out.run_load
          refine bodyPost_ret (v := .tuple #[enV q, .bool true, .int .i64 0]) (by simp [results, Tryz.results12, asAddr, hld]) rfl ⟨by rw [← HGP.out, HG.out]; rfl, HS5.out⟩
        · have hkb : (q.k == k) = false := by simpa using hk
          have HN2 := Lib.hid (show getL (ch.take (j + 1)) k = none by rw [HN.out, if_neg hk])
          go_wp2
          refine ⟨⟨j + 1, by go_num, hlt, HN2, HT.out⟩, by simp [intOf]; omega⟩
      · obtain rfl : j = ch.length := by omega
        have HG := Lib.hid (show getL ch k = none by have := he.out; rw [List.take_length] at this; exact this)
        clear hX
        go_wp2_with (first
          | (refine Box.store HB1.out rfl (.tmp 4) (.tmp 40) rfl rfl ⟨[], [], false⟩ rfl ?_
             intro w5 hb3 hs3
             have H3 := Lib.hid hb3
             have HS5 := Lib.hid (stay_seal (HT1.out.mono (fun _ x => x.elim) |>.trans hs3) (fun k hk => by have hk' : k = b + 1 := hk; have := HB.out; omega))
             clear hb3 hs3))
        have hld := H3.out.run_load
        refine bodyPost_ret (v := .tuple #[enV ⟨[], [], false⟩, .bool false, .int .i64 0]) (by simp [results, Tryz.results12, asAddr, hld]) rfl ⟨by rw [← HGP.out, HG.out]; rfl, HS5.out⟩
end Go.Proofs.YtahfgoafiepioaaGreatDoor.Tb

/-
  table, the document's: readers over bytes that were laid.
-/
namespace Go.Proofs.YtahfgoafiepioaaGreatDoor.Tb
open Go.RowKit
open Pk (spellB bytesB boolB Slc Owns rdV)
set_option maxRecDepth 100000
set_option linter.unusedVariables false

theorem rtext_laid (w : World) (x y : Value) (k r : List UInt8) (most : Int) (hy : y = rdV x 0) (hx : Slc w x (bytesB k ++ r)) (hk : (k.length : Int) ≤ most) (hm : most ≤ 9223372036854775807) :
    Calls Tryz.prog 35 #[y, .int .i64 most] w fun e w' => (∃ x' v', e = .returned (.tuple #[rdV x' 0, v']) ∧ Slc w' x' r ∧ Slc w' v' k) ∧ Stay (fun _ => False) w w' := by
  subst hy
  refine (Pk.rrbytes_any (bytesB k ++ r) 0 most w x hx hm).mono ?_
  rintro e w' ⟨h, hs⟩
  rw [take_text k r most hk (by omega)] at h
  obtain ⟨x', v', he, h1, h2⟩ := h
  exact ⟨⟨x', v', he, h1.1, h2.1⟩, hs⟩
theorem rcount_laid (w : World) (x y : Value) (n : Nat) (r : List UInt8) (most : Int) (hy : y = rdV x 0) (hx : Slc w x (spellB n ++ r)) (hn : (n : Int) ≤ most) (hm : most ≤ 9223372036854775807) (hr : n ≤ r.length) :
    Calls Tryz.prog 34 #[y, .int .i64 most] w fun e w' => (∃ x', e = .returned (.tuple #[rdV x' 0, .int .i64 (n : Int)]) ∧ Slc w' x' r) ∧ Stay (fun _ => False) w w' := by
  subst hy
  refine (Pk.rrcount_any (spellB n ++ r) 0 most w x hx hm).mono ?_
  rintro e w' ⟨h, hs⟩
  rw [take_cnt n r most hn hm hr] at h
  obtain ⟨x', he, h1⟩ := h
  exact ⟨⟨x', he, h1.1⟩, hs⟩
theorem rbool_laid (w : World) (x y : Value) (g : Bool) (r : List UInt8) (hy : y = rdV x 0) (hx : Slc w x (boolB g ++ r)) :
    Calls Tryz.prog 80 #[y] w fun e w' => (∃ x', e = .returned (.tuple #[rdV x' 0, .bool g]) ∧ Slc w' x' r) ∧ Stay (fun _ => False) w w' := by
  subst hy
  refine (Pk.rrbool_any (boolB g ++ r) 0 w x hx).mono ?_
  rintro e w' ⟨h, hs⟩
  rw [take_tru g r] at h
  obtain ⟨x', he, h1⟩ := h
  exact ⟨⟨x', he, h1.1⟩, hs⟩
theorem ruint_laid (w : World) (x y : Value) (n most : Nat) (m : Int) (r : List UInt8) (hy : y = rdV x 0) (hm : m = (most : Int)) (hx : Slc w x (spellB n ++ r)) (hn : n ≤ most) (h64 : n < 2 ^ 64) (hmm : most ≤ Pk.M64) :
    Calls Tryz.prog 33 #[y, .int .u64 m] w fun e w' => (∃ x', e = .returned (.tuple #[rdV x' 0, .int .u64 (n : Int)]) ∧ Slc w' x' r) ∧ Stay (fun _ => False) w w' := by
  refine (Pk.rruint_at (spellB n ++ r) 0 most m w x y hm hy hx hmm).mono ?_
  rintro e w' ⟨h, hs⟩
  rw [take_num n most r h64 hn] at h
  obtain ⟨x', he, h1⟩ := h
  exact ⟨⟨x', he, h1.1⟩, hs⟩
theorem rdone_laid (w : World) (x y : Value) (hy : y = rdV x 0) (hx : Slc w x []) :
    Calls Tryz.prog 37 #[y] w fun e w' => e = .returned (.int .i64 0) ∧ Stay (fun _ => False) w w' := by
  subst hy
  exact Pk.rdone_ref [] 0 w x hx
end Go.Proofs.YtahfgoafiepioaaGreatDoor.Tb

/-
  table, the document's: a part's entries, told.
-/
namespace Go.Proofs.YtahfgoafiepioaaGreatDoor.Tb
open Go.RowKit Go.Maps
open Pk (stay_seal)
open Me (En EnS EnO Box enC enV norm ltB Sorted getL posN hasB sizeL)
open Pk (spellB bytesB boolB takeB Slc Owns rdV two_cells Sub)
open Bo (In0 two_put stay_put)
set_option maxRecDepth 100000
set_option linter.unusedVariables false

section
open Me
/-- A slice of one entry, made. -/
theorem list_one_en {ops : Array Oper} {rest : List Oper} {o : Oper} {a : Act} {w : World} {Q : Exit → Act → World → Prop} (hgd : o.guard = none) (x : Operand) (ho : o.op = .buildSlice 22 1 #[(0, x)]) (e : En) (hx : a.eval x = enV e)
    (h : wpList Tryz.prog ops Q rest (a.put o.dst (.slice (some ⟨w.heap.size, 0, none⟩) 1 1)) (w.alloc (.cells (enC e).toArray 27))) : wpList Tryz.prog ops Q (o :: rest) a w := by
  obtain ⟨i0, hi0, hz0, hzs, hzb⟩ := info_parts info_en
  refine wpList_buildSlice hgd 22 27 1 #[(0, x)] ho (enC e).toArray i0 zeroV Tryz.underlying22 hi0 hz0 (by rw [hzs]; decide) (by rw [hzs]; decide) ?_ h
  rw [hzs]
  simp only [List.map_toArray, List.map_cons, List.map_nil, hx]
  simp [Instr.fill, enV, enC, zeroV, Value.cells, Array.range]
  apply Array.ext_getElem?
  intro j
  match j with
  | 0 => simp
  | 1 => simp
  | 2 => simp
  | j + 3 => simp
end

/-- The readers over laid bytes of elder blocks. -/
theorem rtext_in (B : Nat) (w : World) (x y : Value) (k r : List UInt8) (most : Int) (hy : y = rdV x 0) (hx : In0 B w x (bytesB k ++ r)) (hk : (k.length : Int) ≤ most) (hm : most ≤ 9223372036854775807) (hB : B ≤ w.heap.size) :
    Calls Tryz.prog 35 #[y, .int .i64 most] w fun e w' => (∃ a c va vc, e = .returned (.tuple #[.agg #[.slice a r.length c, .int .i64 0], .slice va k.length vc]) ∧ In0 B w' (.slice a r.length c) r ∧ In0 B w' (.slice va k.length vc) k) ∧ Stay (fun _ => False) w w' := by
  subst hy
  have hl := len_bytesB k
  refine (Pk.rrbytes_any (bytesB k ++ r) 0 most w x hx.slc hm).mono ?_
  rintro e w' ⟨h, hs⟩
  rw [take_text k r most hk (by omega)] at h
  obtain ⟨x', v', he, h1, h2⟩ := h
  have hin := hx.stay (hs.mono (fun _ x => x.elim))
  have i1 := hin.sub h1 (by simp)
  have i2 := hin.sub h2 (by simp; omega)
  obtain ⟨a, c, rfl⟩ := i1.form
  obtain ⟨va, vc, rfl⟩ := i2.form
  exact ⟨⟨a, c, va, vc, he, i1, i2⟩, hs⟩
theorem rcount_in (B : Nat) (w : World) (x y : Value) (n : Nat) (r : List UInt8) (most : Int) (hy : y = rdV x 0) (hx : In0 B w x (spellB n ++ r)) (hn : (n : Int) ≤ most) (hm : most ≤ 9223372036854775807) (hr : n ≤ r.length) :
    Calls Tryz.prog 34 #[y, .int .i64 most] w fun e w' => (∃ a c, e = .returned (.tuple #[.agg #[.slice a r.length c, .int .i64 0], .int .i64 (n : Int)]) ∧ In0 B w' (.slice a r.length c) r) ∧ Stay (fun _ => False) w w' := by
  subst hy
  refine (Pk.rrcount_any (spellB n ++ r) 0 most w x hx.slc hm).mono ?_
  rintro e w' ⟨h, hs⟩
  rw [take_cnt n r most hn hm hr] at h
  obtain ⟨x', he, h1⟩ := h
  have i1 := (hx.stay (hs.mono (fun _ x => x.elim))).sub h1 (by simp)
  obtain ⟨a, c, rfl⟩ := i1.form
  exact ⟨⟨a, c, he, i1⟩, hs⟩
theorem rbool_in (B : Nat) (w : World) (x y : Value) (g : Bool) (r : List UInt8) (hy : y = rdV x 0) (hx : In0 B w x (boolB g ++ r)) :
    Calls Tryz.prog 80 #[y] w fun e w' => (∃ a c, e = .returned (.tuple #[.agg #[.slice a r.length c, .int .i64 0], .bool g]) ∧ In0 B w' (.slice a r.length c) r) ∧ Stay (fun _ => False) w w' := by
  subst hy
  refine (Pk.rrbool_any (boolB g ++ r) 0 w x hx.slc).mono ?_
  rintro e w' ⟨h, hs⟩
  rw [take_tru g r] at h
  obtain ⟨x', he, h1⟩ := h
  have i1 := (hx.stay (hs.mono (fun _ x => x.elim))).sub h1 (by simp)
  obtain ⟨a, c, rfl⟩ := i1.form
  exact ⟨⟨a, c, he, i1⟩, hs⟩
theorem ruint_in (B : Nat) (w : World) (x y : Value) (n most : Nat) (m : Int) (r : List UInt8) (hy : y = rdV x 0) (hm : m = (most : Int)) (hx : In0 B w x (spellB n ++ r)) (hn : n ≤ most) (h64 : n < 2 ^ 64) (hmm : most ≤ Pk.M64) :
    Calls Tryz.prog 33 #[y, .int .u64 m] w fun e w' => (∃ a c, e = .returned (.tuple #[.agg #[.slice a r.length c, .int .i64 0], .int .u64 (n : Int)]) ∧ In0 B w' (.slice a r.length c) r) ∧ Stay (fun _ => False) w w' := by
  refine (Pk.rruint_at (spellB n ++ r) 0 most m w x y hm hy hx.slc hmm).mono ?_
  rintro e w' ⟨h, hs⟩
  rw [take_num n most r h64 hn] at h
  obtain ⟨x', he, h1⟩ := h
  have i1 := (hx.stay (hs.mono (fun _ x => x.elim))).sub h1 (by simp)
  obtain ⟨a, c, rfl⟩ := i1.form
  exact ⟨⟨a, c, he, i1⟩, hs⟩
theorem ropen_seal (x : Value) (b : List UInt8) (w : World) (hx : Slc w x (Hn.sealB b)) (hlen : b.length ≤ 100000000000000) :
    Calls Tryz.prog 32 #[x] w fun e w' => (∃ a c, e = .returned (.tuple #[.slice a b.length c, .int .i64 0]) ∧ Slc w' (.slice a b.length c) b) ∧ Stay (fun _ => False) w w' := by
  have hl := Hn.length_sealB b
  refine (Hn.ropen_any x _ w hx (by omega)).mono ?_
  rintro e w' ⟨⟨v, rfl, h⟩, hs⟩
  have h0 := open_seal b
  unfold Hn.bodyB at h
  rw [h0] at h
  have hc : Hn.codeB (Hn.sealB b) = 0 := by unfold Hn.codeB; rw [h0]
  rw [hc]
  obtain ⟨a, c, e, _⟩ := id h
  dsimp only at e
  subst e
  exact ⟨⟨a, c, rfl, h⟩, hs⟩

/-- A reader in its box. -/
def RX (w : World) (B : Nat) (a : Option Addr) (n c : Nat) : Prop := w.heap[B]? = some (.cells #[.slice a n c, .int .i64 0] 84 (0, 0))
theorem RX.run {w : World} {B n c : Nat} {a : Option Addr} (h : RX w B a n c) : (loadVar 84 ⟨B, 0, none⟩).run Tryz.prog w = .ok (.agg #[.slice a n c, .int .i64 0]) w :=
  run_loadVar_mid (P := Tryz.prog) w B 0 84 84 #[.slice a n c, .int .i64 0] #[.slice a n c, .int .i64 0] (0, 0) _ h Tryz.underlying84 rfl (by kernel_rfl) (fun j _ => by rw [Nat.zero_add])
end Go.Proofs.YtahfgoafiepioaaGreatDoor.Tb

/-
  table, the document's: a part's entries, told (the walk).
-/
namespace Go.Proofs.YtahfgoafiepioaaGreatDoor.Tb
open Go.RowKit Go.Maps
open Pk (stay_seal)
open Me (En EnS EnO Box enC enV norm ltB Sorted getL posN hasB sizeL)
open Pk (spellB bytesB boolB takeB Slc Owns rdV two_cells Sub)
open Bo (In0 two_put stay_put)
set_option maxRecDepth 100000
set_option linter.unusedVariables false

set_option maxHeartbeats 1600000 in
theorem rpart_any (w : World) (gf fo cf gp po cp : Nat) (a : Option Addr) (s c : Nat) (L : List En) (p q i : Nat) (h : RTAt w gf fo gp po a s c L p q) (hi : i < cN L.length p) (hp : 1 ≤ p) (hs : Sorted L) (hnr : ∀ e ∈ L, norm e = e) (hn2 : L.length ≤ 16384) (hsz : sizeL L ≤ 100000000) (hcf : cN L.length p ≤ cf) (hcp : cN L.length p ≤ cp) :
    Calls Tryz.prog 41 #[RT L.length (cN L.length p) gf fo cf gp po cp (lastK L) a s c, .int .i64 (i : Int)] w fun e w' => (∃ v, e = .returned (.tuple #[v, .int .i64 0]) ∧ EnS w' v (chunk L p i)) ∧ Stay (fun _ => False) w w' := by
  obtain ⟨ch, m, k0, kg, hk⟩ := chK_of hs hp hi
  obtain ⟨x, hx1, hx2⟩ := h.parts i hi
  have hsc := size_chunk L p i
  have hlc := length_chunk L p i
  have hcm := cN_le (n := L.length) hp
  have hsrt : decide (Sorted ch) = true := decide_eq_true (hk.is ▸ sorted_chunk hs p i)
  have hf0 := h.firsts i hi
  rw [hk.first'] at hf0
  obtain ⟨kl, hkl⟩ : ∃ kl, kl = lastK L := ⟨_, rfl⟩
  have hall := hk.all
  rw [← hkl] at hall
  have hnx : i + 1 < cN L.length p → w.cell? ⟨gf, fo + (i + 1), none⟩ = some (.string ⟨(keyAt L ((i + 1) * p)).toArray⟩) ∧ ltB kg (keyAt L ((i + 1) * p)) = true := fun hn => ⟨h.firsts _ hn, hk.next hn⟩
  obtain ⟨e0, he0, hk0⟩ := at_of (L := ch) (i := 0) (by rw [hk.len]; omega)
  obtain ⟨e1, he1, hk1⟩ := at_of (L := ch) (i := m) (by rw [hk.len]; omega)
  rw [hk.first] at hk0
  rw [hk.last] at hk1
  have hnc : ∀ e ∈ ch, norm e = e := by rw [hk.is]; exact chunk_norm hnr
  rw [← hk.is] at hx2 hsc hlc ⊢
  have hlen := hk.len
  obtain ⟨n, hn⟩ : ∃ n, n = cN L.length p := ⟨_, rfl⟩
  rw [← hn] at hi hcf hcp hcm ⊢
  have HNX := Lib.hid (show i + 1 < n → w.cell? ⟨gf, fo + (i + 1), none⟩ = some (.string ⟨(keyAt L ((i + 1) * p)).toArray⟩) ∧ ltB kg (keyAt L ((i + 1) * p)) = true by rw [hn]; exact hnx)
  have hrl := len_rowsB ch
  have hsp := len_spellB ch.length
  rw [← hkl]
  clear hkl
  obtain ⟨N, hN⟩ : ∃ N, N = L.length := ⟨_, rfl⟩
  rw [← hN] at hn2 hcm hlc ⊢
  have HLN := Lib.hid hlen
  have HNC := Lib.hid hnc
  have HE0 := Lib.hid he0
  have HE1 := Lib.hid he1
  have HK0 := Lib.hid hk0
  have HK1 := Lib.hid hk1
  have HALL := Lib.hid hall
  have hml : m + 1 ≤ 16384 := by omega
  clear h hk hnx hn hN hlen hnc he0 he1 hk0 hk1 hall hs hnr
  obtain ⟨b, hb⟩ : ∃ b, b = w.heap.size := ⟨_, rfl⟩
  obtain ⟨w1, hw1⟩ : ∃ w1, w.alloc (.cells #[.int .i64 (N : Int), .slice (some ⟨gf, fo, none⟩) n cf, .slice (some ⟨gp, po, none⟩) n cp, .string ⟨kl.toArray⟩, .int .i64 3, .slice a s c] 46) = w1 := ⟨_, rfl⟩
  have hrb : RBox w1 b N n gf fo cf gp po cp kl a s c := by rw [hb, ← hw1]; exact heap_alloc_new w _
  have hs1 : Stay (fun _ => False) w w1 := hw1 ▸ Stay.alloc _ _
  have q1 : w1.cell? ⟨b, 1, none⟩ = some (.slice (some ⟨gf, fo, none⟩) n cf) := by rw [cell_of_row w1 b 1 _ _ _ hrb]; rfl
  have q2 : w1.cell? ⟨b, 2, none⟩ = some (.slice (some ⟨gp, po, none⟩) n cp) := by rw [cell_of_row w1 b 2 _ _ _ hrb]; rfl
  have q3 : w1.cell? ⟨b, 3, none⟩ = some (.string ⟨kl.toArray⟩) := by rw [cell_of_row w1 b 3 _ _ _ hrb]; rfl
  have hx1' := hs1.cell hx1 (fun x => x)
  have HS1 := Lib.hid hs1
  have HX2 := Lib.hid (hx2.stay0 hs1)
  have HZ1 := Lib.hid (show w1.heap.size = b + 1 by rw [← hw1, hb]; simp)
  have Q1 := Lib.hid q1
  have Q2 := Lib.hid q2
  have Q3 := Lib.hid q3
  have HF0 := Lib.hid hf0
  have W1 := Lib.hid hw1
  have HB := Lib.hid hb
  have hnm : (n : Int) ≤ 16384 := by omega
  have hin : (i : Int) < n := by omega
  have hcf' : (n : Int) ≤ cf := by omega
  have hcp' : (n : Int) ≤ cp := by omega
  obtain ⟨T, hT⟩ : ∃ T, T = spellB ch.length ++ rowsB ch := ⟨_, rfl⟩
  have hTl : T.length ≤ 200000000 := by rw [hT, List.length_append]; omega
  have HT := Lib.hid hT
  have HPB := Lib.hid (show partB ch = Hn.sealB T by rw [hT]; rfl)
  have HRL := Lib.hid hrl
  obtain ⟨va, vc, rfl⟩ : ∃ va vc, x = .slice va (partB ch).length vc := by obtain ⟨a, c, e, _⟩ := id hx2; exact ⟨a, c, e⟩
  obtain ⟨pn, hpn⟩ : ∃ pn, pn = (partB ch).length := ⟨_, rfl⟩
  rw [← hpn] at HX2 hx1'
  have kc : (w.alloc (.cells #[.int .i64 (N : Int), .slice (some ⟨gf, fo, none⟩) n cf, .slice (some ⟨gp, po, none⟩) n cp, .string ⟨kl.toArray⟩, .int .i64 3, .slice a s c] 46)).cell? ⟨gp, po + i, none⟩ = some (.slice va pn vc) := by rw [hw1]; exact hx1'
  have hil : ¬ (n ≤ i) := by omega
  clear hrb hs1 q1 q2 q3 hx1 hx2 hx1' hw1 hT hpn hrl hsp hf0 hsz hb
  unfold RT
  go_enter Tryz.func41, Tryz.ntmps41
  go_wp2_with fail
  rw [W1.out, ← HB.out]
  rw [HPB.out] at HX2
  refine (ropen_seal _ T w1 HX2.out (by omega)).mono ?_
  rintro e w2 ⟨⟨a1, c1, rfl, ho1⟩, hs2⟩
  have HSL := Lib.hid ho1
  have HS2 := Lib.hid (HS1.out.trans hs2)
  have HZ2 := Lib.hid (show b < w2.heap.size by have := hs2.size; have := HZ1.out; omega)
  have hq1 := hs2.cell Q1.out (fun x => x)
  have hq2 := hs2.cell Q2.out (fun x => x)
  have hq3 := hs2.cell Q3.out (fun x => x)
  have HQ1 := Lib.hid hq1
  have HQ2 := Lib.hid hq2
  have HQ3 := Lib.hid hq3
  have HSX := Lib.hid (show In0 w2.heap.size w2 (.slice a1 T.length c1) (spellB ch.length ++ rowsB ch) from ⟨HT.out ▸ HSL.out, fun h0 => (HT.out ▸ HSL.out : Slc w2 (.slice a1 T.length c1) (spellB ch.length ++ rowsB ch)).blk_lt h0⟩)
  obtain ⟨tn, htn⟩ : ∃ tn, tn = T.length := ⟨_, rfl⟩
  rw [← htn] at HSX hTl ⊢
  have HTN := Lib.hid (show (spellB ch.length ++ rowsB ch).length = tn by rw [htn, HT.out])
  clear htn hs2 ho1 hq1 hq2 hq3 kc HX2 HPB W1 hsc hlc
  go_wp2_with fail
  refine (rcount_in w2.heap.size w2 _ _ ch.length (rowsB ch) 16384 rfl HSX.out (by have := HLN.out; omega) (by omega) HRL.out.1).mono ?_
  rintro e w3 ⟨⟨a3, c3, rfl, hx3⟩, hs3⟩
  obtain ⟨B, hB⟩ : ∃ B, B = w3.heap.size := ⟨_, rfl⟩
  have hz3 := hs3.size
  have HIN3 := Lib.hid (show In0 B w3 (.slice a3 (rowsB ch).length c3) (rowsB ch) from ⟨hx3.slc, fun h0 k hk => by have := hx3.lt h0 k hk; omega⟩)
  obtain ⟨rn, hrn⟩ : ∃ rn, rn = (rowsB ch).length := ⟨_, rfl⟩
  rw [← hrn] at HIN3 ⊢
  obtain ⟨w4, hw4⟩ : ∃ w4, w3.alloc (.cells #[.slice a3 rn c3, .int .i64 0] 84) = w4 := ⟨_, rfl⟩
  have HRX4 := Lib.hid (show RX w4 B a3 rn c3 by rw [← hw4, hB]; exact heap_alloc_new w3 _)
  have hs34 : Stay (fun _ => False) w3 w4 := hw4 ▸ Stay.alloc _ _
  have HIN4 := Lib.hid (HIN3.out.stay (hs34.mono (fun _ x => x.elim)))
  have HS34 := Lib.hid hs34
  have HZ4 := Lib.hid (show w4.heap.size = B + 1 by rw [← hw4, hB]; simp)
  have HS3 := Lib.hid (HS2.out.trans hs3)
  have HBL := Lib.hid (show b < B by have := HZ2.out; omega)
  have HQ13 := Lib.hid (hs3.cell HQ1.out (fun x => x))
  have HQ23 := Lib.hid (hs3.cell HQ2.out (fun x => x))
  have HQ33 := Lib.hid (hs3.cell HQ3.out (fun x => x))
  have HRN := Lib.hid hrn
  have HBB := Lib.hid hB
  have W4 := Lib.hid hw4
  clear hx3 hs3 hz3 hrn hB hw4 hs34 HIN3 HSX
  have hcl : (ch.length : Int) ≤ 16384 := by have := HLN.out; omega
  obtain ⟨cl, hcn⟩ : ∃ cl, cl = ch.length := ⟨_, rfl⟩
  rw [← hcn] at hcl ⊢
  have HCN := Lib.hid hcn
  clear hcn
  go_wp2
  rw [W4.out, ← HBB.out]
  go_loopw [8, 11] (fun v j wr => ∃ k : Nat, k ≤ cl ∧ j = .int .i64 (k : Int) ∧ Hid (EnO w4.heap.size wr v (ch.take k)) ∧ (∃ a c n, Hid (RX wr B a n c ∧ n = (rowsB (ch.drop k)).length ∧ In0 B wr (.slice a n c) (rowsB (ch.drop k)))) ∧ Stay (fun _ => False) w3 wr ∧ w4.heap.size ≤ wr.heap.size) (fun _ j _ => cl - (intOf j).toNat)
  case atStart => exact ⟨0, Nat.zero_le _, rfl, Lib.hid (EnO.nil _ _), ⟨a3, c3, rn, Lib.hid ⟨HRX4.out, HRN.out, HIN4.out⟩⟩, HS34.out, Nat.le_refl _⟩
  case round =>
    obtain ⟨k, hk, rfl, ho, ⟨a5, c5, n5, hr⟩, hst, hzr⟩ := hrel
    have HT5 := Lib.hid hst
    clear hst
    have hbr : wr.heap[B]? = some (.cells #[.slice a5 n5 c5, .int .i64 0] 84 (0, 0)) := hr.out.1
    have HBR := Lib.hid hbr
    have hz4 := HZ4.out
    by_cases hlt : k < cl
    · obtain ⟨e, he⟩ : ∃ e, ch[k]? = some e := ⟨_, List.getElem?_eq_getElem (by rw [← HCN.out]; exact hlt)⟩
      have hne := HNC.out e (List.mem_of_getElem? he)
      have hrw := rows_drop he
      rw [hne] at hrw
      have hdl := rows_drop_le ch k
      have htn := HTN.out
      rw [List.length_append] at htn
      have HTK := Lib.hid (show ch.take (k + 1) = ch.take k ++ [e] by
        obtain ⟨h1, h2⟩ := List.getElem?_eq_some_iff.1 he
        rw [List.take_succ_eq_append_getElem h1, h2])
      have hkl : (ch.take k).length = k := by rw [List.length_take, ← HCN.out]; omega
      obtain ⟨M, hM⟩ : ∃ M, M = ch.take k := ⟨_, rfl⟩
      rw [← hM] at ho HTK hkl
      have HKL := Lib.hid hkl
      obtain ⟨va, vc, rfl⟩ := ho.out.form
      rw [hkl] at ho ⊢
      obtain ⟨R, hR⟩ : ∃ R, R = rowsB (ch.drop (k + 1)) := ⟨_, rfl⟩
      obtain ⟨R2, hR2⟩ : ∃ R2, R2 = bytesB e.v ++ R := ⟨_, rfl⟩
      obtain ⟨R1, hR1⟩ : ∃ R1, R1 = boolB e.g ++ R2 := ⟨_, rfl⟩
      have hin5 := hr.out.2.2
      rw [hrw, ← hR, ← hR2, ← hR1] at hin5
      rw [hrw, ← hR, ← hR2, ← hR1, List.length_append] at hdl
      have hkk := len_bytesB e.k
      have hkv := len_bytesB e.v
      have hk1 : e.k.length ≤ tn := by omega
      have hk2 : e.v.length ≤ tn := by rw [hR1, hR2] at hdl; simp only [List.length_append] at hdl; omega
      have HIN5 := Lib.hid hin5
      have HO5 := ho
      have HRR := Lib.hid hR
      have HRR2 := Lib.hid hR2
      have HRR1 := Lib.hid hR1
      clear he hne hrw hM hkl hdl htn hR hR1 hR2 hin5 hr ho hkk hkv hbr
      have hbr := HBR.out
      obtain ⟨r0, r1, f0, f1⟩ := two_cells hbr
      have htni : (tn : Int) ≤ 200000000 := by omega
      clear hbr
      go_wp2_with fail
      clear r0 r1 f0 f1
      refine (rtext_in B wr (.slice a5 n5 c5) _ e.k R1 (tn : Int) rfl HIN5.out (by omega) (by omega) (by omega)).mono ?_
      rintro y w6 ⟨⟨a6, c6, ka, kc, rfl, hin6, hkx6⟩, hs6⟩
      have hbr := HBR.out
      have hbr6 := (hs6.block B (lt_of_block hbr) (fun x => x)).trans hbr
      obtain ⟨r0, r1, f0, f1⟩ := two_cells hbr6
      obtain ⟨w7, hw7⟩ : ∃ w7, w7 = (w6.setCell ⟨B, 0, none⟩ (.slice a6 R1.length c6)).setCell ⟨B, 1, none⟩ (.int .i64 0) := ⟨_, rfl⟩
      have hp7 : Stay (fun k => k = B) w6 w7 := by rw [hw7]; exact stay_put w6 B _ _ rfl
      have HBR7 := Lib.hid (show RX w7 B a6 R1.length c6 by rw [hw7]; exact two_put hbr6)
      have HIN7 := Lib.hid (hin6.stay (hp7.mono (fun k (e : k = B) => by omega)))
      have HW7 := Lib.hid hw7
      have HKX7 := Lib.hid (hkx6.stay (hp7.mono (fun k (e : k = B) => by omega)))
      have HO7 := Lib.hid ((HO5.out.stay0 hs6).stay hp7 (fun j hj e => by have := ((HO5.out.lt j hj).1); omega))
      have HT7 := Lib.hid (show Stay (fun k => k = B) wr w7 from (hs6.mono (fun _ x => x.elim)).trans hp7)
      have hz7 : wr.heap.size ≤ w7.heap.size := HT7.out.size
      clear hs6 hin6 hkx6 hbr hbr6 hw7 hp7
      go_wp2_with fail
      clear r0 r1 f0 f1
      rw [← HW7.out]
      refine (rbool_in B w7 (.slice a6 R1.length c6) _ e.g R2 rfl (HRR1.out ▸ HIN7.out)).mono ?_
      rintro y w8 ⟨⟨a8, c8, rfl, hin8⟩, hs8⟩
      have hbr : w7.heap[B]? = some (.cells #[.slice a6 R1.length c6, .int .i64 0] 84 (0, 0)) := HBR7.out
      have hbr8 := (hs8.block B (lt_of_block hbr) (fun x => x)).trans hbr
      obtain ⟨r0, r1, f0, f1⟩ := two_cells hbr8
      obtain ⟨w9, hw9⟩ : ∃ w9, w9 = (w8.setCell ⟨B, 0, none⟩ (.slice a8 R2.length c8)).setCell ⟨B, 1, none⟩ (.int .i64 0) := ⟨_, rfl⟩
      have hp9 : Stay (fun k => k = B) w8 w9 := by rw [hw9]; exact stay_put w8 B _ _ rfl
      have HBR9 := Lib.hid (show RX w9 B a8 R2.length c8 by rw [hw9]; exact two_put hbr8)
      have HIN9 := Lib.hid (hin8.stay (hp9.mono (fun k (e : k = B) => by omega)))
      have HW9 := Lib.hid hw9
      have HKX9 := Lib.hid ((HKX7.out.stay (hs8.mono (fun _ x => x.elim))).stay (hp9.mono (fun k (e : k = B) => by omega)))
      have HO9 := Lib.hid ((HO7.out.stay0 hs8).stay hp9 (fun j hj e => by have := ((HO7.out.lt j hj).1); omega))
      have HT9 := Lib.hid (HT7.out.trans ((hs8.mono (fun _ x => x.elim)).trans hp9))
      have hz9 : wr.heap.size ≤ w9.heap.size := HT9.out.size
      clear hs8 hin8 hbr hbr8 hw9 hp9
      go_wp2_with fail
      clear r0 r1 f0 f1
      rw [← HW9.out]
      refine (rtext_in B w9 (.slice a8 R2.length c8) _ e.v R (tn : Int) rfl (HRR2.out ▸ HIN9.out) (by omega) (by omega) (by omega)).mono ?_
      rintro y w10 ⟨⟨a10, c10, xa, xc, rfl, hin10, hkx10⟩, hs10⟩
      have hbr : w9.heap[B]? = some (.cells #[.slice a8 R2.length c8, .int .i64 0] 84 (0, 0)) := HBR9.out
      have hbr10 := (hs10.block B (lt_of_block hbr) (fun x => x)).trans hbr
      obtain ⟨r0, r1, f0, f1⟩ := two_cells hbr10
      obtain ⟨w11, hw11⟩ : ∃ w11, w11 = (w10.setCell ⟨B, 0, none⟩ (.slice a10 R.length c10)).setCell ⟨B, 1, none⟩ (.int .i64 0) := ⟨_, rfl⟩
      have hp11 : Stay (fun k => k = B) w10 w11 := by rw [hw11]; exact stay_put w10 B _ _ rfl
      have HBR11 := Lib.hid (show RX w11 B a10 R.length c10 by rw [hw11]; exact two_put hbr10)
      have HIN11 := Lib.hid (hin10.stay (hp11.mono (fun k (e : k = B) => by omega)))
      have HW11 := Lib.hid hw11
      have hkx := (HKX9.out.stay (hs10.mono (fun _ x => x.elim))).stay (hp11.mono (fun k (e : k = B) => by omega))
      have hvx := hkx10.stay (hp11.mono (fun k (e : k = B) => by omega))
      have cv1 := Pk.conv_slc hkx.slc
      have cv2 := Pk.conv_slc hvx.slc
      rw [hw11] at cv1 cv2
      have HO11 := Lib.hid ((HO9.out.stay0 hs10).stay hp11 (fun j hj e => by have := ((HO9.out.lt j hj).1); omega))
      have HT11 := Lib.hid (HT9.out.trans ((hs10.mono (fun _ x => x.elim)).trans hp11))
      have hz11 : wr.heap.size ≤ w11.heap.size := HT11.out.size
      have hs12 : Stay (fun _ => False) w11 (w11.alloc (.cells (enC e).toArray 27)) := Stay.alloc _ _
      have hb12 := Box.new w11 e
      obtain ⟨w12, hw12⟩ : ∃ w12, w11.alloc (.cells (enC e).toArray 27) = w12 := ⟨_, rfl⟩
      rw [hw12] at hs12 hb12
      have W12 := Lib.hid hw12
      have HB12 := Lib.hid (hb12.one 1 (by omega) (by decide))
      have HO12 := Lib.hid (HO11.out.stay0 hs12)
      have HIN12 := Lib.hid (HIN11.out.stay (hs12.mono (fun _ x => x.elim)))
      have HBR12 := Lib.hid ((hs12.block B (lt_of_block HBR11.out) (fun x => x)).trans HBR11.out)
      have HT12 := Lib.hid (HT11.out.trans (hs12.mono (fun _ x => x.elim)))
      have hz12 := hs12.size
      unfold Pk.strV at cv1 cv2
      clear hs10 hin10 hkx10 hbr hbr10 hw11 hp11 hs12 hb12 hw12 hkx hvx HIN11 HBR11 HKX9 HKX7 HIN9 HIN7 HBR9 HBR7
      go_wp2_with (first
        | (with_reducible refine list_one_en rfl (.tmp 78) rfl e rfl ?_; rw [← HW11.out, W12.out])
        | (at_builtin; refine Me.wpList_append_en rfl (.tmp 72) (.tmp 79) 22 rfl Tryz.underlying22 rfl rfl HO12.out HB12.out (by rw [HKL.out]; simp; omega) (by omega) ?_; intro v13 w13 ho13 hs13 hn13; have HO13 := Lib.hid ho13; have HS13 := Lib.hid hs13; have hz13 := hs13.size; clear ho13 hs13 hn13))
      refine ⟨⟨k + 1, by omega, by go_num, Lib.hid (by rw [HTK.out]; exact HO13.out), ⟨a10, c10, R.length, Lib.hid ⟨(HS13.out.block B (lt_of_block HBR12.out) (fun e => by have := (HO12.out.lt B e).1; omega)).trans HBR12.out, by rw [HRR.out], ?_⟩⟩, ?_, by omega⟩, by simp [intOf]; omega⟩
      · rw [← HRR.out]
        exact HIN12.out.stay (HS13.out.mono (fun j e => by have := (HO12.out.lt j e).1; omega))
      · exact stay_seal (X := fun j => B ≤ j) (((HT5.out.mono (fun _ x => x.elim)).trans (HT12.out.mono (fun j e => by omega))).trans (HS13.out.mono (fun j e => by have := (HO12.out.lt j e).1; omega))) (fun j hj => by have := HBB.out; omega)
    · obtain rfl : k = cl := by omega
      have hkm : k = m + 1 := by rw [HCN.out, HLN.out]
      have htk : ch.take k = ch := by rw [HCN.out, List.take_length]
      have hdr : rowsB (ch.drop k) = [] := by rw [HCN.out, List.drop_length]; rfl
      have ho' := ho.out.ens
      rw [htk] at ho'
      obtain ⟨_, hn5, hin5⟩ := hr.out
      rw [hdr] at hn5 hin5
      have hn0 : n5 = 0 := hn5
      subst hn0
      subst hkm
      obtain ⟨a0, cx, e9⟩ := ho'.form
      rw [HLN.out] at e9
      subst e9
      obtain ⟨gx, ox, rfl, _, hcx⟩ := ho'.at (by rw [HLN.out]; omega)
      have d0 := (hcx _ e0 HE0.out).1
      have d1 := (hcx _ e1 HE1.out).1
      rw [← HK0.out, Nat.zero_mul, Nat.add_zero] at d0
      rw [← HK1.out] at d1
      obtain ⟨D, hDd⟩ : ∃ D : World → Prop, D = Stay (fun _ => False) wr := ⟨_, rfl⟩
      have HD := Lib.hid (show ∀ W, D W → Stay (fun _ => False) wr W by intro W h; rw [hDd] at h; exact h)
      have HDm := Lib.hid (show ∀ W, Stay (fun _ => False) wr W → D W by intro W h; rw [hDd]; exact h)
      clear hDd
      have HN0 := Lib.hid (HDm.out _ (Stay.drew (w := wr)))
      have HS35 := Lib.hid (HS3.out.trans HT5.out)
      have HRUN := Lib.hid (show ∀ i : InC D, (loadVar 84 ⟨B, 0, none⟩).run Tryz.prog i.w = .ok (.agg #[.slice a5 0 c5, .int .i64 0]) i.w from fun i => RX.run (((HD.out _ i.h).block B (lt_of_block hbr) (fun x => x)).trans hbr))
      have k2_ := fun i : InC D => (HD.out _ i.h).cell d0 (fun x => x)
      have k3_ := fun i : InC D => ((HT5.out.trans (HD.out _ i.h)).cell HQ13.out (fun x => x))
      have k4_ := fun j : InC D => ((HS35.out.trans (HD.out _ j.h)).cell HF0.out (fun x => x))
      have HDD := Lib.hid d1
      have H1 := Lib.hid (show ∀ W, D W → Calls Tryz.prog 37 #[.agg #[.slice a5 0 c5, .int .i64 0]] W fun e w' => e = .returned (.int .i64 0) ∧ D w' from fun W hW =>
        (rdone_laid W (.slice a5 0 c5) _ rfl (hin5.slc.stay0 (HD.out _ hW))).mono fun e w' ⟨h3, h4⟩ => ⟨h3, HDm.out _ ((HD.out _ hW).trans h4)⟩)
      have H2 := Lib.hid (show ∀ W, D W → Calls Tryz.prog 81 #[.slice (some ⟨gx, ox, none⟩) (m + 1) cx] W fun e w' => e = .returned (.bool true) ∧ D w' from fun W hW => by
        have h2 := rising_any W _ ch (ho'.stay0 (HD.out _ hW)) (by rw [HLN.out]; omega)
        rw [hsrt] at h2
        exact h2.mono fun e w' ⟨h3, h4⟩ => ⟨h3, HDm.out _ ((HD.out _ hW).trans h4)⟩)
      haveI : Nonempty (InC D) := ⟨⟨_, HN0.out⟩⟩
      have HGL := Lib.hid (show (!Op.bytesLess kg kl && !kg == kl) = false by rw [gtr_is, HALL.out])
      have hm0 : ((m : Int) + 1 == 0) = false := beq_eq_false_iff_ne.2 (by omega)
      have hmm : (m : Int) ≤ 16384 := by omega
      have HEN := Lib.hid ho'
      clear htk hdr ho' hr hn5 hin5 hcx d0 d1 ho hsrt
      have hbr2 := two_cells hbr
      obtain ⟨g0, g1, f0, f1⟩ := hbr2
      go_wp2
      clear g0 g1 f0 f1 hbr
      refine wp_region_class D HN0.out (by kernel_rfl) (by kernel_rfl) ?_
      refine quiet_load rfl 84 (.tmp 9) rfl ⟨B, 0, none⟩ rfl (.agg #[.slice a5 0 c5, .int .i64 0]) HRUN.out ?_
      go_frame
      repeat (go_big_quiet_step ((first
        | with_reducible exact calls_class H1.out
        | with_reducible exact calls_class H2.out)))
      refine wpQuiet_nil ?_
      rintro W ⟨iw, rfl⟩
      have hst := HD.out _ iw.h
      clear k2_ k3_ k4_
      generalize iw.w = w9 at *
      have HS9 := Lib.hid (HS35.out.trans hst)
      have c1 := (HT5.out.trans hst).cell HQ13.out (fun x => x)
      have c2 := (HT5.out.trans hst).cell HQ23.out (fun x => x)
      have c3 := (HT5.out.trans hst).cell HQ33.out (fun x => x)
      have c4 := hst.cell HDD.out (fun x => x)
      have HEE := Lib.hid (HEN.out.stay0 hst)
      clear hst
      by_cases hin2 : i + 1 < n
      · obtain ⟨hn1, hn2⟩ := HNX.out hin2
        have c5 := HS9.out.cell hn1 (fun x => x)
        obtain ⟨kn, hkn⟩ : ∃ kn, kn = keyAt L ((i + 1) * p) := ⟨_, rfl⟩
        rw [← hkn] at c5 hn2
        have hgn : (Op.bytesLess kg kn) = true := by rw [Me.less_eq]; exact hn2
        clear hn1 hn2 hkn
        have hgl := HGL.out
        go_wp2
        go_ret2
        exact ⟨⟨_, rfl, HEE.out⟩, HS9.out⟩
      · have hgl := HGL.out
        go_wp2
        go_ret2
        exact ⟨⟨_, rfl, HEE.out⟩, HS9.out⟩
end Go.Proofs.YtahfgoafiepioaaGreatDoor.Tb

/-
  table, the document's: a table's box, its rows of keys and of parts.
-/
namespace Go.Proofs.YtahfgoafiepioaaGreatDoor.Tb
open Go.RowKit Go.Maps
open Pk (stay_seal)
open Me (En EnS EnO Box enC enV norm ltB Sorted getL posN hasB sizeL)
open Pk (spellB bytesB boolB takeB Slc Owns rdV two_cells Sub)
open Bo (In0 two_put stay_put row_stay row_form row_at row_cell)
set_option maxRecDepth 100000
set_option linter.unusedVariables false

/-- The document's table in its box. -/
def TBx (w : World) (T : Nat) (n : Int) (v1 v2 v3 v4 v5 : Value) : Prop := w.heap[T]? = some (.cells #[.int .i64 n, v1, v2, v3, v4, v5] 46 (0, 0))
section
variable {w w' : World} {T : Nat} {n : Int} {v1 v2 v3 v4 v5 : Value}
theorem TBx.stay {X : Nat → Prop} (h : TBx w T n v1 v2 v3 v4 v5) (hs : Stay X w w') (hx : ¬ X T) : TBx w' T n v1 v2 v3 v4 v5 := (hs.block T (lt_of_block h) hx).trans h
theorem TBx.c0 (h : TBx w T n v1 v2 v3 v4 v5) : w.cell? ⟨T, 0, none⟩ = some (.int .i64 n) := by rw [cell_of_row w T 0 _ _ _ h]; rfl
theorem TBx.c1 (h : TBx w T n v1 v2 v3 v4 v5) : w.cell? ⟨T, 1, none⟩ = some v1 := by rw [cell_of_row w T 1 _ _ _ h]; rfl
theorem TBx.c2 (h : TBx w T n v1 v2 v3 v4 v5) : w.cell? ⟨T, 2, none⟩ = some v2 := by rw [cell_of_row w T 2 _ _ _ h]; rfl
theorem TBx.c3 (h : TBx w T n v1 v2 v3 v4 v5) : w.cell? ⟨T, 3, none⟩ = some v3 := by rw [cell_of_row w T 3 _ _ _ h]; rfl
theorem TBx.c4 (h : TBx w T n v1 v2 v3 v4 v5) : w.cell? ⟨T, 4, none⟩ = some v4 := by rw [cell_of_row w T 4 _ _ _ h]; rfl
theorem TBx.c5 (h : TBx w T n v1 v2 v3 v4 v5) : w.cell? ⟨T, 5, none⟩ = some v5 := by rw [cell_of_row w T 5 _ _ _ h]; rfl
theorem TBx.fr (h : TBx w T n v1 v2 v3 v4 v5) (j : Nat) : w.frozen? ⟨T, j, none⟩ = false := frozen_of_row w T j _ _ h
theorem TBx.set0 (h : TBx w T n v1 v2 v3 v4 v5) (m : Int) : TBx (w.setCell ⟨T, 0, none⟩ (.int .i64 m)) T m v1 v2 v3 v4 v5 := heap_setCell_same w T 0 _ _ _ h
theorem TBx.set1 (h : TBx w T n v1 v2 v3 v4 v5) (u : Value) : TBx (w.setCell ⟨T, 1, none⟩ u) T n u v2 v3 v4 v5 := heap_setCell_same w T 1 _ _ _ h
theorem TBx.set2 (h : TBx w T n v1 v2 v3 v4 v5) (u : Value) : TBx (w.setCell ⟨T, 2, none⟩ u) T n v1 u v3 v4 v5 := heap_setCell_same w T 2 _ _ _ h
theorem TBx.set3 (h : TBx w T n v1 v2 v3 v4 v5) (u : Value) : TBx (w.setCell ⟨T, 3, none⟩ u) T n v1 v2 u v4 v5 := heap_setCell_same w T 3 _ _ _ h
theorem TBx.set4 (h : TBx w T n v1 v2 v3 v4 v5) (u : Value) : TBx (w.setCell ⟨T, 4, none⟩ u) T n v1 v2 v3 u v5 := heap_setCell_same w T 4 _ _ _ h
theorem TBx.set5 (h : TBx w T n v1 v2 v3 v4 v5) (u : Value) : TBx (w.setCell ⟨T, 5, none⟩ u) T n v1 v2 v3 v4 u := heap_setCell_same w T 5 _ _ _ h
theorem TBx.new (w : World) : TBx (w.alloc (.cells #[.int .i64 0, .slice none 0 0, .slice none 0 0, .string ⟨#[]⟩, .int .i64 0, .slice none 0 0] 46)) w.heap.size 0 (.slice none 0 0) (.slice none 0 0) (.string ⟨#[]⟩) (.int .i64 0) (.slice none 0 0) := heap_alloc_new w _
theorem stay1 (X : Nat → Prop) (w : World) (T j : Nat) (u : Value) (h : X T) : Stay X w (w.setCell ⟨T, j, none⟩ u) := (Stay.setCell (X := fun k => k = T) w ⟨T, j, none⟩ u rfl).mono (fun k (e : k = T) => e ▸ h)
theorem RX.stay {X : Nat → Prop} {B m c : Nat} {a : Option Addr} (h : RX w B a m c) (hs : Stay X w w') (hx : ¬ X B) : RX w' B a m c := (hs.block B (lt_of_block h) hx).trans h
end

/-- One behind a row of one's own. -/
theorem wpList_append_row {ops : Array Oper} {rest : List Oper} {o : Oper} {a : Act} {w : World} {Q : Exit → Act → World → Prop} {base n : Nat} {v : Value} {vs : List Value} (te : TypeId) (z : Value) (by0 : Nat) (hinfo : (Tryz.prog.info? te).map (fun i => (i.zero, i.size, i.bytes)) = some (some z, 1, by0)) (hz1 : z.cells.size = 1)
    (hgd : o.guard = none) (s y : Operand) (t : TypeId) (ho : o.op = .call { callee := .builtin .append, args := #[s, y], argTypes := #[t, t] }) (ht : Tryz.prog.underlying t = some (.slice te)) (g : Nat) (u : Value) (hs : a.eval s = v) (hy : a.eval y = .slice (some ⟨g, 0, none⟩) 1 1) (hown : w.ownsRow base te 1 v n vs) (hc : w.cell? ⟨g, 0, none⟩ = some u) (hu : u.oneCell' = true) (hn : n + 1 ≤ 1000000) (hby : by0 ≤ 40) (hbase : base ≤ w.heap.size)
    (h : ∀ v' w', w'.ownsRow base te 1 v' (n + 1) (vs ++ [u]) → Stay (fun k => v.ownBlock = some k) w w' → wpList Tryz.prog ops Q rest (a.put o.dst v') w') : wpList Tryz.prog ops Q (o :: rest) a w :=
  wpList_plain hgd fun _ hK => by
    obtain ⟨i0, hi, hz, hsz, hbb⟩ := info_parts hinfo
    obtain ⟨v', w', hrun, h1, h2, _, _⟩ := run_append_own_at (P := Tryz.prog) w base t o.type te i0 z 1 by0 ht hi hz hsz hbb hz1 (by decide) v n vs hown ⟨g, 0, none⟩ 1 1 [u] rfl
      (fun j x hx => by
        have hj : j = 0 := by
          have := (List.getElem?_eq_some_iff.1 hx).1
          simp at this
          exact this
        subst hj
        simp at hx
        rw [← hx, add_at]
        exact hc) (fun x hx => by rw [List.mem_singleton.1 hx]; exact hu) (by unfold maxLen; omega) (by have := Nat.mul_le_mul hn hby; omega) hbase
    unfold Oper.wp execOp
    simp only [ho, resolve, invoke, builtin, Sem.run_bind, Sem.run_pure, Result.andThen_ok, List.map_toArray, List.map_cons, List.map_nil, hs, hy, hrun]
    exact hK _ _ (h v' w' h1 (Stay.grown h2 (fun k hk => hk)))
theorem info_s : (Tryz.prog.info? 9).map (fun i => (i.zero, i.size, i.bytes)) = some (some (.string ⟨#[]⟩), 1, 16) := by kernel_rfl
theorem info_b : (Tryz.prog.info? 30).map (fun i => (i.zero, i.size, i.bytes)) = some (some (.slice none 0 0), 1, 24) := by kernel_rfl
theorem row_ty {base n : Nat} {w : World} {v : Value} {vs : List Value} {te : TypeId} (h : w.ownsRow base te 1 v n vs) : ∀ k, v.ownBlock = some k → ∃ cs, w.heap[k]? = some (.cells cs te (0, 0)) := by
  intro k hk
  rcases h.2 with ⟨e, _⟩ | ⟨g', cap, cur, e, h4, hg, _⟩
  · rw [e] at hk; cases hk
  · rw [e] at hk
    have hk' : g' = k := Option.some.inj hk
    subst hk'
    exact ⟨_, hg⟩

/-- The first keys of the parts so far. -/
def ksL (L : List En) (p k : Nat) : List Value := (List.range k).map (fun i => .string ⟨(keyAt L (i * p)).toArray⟩)
theorem ks_succ (L : List En) (p k : Nat) : ksL L p (k + 1) = ksL L p k ++ [.string ⟨(keyAt L (k * p)).toArray⟩] := by simp [ksL, List.range_succ]
/-- The rows of keys and of parts so far. -/
structure FP (base B0 : Nat) (w : World) (v1 v2 : Value) (L : List En) (p k : Nat) : Prop where
  f : w.ownsRow base 9 1 v1 k (ksL L p k)
  g : ∃ vs, w.ownsRow base 30 1 v2 k vs ∧ ∀ i, i < k → ∃ x, vs[i]? = some x ∧ In0 B0 w x (partB (chunk L p i))
section
variable {base B0 k p : Nat} {w w' : World} {v1 v2 : Value} {L : List En}
theorem FP.nil (base B0 : Nat) (w : World) (L : List En) (p : Nat) : FP base B0 w (.slice none 0 0) (.slice none 0 0) L p 0 := ⟨World.ownsRow_nil w base _ _, [], World.ownsRow_nil w base _ _, fun i h => by omega⟩
theorem FP.ne (h : FP base B0 w v1 v2 L p k) : ∀ j, v1.ownBlock = some j → v2.ownBlock = some j → False := by
  intro j h1 h2
  obtain ⟨vs, h3, _⟩ := h.g
  obtain ⟨c1, e1⟩ := row_ty h.f j h1
  obtain ⟨c2, e2⟩ := row_ty h3 j h2
  rw [e1] at e2
  cases e2
theorem FP.stay {X : Nat → Prop} (h : FP base B0 w v1 v2 L p k) (hs : Stay X w w') (h1 : ∀ j, base ≤ j → ¬ X j) (hB : ∀ j, X j → B0 ≤ j) : FP base B0 w' v1 v2 L p k := by
  obtain ⟨vs, h2, h3⟩ := h.g
  refine ⟨row_stay h.f hs (fun j hj => h1 j (World.ownsRow.lt h.f j hj).1), vs, row_stay h2 hs (fun j hj => h1 j (World.ownsRow.lt h2 j hj).1), fun i hi => ?_⟩
  obtain ⟨x, h4, h5⟩ := h3 i hi
  exact ⟨x, h4, h5.stay (hs.mono hB)⟩
theorem FP.stay0 (h : FP base B0 w v1 v2 L p k) (hs : Stay (fun _ => False) w w') : FP base B0 w' v1 v2 L p k := h.stay hs (fun _ _ x => x) (fun _ x => x.elim)
theorem FP.form1 (h : FP base B0 w v1 v2 L p k) : ∃ a c, v1 = .slice a k c := row_form h.f
theorem FP.form2 (h : FP base B0 w v1 v2 L p k) : ∃ a c, v2 = .slice a k c := by obtain ⟨vs, h2, _⟩ := h.g; exact row_form h2
theorem FP.lt1 (h : FP base B0 w v1 v2 L p k) : ∀ j, v1.ownBlock = some j → base ≤ j ∧ j < w.heap.size := World.ownsRow.lt h.f
theorem FP.lt2 (h : FP base B0 w v1 v2 L p k) : ∀ j, v2.ownBlock = some j → base ≤ j ∧ j < w.heap.size := by obtain ⟨vs, h2, _⟩ := h.g; exact World.ownsRow.lt h2
/-- A key was put behind. -/
theorem FP.key (h : FP base B0 w v1 v2 L p k) (hs : Stay (fun j => v1.ownBlock = some j) w w') (hb : B0 ≤ base) : ∃ vs, w'.ownsRow base 30 1 v2 k vs ∧ ∀ i, i < k → ∃ x, vs[i]? = some x ∧ In0 B0 w' x (partB (chunk L p i)) := by
  obtain ⟨vs, h2, h3⟩ := h.g
  refine ⟨vs, row_stay h2 hs (fun j hj h4 => h.ne j h4 hj), fun i hi => ?_⟩
  obtain ⟨x, h4, h5⟩ := h3 i hi
  exact ⟨x, h4, h5.stay (hs.mono (fun j hj => by have := (h.lt1 j hj).1; omega))⟩
/-- A part was put behind. -/
theorem FP.grow {v1' v2' pv : Value} {vs : List Value} (h1 : w.ownsRow base 9 1 v1' (k + 1) (ksL L p (k + 1))) (h2 : w.ownsRow base 30 1 v2 k vs) (h3 : ∀ i, i < k → ∃ x, vs[i]? = some x ∧ In0 B0 w x (partB (chunk L p i)))
    (h4 : w'.ownsRow base 30 1 v2' (k + 1) (vs ++ [pv])) (hs : Stay (fun j => v2.ownBlock = some j) w w') (h5 : In0 B0 w pv (partB (chunk L p k))) (hb : B0 ≤ base) : FP base B0 w' v1' v2' L p (k + 1) := by
  have hs' : Stay (fun j => B0 ≤ j) w w' := hs.mono (fun j hj => by have := (World.ownsRow.lt h2 j hj).1; omega)
  refine ⟨row_stay h1 hs (fun j h6 h7 => ?_), vs ++ [pv], h4, fun i hi => ?_⟩
  · obtain ⟨c1, e1⟩ := row_ty h1 j h6
    obtain ⟨c2, e2⟩ := row_ty h2 j h7
    rw [e1] at e2
    cases e2
  · have hl : vs.length = k := by have := h2.1; omega
    by_cases hik : i < k
    · obtain ⟨x, h6, h7⟩ := h3 i hik
      exact ⟨x, by rw [List.getElem?_append_left (by omega)]; exact h6, h7.stay hs'⟩
    · obtain rfl : i = k := by omega
      exact ⟨pv, by rw [List.getElem?_append_right (by omega), hl, Nat.sub_self]; rfl, h5.stay hs'⟩
end
theorem In0.slc0 {B : Nat} {w w' : World} {x : Value} {b : List UInt8} (h : In0 B w x b) (hs : Stay (fun _ => False) w w') : In0 B w' x b := h.stay (hs.mono (fun _ x => x.elim))
end Go.Proofs.YtahfgoafiepioaaGreatDoor.Tb

/-
  table, the document's: Open over a table's own bytes (the walk).
-/
namespace Go.Proofs.YtahfgoafiepioaaGreatDoor.Tb
open Go.RowKit Go.Maps
open Pk (stay_seal)
open Me (En EnS EnO Box enC enV norm ltB Sorted getL posN hasB sizeL)
open Pk (spellB bytesB boolB takeB Slc Owns rdV two_cells Sub)
open Bo (In0 two_put stay_put row_stay row_form row_at row_cell RV TO)
set_option maxRecDepth 100000
set_option linter.unusedVariables false

/-- What holds between the two appends. -/
structure Mid (L : List En) (p k T B : Nat) (n : Nat) (w2 w16 : World) (g : Nat) (va4 : Option Addr) (vc4 : Nat) (va2 : Option Addr) (vc2 : Nat) (a11 : Option Addr) (R2 : List UInt8) (c11 : Nat) (ka : Option Addr) (ky : List UInt8) (kc : Nat) (pa : Option Addr) (pb : List UInt8) (pc : Nat) : Prop where
  row : w16.ownsRow (B + 1) 9 1 (.slice va4 (k + 1) vc4) (k + 1) (ksL L p (k + 1))
  v : ∃ vs, w16.ownsRow (B + 1) 30 1 (.slice va2 k vc2) k vs ∧ ∀ i, i < k → ∃ x, vs[i]? = some x ∧ In0 T w16 x (partB (chunk L p i))
  tb : TBx w16 T n (.slice va4 (k + 1) vc4) (.slice va2 k vc2) (.string ⟨#[]⟩) (.int .i64 0) (.slice none 0 0)
  rx : RX w16 B a11 R2.length c11
  inr : In0 T w16 (.slice a11 R2.length c11) R2
  kx : In0 T w16 (.slice ka ky.length kc) ky
  px : In0 T w16 (.slice pa pb.length pc) pb
  st : Stay (fun j => T ≤ j) w2 w16
  sz : B + 1 ≤ w16.heap.size
  c : w16.cell? ⟨g, 0, none⟩ = some (.slice pa pb.length pc)

theorem row_cap {base n g c : Nat} {w : World} {xs : List Value} {te : TypeId} (h : w.ownsRow base te 1 (.slice (some ⟨g, 0, none⟩) n c) n xs) : n ≤ c := by
  rcases h.2 with ⟨e, _⟩ | ⟨g', cap, cur, e, _, _, h5, _⟩
  · cases e
  · cases e
    exact h5
theorem ks_at {L : List En} {p k i : Nat} (h : i < k) : (ksL L p k)[i]? = some (.string ⟨(keyAt L (i * p)).toArray⟩) := by
  unfold ksL
  rw [List.getElem?_map, List.getElem?_range h]
  rfl
/-- All rows stand: what the table tells. -/
theorem FP.rt {base B0 p q gf cf gp cp s c : Nat} {a : Option Addr} {w : World} {L : List En} {m : Nat} (h : FP base B0 w (.slice (some ⟨gf, 0, none⟩) m cf) (.slice (some ⟨gp, 0, none⟩) m cp) L p m) (hm : m = cN L.length p) (hf : TO 0 w (.slice a s c) (filtB L q)) :
    RTAt w gf 0 gp 0 a s c L p q ∧ m ≤ cf ∧ m ≤ cp := by
  obtain ⟨vs, h2, h3⟩ := h.g
  subst hm
  refine ⟨⟨(World.ownsRow.lt h.f gf rfl).2, (World.ownsRow.lt h2 gp rfl).2, fun i hi => ?_, fun i hi => ?_, hf⟩, row_cap h.f, row_cap h2⟩
  · rw [Nat.zero_add]
    exact row_cell h.f (ks_at hi)
  · obtain ⟨x, h4, h5⟩ := h3 i hi
    rw [Nat.zero_add]
    exact ⟨x, row_cell h2 h4, h5.slc⟩

theorem slc_ne {w : World} {x : Value} {b : List UInt8} {A : Nat} {cs : Array Value} {t : TypeId} {fr : Nat × Nat} (h : Slc w x b) (hA : w.heap[A]? = some (.cells cs t fr)) (hc : ∀ (j : Nat) (c : UInt8), cs[j]? ≠ some (byteV c)) (h0 : 0 < b.length) : ∀ k, x.ownBlock = some k → k ≠ A := by
  rintro k hk rfl
  obtain ⟨a0, c, rfl, hr, _⟩ := h
  obtain ⟨ad, rfl, hcc⟩ := hr h0
  have hk' : ad.block = k := by simpa [Value.ownBlock] using hk
  subst hk'
  obtain ⟨c0, hc0⟩ : ∃ c0, b[0]? = some c0 := ⟨_, List.getElem?_eq_getElem h0⟩
  have h1 := hcc 0 (byteV c0) (by simp [cellsB, hc0])
  unfold World.cell? at h1
  have hb : (ad.add 0).block = ad.block := rfl
  rw [hb, hA] at h1
  dsimp only at h1
  split at h1
  · cases h1
  · exact hc _ _ h1

theorem TBx.store {w : World} {T : Nat} {z : Int} {v1 v2 v3 v4 v5 : Value} (h : TBx w T z v1 v2 v3 v4 v5) {ops : Array Oper} {rest : List Oper} {o : Oper} {act : Act} {Q : Exit → Act → World → Prop} (hgd : o.guard = none) (x y : Operand) (ho : o.op = .store 46 x y)
    (hp : act.eval x = .pointer (some ⟨T, 0, none⟩)) (n m gf fo cf gp po cp : Nat) (kl : List UInt8) (a : Option Addr) (s c : Nat) (hy : act.eval y = RT n m gf fo cf gp po cp kl a s c)
    (hn : ∀ w', RBox w' T n m gf fo cf gp po cp kl a s c → Stay (fun j => j = T) w w' → wpList Tryz.prog ops Q rest (act.put o.dst undef) w') : wpList Tryz.prog ops Q (o :: rest) act w :=
  wpList_store_mid hgd 46 x y ho T 0 hp 46 [.int .i64 z, v1, v2, v3, v4, v5] [.int .i64 (n : Int), .slice (some ⟨gf, fo, none⟩) m cf, .slice (some ⟨gp, po, none⟩) m cp, .string ⟨kl.toArray⟩, .int .i64 3, .slice a s c] hy h info_rt (Nat.le_refl _) (by intro u hu; simp at hu; rcases hu with rfl | rfl | rfl | rfl | rfl | rfl <;> rfl) (fun w' h1 h2 => hn w' h1 h2)

set_option maxHeartbeats 1600000 in
theorem ropen13_any (w : World) (x : Value) (L : List En) (p q : Nat) (hx : Slc w x (tabB L p q)) (hg : Good L p q) :
    Calls Tryz.prog 10 #[x] w fun e w' => (∃ gf cf gp cp a s c, e = .returned (.tuple #[RT L.length (cN L.length p) gf 0 cf gp 0 cp (lastK L) a s c, .int .i64 0]) ∧ RTAt w' gf 0 gp 0 a s c L p q ∧ cN L.length p ≤ cf ∧ cN L.length p ≤ cp) ∧ Stay (fun _ => False) w w' := by
  have HG := Lib.hid hg
  obtain ⟨X, hX⟩ : ∃ X, X = textT L p q := ⟨_, rfl⟩
  have hXl := len_textT hg
  rw [← hX] at hXl
  have HCL := Lib.hid (len_parts hg)
  have HTE := Lib.hid (show X = spellB L.length ++ (spellB (cN L.length p) ++ (hdN L p 0 (cN L.length p) ++ tailT L q)) from hX.trans (text_form L p q))
  unfold tabB at hx
  rw [← hX] at hx
  obtain ⟨n, hn⟩ : ∃ n, n = L.length := ⟨_, rfl⟩
  obtain ⟨m, hm⟩ : ∃ m, m = cN L.length p := ⟨_, rfl⟩
  have hm1 : 1 ≤ m := by rw [hm]; exact cN_pos hg.p1 hg.n1
  have hmn : m ≤ n := by rw [hm, hn]; exact cN_le hg.p1
  have hn2 : n ≤ 1000 := by rw [hn]; exact hg.n2
  have HNN := Lib.hid hn
  have HMM := Lib.hid hm
  have hw0 := TBx.new w
  obtain ⟨A0, hA0⟩ : ∃ A0, A0 = w.heap.size := ⟨_, rfl⟩
  obtain ⟨w0, hw0e⟩ : ∃ w0, w.alloc (.cells #[.int .i64 0, .slice none 0 0, .slice none 0 0, .string ⟨#[]⟩, .int .i64 0, .slice none 0 0] 46) = w0 := ⟨_, rfl⟩
  rw [hw0e, ← hA0] at hw0
  have hs0 : Stay (fun _ => False) w w0 := hw0e ▸ Stay.alloc _ _
  have HX := Lib.hid (hx.stay0 hs0)
  have HA := Lib.hid hw0
  have HZ0 := Lib.hid (show w0.heap.size = A0 + 1 by rw [← hw0e, hA0]; simp)
  have HS0 := Lib.hid hs0
  have HA0 := Lib.hid hA0
  have W0 := Lib.hid hw0e
  obtain ⟨xa, xc, rfl⟩ : ∃ xa xc, x = .slice xa (Hn.sealB X).length xc := by obtain ⟨a, c, e, _⟩ := id hx; exact ⟨a, c, e⟩
  obtain ⟨bl, hbl⟩ : ∃ bl, bl = (Hn.sealB X).length := ⟨_, rfl⟩
  have HBL := Lib.hid (show bl = X.length + 4 by rw [hbl, Hn.length_sealB])
  rw [← hbl] at HX ⊢
  rw [← hm, ← hn]
  rw [← hm, ← hn] at HTE
  rw [← hm] at HCL
  clear hw0 hs0 hA0 hw0e hx hX hm hn hbl hg
  go_enter Tryz.func10, Tryz.ntmps10
  go_wp2_with fail
  rw [W0.out, ← HA0.out]
  refine (ropen_seal _ X w0 HX.out (by omega)).mono ?_
  rintro e w1 ⟨⟨a1, c1, rfl, ho1⟩, hs1⟩
  have HA1 := Lib.hid (HA.out.stay hs1 (fun x => x))
  have hz1 := hs1.size
  have HZ1 := Lib.hid (show A0 < w1.heap.size by have := HZ0.out; omega)
  obtain ⟨xl, hxl⟩ : ∃ xl, xl = X.length := ⟨_, rfl⟩
  rw [← hxl] at ho1 ⊢
  have HXL := Lib.hid hxl
  obtain ⟨T, hT⟩ : ∃ T, T = w1.heap.size := ⟨_, rfl⟩
  have hin1 : In0 T w1 (.slice a1 xl c1) X := ⟨ho1, fun h0 k hk => by rw [hT]; exact ho1.blk_lt h0 k hk⟩
  have htb := TBx.new w1
  obtain ⟨w2, hw2⟩ : ∃ w2, w1.alloc (.cells #[.int .i64 0, .slice none 0 0, .slice none 0 0, .string ⟨#[]⟩, .int .i64 0, .slice none 0 0] 46) = w2 := ⟨_, rfl⟩
  have hs2 : Stay (fun _ => False) w1 w2 := hw2 ▸ Stay.alloc _ _
  rw [hw2, ← hT] at htb
  have HTB2 := Lib.hid htb
  have HIN2 := Lib.hid (hin1.stay (hs2.mono (fun _ x => x.elim)))
  have HA2 := Lib.hid (HA1.out.stay hs2 (fun x => x))
  have HS2 := Lib.hid ((HS0.out.trans hs1).trans hs2)
  have HZ2 := Lib.hid (show w2.heap.size = T + 1 by rw [← hw2, hT]; simp)
  have HAT := Lib.hid (show A0 < T by have := HZ1.out; omega)
  have HTT := Lib.hid hT
  have W2 := Lib.hid hw2
  clear hs1 hz1 ho1 hin1 htb hs2 hw2 hT hxl HX HA HA1 HS0 HZ0 HZ1 W0
  go_wp2_with fail
  rw [W2.out, ← HTT.out]
  rw [HTE.out] at HIN2
  have hnm : (n : Int) ≤ 1000 := by omega
  refine (ruint_in T w2 _ _ n 16384 16384 _ rfl rfl HIN2.out (by omega) (by omega) (by unfold Pk.M64; omega)).mono ?_
  rintro e w3 ⟨⟨a3, c3, rfl, hin3⟩, hs3⟩
  obtain ⟨R1, hR1⟩ : ∃ R1, R1 = spellB m ++ (hdN L p 0 m ++ tailT L q) := ⟨_, rfl⟩
  rw [← hR1] at hin3 ⊢
  obtain ⟨r1, hr1⟩ : ∃ r1, r1 = R1.length := ⟨_, rfl⟩
  rw [← hr1] at hin3 ⊢
  -- the reader's box
  have htb3 := HTB2.out.stay hs3 (fun x => x)
  obtain ⟨B, hB⟩ : ∃ B, B = w3.heap.size := ⟨_, rfl⟩
  obtain ⟨w4, hw4⟩ : ∃ w4, w3.alloc (.cells #[.slice a3 r1 c3, .int .i64 0] 84) = w4 := ⟨_, rfl⟩
  have hs4 : Stay (fun _ => False) w3 w4 := hw4 ▸ Stay.alloc _ _
  have hrx4 : RX w4 B a3 r1 c3 := by rw [← hw4, hB]; exact heap_alloc_new w3 _
  have htb4 := htb3.stay hs4 (fun x => x)
  have hTB : T < B := by have := hs3.size; have := HZ2.out; omega
  have k1 : (w3.alloc (.cells #[.slice a3 r1 c3, .int .i64 0] 84)).cell? ⟨T, 0, none⟩ = some (.int .i64 0) := by rw [hw4]; exact htb4.c0
  have k2 : (w3.alloc (.cells #[.slice a3 r1 c3, .int .i64 0] 84)).frozen? ⟨T, 0, none⟩ = false := by rw [hw4]; exact htb4.fr 0
  obtain ⟨w5, hw5⟩ : ∃ w5, w4.setCell ⟨T, 0, none⟩ (.int .i64 (n : Int)) = w5 := ⟨_, rfl⟩
  have hs5 : Stay (fun k => k = T) w4 w5 := hw5 ▸ stay1 _ w4 T 0 _ rfl
  have hrx5 : RX w5 B a3 r1 c3 := hrx4.stay hs5 (by omega)
  have HTB5 := Lib.hid (show TBx w5 T n (.slice none 0 0) (.slice none 0 0) (.string ⟨#[]⟩) (.int .i64 0) (.slice none 0 0) from hw5 ▸ htb4.set0 n)
  obtain ⟨g0, g1, _, _⟩ := two_cells hrx5
  rw [← hw5, ← hw4, hB] at g0 g1
  have HS5 := Lib.hid (show Stay (fun k => k = T) w2 w5 from ((hs3.trans hs4).mono (fun _ x => x.elim)).trans hs5)
  have HIN5 := Lib.hid ((hin3.stay (hs4.mono (fun _ x => x.elim))).stay (hs5.mono (fun k (e : k = T) => by omega)))
  have HRX5 := Lib.hid hrx5
  have HB := Lib.hid hB
  have W4 := Lib.hid hw4
  have W5 := Lib.hid hw5
  have HZ5 := Lib.hid (show B + 1 ≤ w5.heap.size by have h1 := hs5.size; have h2 : w4.heap.size = B + 1 := by rw [← hw4, hB]; simp
                                                    omega)
  have HR1 := Lib.hid hR1
  have HRL1 := Lib.hid hr1
  clear hs3 hin3 htb3 hB hw4 hs4 hrx4 htb4 hw5 hs5 hrx5 hR1 hr1 HTB2 HIN2 W2
  go_wp2_with fail
  clear g0 g1 k1 k2
  rw [W4.out, ← HB.out, W5.out]
  rw [HR1.out] at HIN5
  refine (rcount_in T w5 (.slice a3 r1 c3) _ m (hdN L p 0 m ++ tailT L q) 16384 rfl HIN5.out (by omega) (by omega) HCL.out.1).mono ?_
  rintro e w6 ⟨⟨a6, c6, rfl, hin6⟩, hs6⟩
  obtain ⟨r2, hr2⟩ : ∃ r2, r2 = (hdN L p 0 m ++ tailT L q).length := ⟨_, rfl⟩
  rw [← hr2] at hin6 ⊢
  have hbr := (hs6.block B (lt_of_block HRX5.out) (fun x => x)).trans HRX5.out
  obtain ⟨g0, g1, f0, f1⟩ := two_cells hbr
  obtain ⟨w7, hw7⟩ : ∃ w7, (w6.setCell ⟨B, 0, none⟩ (.slice a6 r2 c6)).setCell ⟨B, 1, none⟩ (.int .i64 0) = w7 := ⟨_, rfl⟩
  have hp7 : Stay (fun k => k = B) w6 w7 := hw7 ▸ stay_put w6 B _ _ rfl
  have HRX7 := Lib.hid (show RX w7 B a6 r2 c6 from hw7 ▸ two_put hbr)
  have HTB7 := Lib.hid ((HTB5.out.stay hs6 (fun x => x)).stay hp7 (by omega))
  have HIN7 := Lib.hid (hin6.stay (hp7.mono (fun k (e : k = B) => by omega)))
  have HS7 := Lib.hid (show Stay (fun k => T ≤ k) w2 w7 from (HS5.out.mono (fun k (e : k = T) => by omega)).trans ((hs6.mono (fun _ x => x.elim)).trans (hp7.mono (fun k (e : k = B) => by omega))))
  have HZ7 := Lib.hid (show B + 1 ≤ w7.heap.size by have h1 := hs6.size; have h2 := hp7.size; have h3 := HZ5.out; omega)
  have k1 := HTB7.out.c0
  rw [← hw7] at k1
  have W7 := Lib.hid hw7
  have HR2 := Lib.hid hr2
  have hmi : (0 : Int) < m := by omega
  have hmni : (m : Int) ≤ n := by omega
  clear hs6 hin6 hr2 hbr hw7 hp7 HRX5 HTB5 HIN5 HS5 HZ5 W4 W5 HR1 HRL1
  go_wp2
  clear g0 g1 f0 f1 k1
  rw [W7.out]
  have HLL := Lib.hid (show ∀ k, k ≤ m → (hdN L p k (m - k) ++ tailT L q).length ≤ xl from fun k hk => by
    have h1 := len_from L p k m (m - k) (by omega)
    rw [HXL.out, HTE.out]
    simp only [List.length_append]
    omega)
  have hblx : xl + 4 = bl := by rw [HXL.out, HBL.out]
  have hbli : (bl : Int) ≤ 10000004 := by have := HXL.out; omega
  have HBX := Lib.hid hblx
  clear hblx
  go_loopw [10, 11] (fun bv i wr => ∃ k : Nat, k ≤ m ∧ i = .int .i64 (k : Int) ∧ bv = .bool true ∧ (∃ v1 v2, Hid (TBx wr T n v1 v2 (.string ⟨#[]⟩) (.int .i64 0) (.slice none 0 0)) ∧ Hid (FP (B + 1) T wr v1 v2 L p k)) ∧ (∃ a c r, Hid (RX wr B a r c ∧ r = (hdN L p k (m - k) ++ tailT L q).length ∧ In0 T wr (.slice a r c) (hdN L p k (m - k) ++ tailT L q))) ∧ Stay (fun j => T ≤ j) w2 wr ∧ B + 1 ≤ wr.heap.size) (fun _ i _ => m - (intOf i).toNat)
  case atStart => exact ⟨0, Nat.zero_le _, rfl, by simp, ⟨_, _, HTB7, Lib.hid (FP.nil _ _ _ _ _)⟩, ⟨a6, c6, r2, Lib.hid ⟨HRX7.out, HR2.out, HIN7.out⟩⟩, HS7.out, HZ7.out⟩
  case round =>
    obtain ⟨k, hk, rfl, rfl, ⟨v1, v2, htb, hfp⟩, ⟨a8, c8, r8, hr8⟩, hst, hzr⟩ := hrel
    have HT := Lib.hid hst
    have HZR := Lib.hid hzr
    clear hst hzr
    by_cases hlt : k < m
    · obtain ⟨M, hM⟩ : ∃ M, m - k = M + 1 := ⟨m - k - 1, by omega⟩
      obtain ⟨ky, hky⟩ : ∃ ky, ky = keyAt L (k * p) := ⟨_, rfl⟩
      obtain ⟨pb, hpb⟩ : ∃ pb, pb = partB (chunk L p k) := ⟨_, rfl⟩
      obtain ⟨R2, hR2⟩ : ∃ R2, R2 = hdN L p (k + 1) M ++ tailT L q := ⟨_, rfl⟩
      obtain ⟨R1, hR1⟩ : ∃ R1, R1 = bytesB pb ++ R2 := ⟨_, rfl⟩
      have hform : hdN L p k (m - k) ++ tailT L q = bytesB ky ++ R1 := by rw [hM, hd_from, hky, hR1, hpb, hR2]; simp only [List.append_assoc]
      have hll := HLL.out k hk
      have hin8 := hr8.out.2.2
      rw [hform] at hin8 hll
      have HIN8 := Lib.hid hin8
      have hkk := len_bytesB ky
      have hkp := len_bytesB pb
      have hk1 : ky.length ≤ bl := by rw [List.length_append] at hll; have := HBX.out; omega
      have hk2 : pb.length ≤ bl := by rw [hR1, List.length_append, List.length_append] at hll; have := HBX.out; omega
      have HRR1 := Lib.hid hR1
      have HRR2 := Lib.hid (show R2 = hdN L p (k + 1) (m - (k + 1)) ++ tailT L q by rw [hR2, show m - (k + 1) = M by omega])
      have HKY := Lib.hid hky
      have HPB := Lib.hid hpb
      have HBR := Lib.hid hr8.out.1
      clear hM hky hpb hR2 hR1 hform hll hin8 hkk hkp hr8
      obtain ⟨g0, g1, f0, f1⟩ := two_cells HBR.out
      have hltI : (k : Int) < m := by omega
      go_wp2_with fail
      clear g0 g1 f0 f1
      refine (rtext_in T wr (.slice a8 r8 c8) _ ky R1 (bl : Int) rfl HIN8.out (by omega) (by omega) (by have := HZR.out; omega)).mono ?_
      rintro y w9 ⟨⟨a9, c9, ka, kc, rfl, hin9, hkx9⟩, hs9⟩
      have hbr := (hs9.block B (lt_of_block HBR.out) (fun x => x)).trans HBR.out
      obtain ⟨g0, g1, f0, f1⟩ := two_cells hbr
      obtain ⟨w10, hw10⟩ : ∃ w10, (w9.setCell ⟨B, 0, none⟩ (.slice a9 R1.length c9)).setCell ⟨B, 1, none⟩ (.int .i64 0) = w10 := ⟨_, rfl⟩
      have hp10 : Stay (fun k => k = B) w9 w10 := hw10 ▸ stay_put w9 B _ _ rfl
      have HRX10 := Lib.hid (show RX w10 B a9 R1.length c9 from hw10 ▸ two_put hbr)
      have hpT : Stay (fun k => T ≤ k) w9 w10 := hp10.mono (fun k (e : k = B) => by omega)
      have HIN10 := Lib.hid (hin9.stay hpT)
      have HKX10 := Lib.hid (hkx9.stay hpT)
      have HTB10 := Lib.hid ((htb.out.stay hs9 (fun x => x)).stay hp10 (by omega))
      have HFP10 := Lib.hid ((hfp.out.stay0 hs9).stay hp10 (fun j hj e => by omega) (fun j e => by omega))
      have HT10 := Lib.hid ((hs9.mono (fun _ x => x.elim)).trans hpT)
      have W10 := Lib.hid hw10
      clear hs9 hin9 hkx9 hbr hw10 hp10 hpT htb hfp HIN8 HBR
      go_wp2_with fail
      clear g0 g1 f0 f1
      rw [W10.out]
      refine (rtext_in T w10 (.slice a9 R1.length c9) _ pb R2 (bl : Int) rfl (HRR1.out ▸ HIN10.out) (by omega) (by omega) (by have := HT10.out.size; have := HZR.out; omega)).mono ?_
      rintro y w11 ⟨⟨a11, c11, pa, pc, rfl, hin11, hpx11⟩, hs11⟩
      have hbr := (hs11.block B (lt_of_block HRX10.out) (fun x => x)).trans HRX10.out
      obtain ⟨g0, g1, f0, f1⟩ := two_cells hbr
      obtain ⟨w12, hw12⟩ : ∃ w12, (w11.setCell ⟨B, 0, none⟩ (.slice a11 R2.length c11)).setCell ⟨B, 1, none⟩ (.int .i64 0) = w12 := ⟨_, rfl⟩
      have hp12 : Stay (fun k => k = B) w11 w12 := hw12 ▸ stay_put w11 B _ _ rfl
      have hrx12 : RX w12 B a11 R2.length c11 := hw12 ▸ two_put hbr
      have hpT : Stay (fun k => T ≤ k) w10 w12 := (hs11.mono (fun _ x => x.elim)).trans (hp12.mono (fun k (e : k = B) => by omega))
      have hin12 := hin11.stay (hp12.mono (fun k (e : k = B) => by omega))
      have hkx12 := HKX10.out.stay hpT
      have hpx12 := hpx11.stay (hp12.mono (fun k (e : k = B) => by omega))
      have htb12 := (HTB10.out.stay hs11 (fun x => x)).stay hp12 (by omega)
      have hfp12 := (HFP10.out.stay0 hs11).stay hp12 (fun j hj e => by omega) (fun j e => by omega)
      have cv := Pk.conv_slc hkx12.slc
      have k1 := htb12.c1
      rw [← hw12] at cv k1
      obtain ⟨w13, hw13⟩ : ∃ w13, w12.alloc (.cells #[.string ⟨ky.toArray⟩] 9) = w13 := ⟨_, rfl⟩
      have hs13 : Stay (fun _ => False) w12 w13 := hw13 ▸ Stay.alloc _ _
      have hc13 : w13.cell? ⟨w11.heap.size, 0, none⟩ = some (.string ⟨ky.toArray⟩) := by rw [show w11.heap.size = w12.heap.size by rw [← hw12]; simp, ← hw13, cell_of_row _ _ _ _ _ _ (heap_alloc_new w12 _)]; rfl
      have HRX13 := Lib.hid (hrx12.stay hs13 (fun x => x))
      have HIN13 := Lib.hid (In0.slc0 hin12 hs13)
      have HKX13 := Lib.hid (In0.slc0 hkx12 hs13)
      have HPX13 := Lib.hid (In0.slc0 hpx12 hs13)
      have HTB13 := Lib.hid (htb12.stay hs13 (fun x => x))
      have HFP13 := Lib.hid (hfp12.stay0 hs13)
      have HT13 := Lib.hid ((HT10.out.trans hpT).trans (hs13.mono (fun _ x => x.elim)))
      have HC13 := Lib.hid hc13
      have W12 := Lib.hid hw12
      have W13 := Lib.hid hw13
      have HZ13 := Lib.hid (show B + 1 ≤ w13.heap.size by have := HT13.out.size; have := HZR.out; omega)
      obtain ⟨va1, vc1, rfl⟩ := hfp12.form1
      obtain ⟨va2, vc2, rfl⟩ := hfp12.form2
      have hkm : k + 1 ≤ 1000 := by omega
      unfold Pk.strV at cv
      clear hs11 hin11 hpx11 hbr hw12 hp12 hrx12 hpT hin12 hkx12 hpx12 htb12 hfp12 hw13 hs13 hc13 HRX10 HIN10 HKX10 HTB10 HFP10 W10
      have HARM1 := Lib.hid (show ∀ v14 w14, w14.ownsRow (B + 1) 9 1 v14 (k + 1) (ksL L p k ++ [.string ⟨ky.toArray⟩]) → Stay (fun j => (Value.slice va1 k vc1).ownBlock = some j) w13 w14 → ∃ va4 vc4 w15 w16, v14 = .slice va4 (k + 1) vc4 ∧ w14.setCell ⟨T, 1, none⟩ (.slice va4 (k + 1) vc4) = w15 ∧ w15.alloc (.cells #[.slice pa pb.length pc] 30) = w16 ∧
          w14.cell? ⟨T, 1, none⟩ = some (.slice va1 k vc1) ∧ w14.frozen? ⟨T, 1, none⟩ = false ∧ (w14.setCell ⟨T, 1, none⟩ (.slice va4 (k + 1) vc4)).cell? ⟨T, 2, none⟩ = some (.slice va2 k vc2) ∧ Mid L p k T B n w2 w16 w14.heap.size va4 vc4 va2 vc2 a11 R2 c11 ka ky kc pa pb pc from by
        intro v14 w14 ho14 hs14
        have hx14 := HFP13.out.key hs14 (by omega)
        have hb14 : ∀ j, (Value.slice va1 k vc1).ownBlock = some j → B + 1 ≤ j := fun j hj => (HFP13.out.lt1 j hj).1
        have htb14 := HTB13.out.stay hs14 (fun h => by have := hb14 _ h; omega)
        have hrx14 := HRX13.out.stay hs14 (fun h => by have := hb14 _ h; omega)
        have hsT14 : Stay (fun j => T ≤ j) w13 w14 := hs14.mono (fun j hj => by have := hb14 j hj; omega)
        obtain ⟨va4, vc4, rfl⟩ := row_form ho14
        obtain ⟨w15, hw15⟩ : ∃ w15, w14.setCell ⟨T, 1, none⟩ (.slice va4 (k + 1) vc4) = w15 := ⟨_, rfl⟩
        have hs15 : Stay (fun j => j = T) w14 w15 := hw15 ▸ stay1 _ w14 T 1 _ rfl
        obtain ⟨w16, hw16⟩ : ∃ w16, w15.alloc (.cells #[.slice pa pb.length pc] 30) = w16 := ⟨_, rfl⟩
        have hs16 : Stay (fun _ => False) w15 w16 := hw16 ▸ Stay.alloc _ _
        have htb15 : TBx w15 T n (.slice va4 (k + 1) vc4) (.slice va2 k vc2) (.string ⟨#[]⟩) (.int .i64 0) (.slice none 0 0) := hw15 ▸ htb14.set1 _
        have hs1T : Stay (fun j => T ≤ j) w14 w16 := (hs15.mono (fun j (e : j = T) => by omega)).trans (hs16.mono (fun _ x => x.elim))
        have hT16 := (HT13.out.trans hsT14).trans hs1T
        refine ⟨va4, vc4, w15, w16, rfl, hw15, hw16, htb14.c1, htb14.fr 1, by rw [hw15]; exact htb15.c2, ?_⟩
        refine ⟨?_, ?_, htb15.stay hs16 (fun x => x), (hrx14.stay hs15 (by omega)).stay hs16 (fun x => x), (HIN13.out.stay hsT14).stay hs1T, (HKX13.out.stay hsT14).stay hs1T, (HPX13.out.stay hsT14).stay hs1T, HT.out.trans hT16, ?_, ?_⟩
        · rw [ks_succ, ← HKY.out]
          exact row_stay (row_stay ho14 hs15 (fun j hj e => by have := (World.ownsRow.lt ho14 j hj).1; omega)) hs16 (fun _ _ x => x)
        · obtain ⟨vs, h2, h3⟩ := hx14
          refine ⟨vs, row_stay (row_stay h2 hs15 (fun j hj e => by have := (World.ownsRow.lt h2 j hj).1; omega)) hs16 (fun _ _ x => x), fun i hi => ?_⟩
          obtain ⟨x, h4, h5⟩ := h3 i hi
          exact ⟨x, h4, h5.stay hs1T⟩
        · have := hT16.size
          have := HZR.out
          omega
        · rw [show w14.heap.size = w15.heap.size by rw [← hw15]; simp, ← hw16, cell_of_row _ _ _ _ _ _ (heap_alloc_new w15 _)]
          rfl)
      have HARM2 := Lib.hid (show ∀ g va4 vc4 w16 v17 w17 vs, Mid L p k T B n w2 w16 g va4 vc4 va2 vc2 a11 R2 c11 ka ky kc pa pb pc → w16.ownsRow (B + 1) 30 1 (.slice va2 k vc2) k vs → (∀ i, i < k → ∃ x, vs[i]? = some x ∧ In0 T w16 x (partB (chunk L p i))) → w17.ownsRow (B + 1) 30 1 v17 (k + 1) (vs ++ [.slice pa pb.length pc]) → Stay (fun j => (Value.slice va2 k vc2).ownBlock = some j) w16 w17 →
          ∃ va7 vc7 w18, v17 = .slice va7 (k + 1) vc7 ∧ w17.setCell ⟨T, 2, none⟩ (.slice va7 (k + 1) vc7) = w18 ∧ w17.cell? ⟨T, 2, none⟩ = some (.slice va2 k vc2) ∧ w17.frozen? ⟨T, 2, none⟩ = false ∧ Hid (TBx w18 T n (.slice va4 (k + 1) vc4) (.slice va7 (k + 1) vc7) (.string ⟨#[]⟩) (.int .i64 0) (.slice none 0 0)) ∧ Hid (RX w18 B a11 R2.length c11) ∧ Hid (FP (B + 1) T w18 (.slice va4 (k + 1) vc4) (.slice va7 (k + 1) vc7) L p (k + 1)) ∧ Hid (In0 T w18 (.slice a11 R2.length c11) R2) ∧ Hid (In0 T w18 (.slice ka ky.length kc) ky) ∧ Hid (Stay (fun j => T ≤ j) w2 w18) ∧ Hid (B + 1 ≤ w18.heap.size) from by
        intro g va4 vc4 w16 v17 w17 vs hM hv1 hv2 ho17 hs17
        have hb17 : ∀ j, (Value.slice va2 k vc2).ownBlock = some j → B + 1 ≤ j := fun j hj => (World.ownsRow.lt hv1 j hj).1
        have hfp17 := FP.grow hM.row hv1 hv2 ho17 hs17 (HPB.out ▸ hM.px) (by omega)
        have htb17 := hM.tb.stay hs17 (fun h => by have := hb17 _ h; omega)
        have hrx17 := hM.rx.stay hs17 (fun h => by have := hb17 _ h; omega)
        have hsT17 : Stay (fun j => T ≤ j) w16 w17 := hs17.mono (fun j hj => by have := hb17 j hj; omega)
        obtain ⟨va7, vc7, rfl⟩ := row_form ho17
        obtain ⟨w18, hw18⟩ : ∃ w18, w17.setCell ⟨T, 2, none⟩ (.slice va7 (k + 1) vc7) = w18 := ⟨_, rfl⟩
        have hs18 : Stay (fun j => j = T) w17 w18 := hw18 ▸ stay1 _ w17 T 2 _ rfl
        have hsT18 : Stay (fun j => T ≤ j) w17 w18 := hs18.mono (fun j (e : j = T) => by omega)
        exact ⟨va7, vc7, w18, rfl, hw18, htb17.c2, htb17.fr 2, Lib.hid (hw18 ▸ htb17.set2 _), Lib.hid (hrx17.stay hs18 (by omega)), Lib.hid (hfp17.stay hs18 (fun j hj e => by omega) (fun j e => by omega)), Lib.hid ((hM.inr.stay hsT17).stay hsT18), Lib.hid ((hM.kx.stay hsT17).stay hsT18), Lib.hid ((hM.st.trans hsT17).trans hsT18), Lib.hid (by have h1 := hsT17.size; have h2 := hsT18.size; have h3 := hM.sz; omega)⟩)
      have HF13 := Lib.hid HFP13.out.f
      clear HFP13 HRX13 HIN13 HKX13 HPX13 HTB13 HT13
      go_wp2_with (first
        | (at_builtin; rw [W12.out, W13.out]
           refine wpList_append_row 9 (.string ⟨#[]⟩) 16 info_s rfl rfl (.tmp 75) (.tmp 78) 40 rfl Tryz.underlying40 w11.heap.size (.string ⟨ky.toArray⟩) rfl rfl HF13.out HC13.out rfl (by omega) (by decide) HZ13.out ?_
           intro v14 w14 ho14 hs14
           obtain ⟨va4, vc4, w15, w16, rfl, hw15, hw16, hc14, hf14, hc15, hmid⟩ := HARM1.out v14 w14 ho14 hs14
           have W15 := Lib.hid hw15
           have W16 := Lib.hid hw16
           have HMID := Lib.hid hmid
           clear hw15 hw16 hmid ho14 hs14 k1 cv)
        | (at_builtin; rw [W15.out, W16.out]
           obtain ⟨vs, hv1, hv2⟩ := HMID.out.v
           refine wpList_append_row 30 (.slice none 0 0) 24 info_b rfl rfl (.tmp 82) (.tmp 84) 41 rfl Tryz.underlying41 w14.heap.size (.slice pa pb.length pc) rfl rfl hv1 HMID.out.c rfl (by omega) (by decide) HMID.out.sz ?_
           intro v17 w17 ho17 hs17
           obtain ⟨va7, vc7, w18, rfl, hw18, hc17, hf17, HTB18, HRX18, HFP18, HIN18, HKX18, HT18, HZ18⟩ := HARM2.out _ _ _ _ _ _ _ HMID.out hv1 hv2 ho17 hs17
           have W18 := Lib.hid hw18
           clear hw18 hv1 hv2 ho17 hs17))
      rw [W18.out]
      obtain ⟨gf, cf, e9, hgf, hgf2⟩ := row_at HFP18.out.f (Nat.succ_pos k)
      cases e9
      have hrow := HFP18.out.f
      have htb18 := HTB18.out
      obtain ⟨D, hDd⟩ : ∃ D : World → Prop, D = Stay (fun _ => False) w18 := ⟨_, rfl⟩
      have HD := Lib.hid (show ∀ W, D W → Stay (fun _ => False) w18 W by intro W h; rw [hDd] at h; exact h)
      have HDm := Lib.hid (show ∀ W, Stay (fun _ => False) w18 W → D W by intro W h; rw [hDd]; exact h)
      clear hDd
      have HN0 := Lib.hid (HDm.out _ (Stay.drew (w := w18)))
      haveI : Nonempty (InC D) := ⟨⟨_, HN0.out⟩⟩
      have HREL := Lib.hid (show ∀ W, Stay (fun _ => False) w18 W → ∃ k' : Nat, k' ≤ m ∧ k' = k + 1 ∧ (∃ v1 v2, Hid (TBx W T n v1 v2 (.string ⟨#[]⟩) (.int .i64 0) (.slice none 0 0)) ∧ Hid (FP (B + 1) T W v1 v2 L p k')) ∧ (∃ a c r, Hid (RX W B a r c ∧ r = (hdN L p k' (m - k') ++ tailT L q).length ∧ In0 T W (.slice a r c) (hdN L p k' (m - k') ++ tailT L q))) ∧ Stay (fun j => T ≤ j) w2 W ∧ B + 1 ≤ W.heap.size from by
        intro W hW
        refine ⟨k + 1, hlt, rfl, ⟨_, _, Lib.hid (HTB18.out.stay hW (fun x => x)), Lib.hid (HFP18.out.stay0 hW)⟩, ⟨a11, c11, R2.length, Lib.hid ⟨HRX18.out.stay hW (fun x => x), by rw [HRR2.out], ?_⟩⟩, HT18.out.trans (hW.mono (fun _ x => x.elim)), by have := hW.size; have := HZ18.out; omega⟩
        rw [← HRR2.out]
        exact In0.slc0 HIN18.out hW)
      have k1_ := fun i : InC D => (HD.out _ i.h).cell htb18.c1 (fun x => x)
      have kcv : ∀ i : InC D, (convert 30 9 (.slice ka ky.length kc)).run Tryz.prog i.w = .ok (.string ⟨ky.toArray⟩) i.w := fun i => Pk.conv_slc (In0.slc0 HKX18.out (HD.out _ i.h)).slc
      by_cases h0 : k = 0
      · have hk0 : ((k : Int) == 0) = true := by simp [h0]
        clear hrow htb18 HARM1 HARM2 HMID HF13 HC13 W15 W16 W18 W12 W13 HPB
        refine wp_region_class D HN0.out (by kernel_rfl) (by kernel_rfl) ?_
        repeat (go_big_quiet_step (fail))
        refine wpQuiet_nil ?_
        rintro W ⟨iw, rfl⟩
        obtain ⟨k', e1, e2, e3, e4, e5, e6⟩ := HREL.out _ (HD.out _ iw.h)
        clear k1_ kcv
        go_wp2
        refine ⟨⟨k', e1, by rw [e2]; go_num, rfl, e3, e4, e5, e6⟩, by simp [intOf]; omega⟩
      · obtain ⟨t, ht⟩ : ∃ t, k = t + 1 := ⟨k - 1, by omega⟩
        have hk0 : ((t : Int) + 1 == 0) = false := beq_eq_false_iff_ne.2 (by omega)
        have htm : (t : Int) ≤ 1000 := by omega
        obtain ⟨kp, hkp⟩ : ∃ kp, kp = keyAt L (t * p) := ⟨_, rfl⟩
        have hkc : w18.cell? ⟨gf, t, none⟩ = some (.string ⟨kp.toArray⟩) := row_cell hrow (by rw [hkp, ht]; unfold ksL; rw [List.getElem?_map, List.getElem?_range (by omega)]; rfl)
        have hless : Op.bytesLess kp ky = true := by
          rw [Me.less_eq, hkp, HKY.out]
          have hin := (cN_lt (n := L.length) HG.out.p1).1 (show k < cN L.length p by rw [← HMM.out]; exact hlt)
          exact key_lt HG.out.srt (by rw [ht, Nat.add_mul]; have := HG.out.p1; omega) hin
        have k2_ := fun i : InC D => (HD.out _ i.h).cell hkc (fun x => x)
        clear hrow htb18 HARM1 HARM2 HMID HF13 HC13 W15 W16 W18 W12 W13 HPB hkc hkp
        subst ht
        refine wp_region_class D HN0.out (by kernel_rfl) (by kernel_rfl) ?_
        repeat (go_big_quiet_step (fail))
        refine wpQuiet_nil ?_
        rintro W ⟨iw, rfl⟩
        obtain ⟨k', e1, e2, e3, e4, e5, e6⟩ := HREL.out _ (HD.out _ iw.h)
        clear k1_ k2_ kcv
        go_wp2
        refine ⟨⟨k', e1, by rw [e2]; go_num, rfl, e3, e4, e5, e6⟩, by simp [intOf]; omega⟩
    · obtain rfl : k = m := by omega
      obtain ⟨kl, hkl⟩ : ∃ kl, kl = lastK L := ⟨_, rfl⟩
      obtain ⟨en, hen⟩ : ∃ en, en = Bo.encB 3 (filtB L q) := ⟨_, rfl⟩
      obtain ⟨R1, hR1⟩ : ∃ R1, R1 = bytesB en ++ [] := ⟨_, rfl⟩
      have hform : hdN L p k (k - k) ++ tailT L q = bytesB kl ++ R1 := by
        rw [Nat.sub_self, hkl, hR1, hen]
        unfold tailT
        simp [hdN]
      have hll := HLL.out k hk
      have hin8 := hr8.out.2.2
      rw [hform] at hin8 hll
      have HIN8 := Lib.hid hin8
      have hkk := len_bytesB kl
      have hkp := len_bytesB en
      have hk1 : kl.length ≤ bl := by rw [List.length_append] at hll; have := HBX.out; omega
      have hk2 : en.length ≤ bl := by rw [hR1, List.length_append, List.length_append] at hll; have := HBX.out; omega
      have HRR1 := Lib.hid hR1
      have HKL := Lib.hid hkl
      have HBR := Lib.hid hr8.out.1
      have hfl := filtB_len L q
      have hqn := HG.out.qn
      have hg1 : 1 ≤ q * L.length := Nat.mul_pos HG.out.q1 HG.out.n1
      have HEG := Lib.hid (show Bo.goodB en = true ∧ Bo.decBits en = filtB L q ∧ (Bo.decK en).1 = 3 from by
        rw [hen]
        exact Bo.enc_good (by omega) (by omega) (by decide) (by decide))
      clear hkl hen hR1 hform hll hin8 hkk hkp hr8 hfl hqn hg1 hlt
      obtain ⟨g0, g1, f0, f1⟩ := two_cells HBR.out
      go_wp2_with fail
      clear g0 g1 f0 f1
      refine (rtext_in T wr (.slice a8 r8 c8) _ kl R1 (bl : Int) rfl HIN8.out (by omega) (by omega) (by have := HZR.out; omega)).mono ?_
      rintro y w9 ⟨⟨a9, c9, ka, kc, rfl, hin9, hkx9⟩, hs9⟩
      have hbr := (hs9.block B (lt_of_block HBR.out) (fun x => x)).trans HBR.out
      obtain ⟨g0, g1, f0, f1⟩ := two_cells hbr
      obtain ⟨w10, hw10⟩ : ∃ w10, (w9.setCell ⟨B, 0, none⟩ (.slice a9 R1.length c9)).setCell ⟨B, 1, none⟩ (.int .i64 0) = w10 := ⟨_, rfl⟩
      have hp10 : Stay (fun k => k = B) w9 w10 := hw10 ▸ stay_put w9 B _ _ rfl
      have hrx10 : RX w10 B a9 R1.length c9 := hw10 ▸ two_put hbr
      have hpT : Stay (fun k => T ≤ k) w9 w10 := hp10.mono (fun k (e : k = B) => by omega)
      have htb10 := (htb.out.stay hs9 (fun x => x)).stay hp10 (by omega)
      have hfp10 := (hfp.out.stay0 hs9).stay hp10 (fun j hj e => by omega) (fun j e => by omega)
      have cv := Pk.conv_slc (hkx9.stay hpT).slc
      unfold Pk.strV at cv
      have k3 := htb10.c3
      have k3f := htb10.fr 3
      obtain ⟨w11, hw11⟩ : ∃ w11, w10.setCell ⟨T, 3, none⟩ (.string ⟨kl.toArray⟩) = w11 := ⟨_, rfl⟩
      have hs11 : Stay (fun j => j = T) w10 w11 := hw11 ▸ stay1 _ w10 T 3 _ rfl
      have hrx11 := hrx10.stay hs11 (by omega)
      obtain ⟨q0, q1, _, _⟩ := two_cells hrx11
      rw [← hw11] at q0 q1
      rw [← hw10] at cv k3 k3f q0 q1
      have hT11 : Stay (fun j => T ≤ j) w10 w11 := hs11.mono (fun j (e : j = T) => by omega)
      have HTB11 := Lib.hid (show TBx w11 T n v1 v2 (.string ⟨kl.toArray⟩) (.int .i64 0) (.slice none 0 0) from hw11 ▸ htb10.set3 _)
      have HRX11 := Lib.hid hrx11
      have HFP11 := Lib.hid (hfp10.stay hs11 (fun j hj e => by omega) (fun j e => by omega))
      have HIN11 := Lib.hid ((hin9.stay hpT).stay hT11)
      have HT11 := Lib.hid (((HT.out.trans (hs9.mono (fun _ x => x.elim))).trans hpT).trans hT11)
      have HZ11 := Lib.hid (show B + 1 ≤ w11.heap.size by have h1 := hs9.size; have h2 := hpT.size; have h3 := hT11.size; have := HZR.out; omega)
      have W10 := Lib.hid hw10
      have W11 := Lib.hid hw11
      clear hs9 hin9 hkx9 hbr hw10 hp10 hpT htb hfp HIN8 HBR hrx10 htb10 hfp10 hw11 hs11 hrx11 hT11
      go_wp2_with fail
      clear g0 g1 f0 f1 q0 q1 k3 k3f cv
      rw [W10.out, W11.out]
      refine (rtext_in T w11 (.slice a9 R1.length c9) _ en [] (bl : Int) rfl (HRR1.out ▸ HIN11.out) (by omega) (by omega) (by have := HZ11.out; omega)).mono ?_
      rintro y w12 ⟨⟨a12, c12, ea, ec, rfl, hin12, hex12⟩, hs12⟩
      obtain ⟨z0, hz0⟩ : ∃ z0, z0 = ([] : List UInt8).length := ⟨_, rfl⟩
      rw [← hz0] at hin12 ⊢
      have hbr := (hs12.block B (lt_of_block HRX11.out) (fun x => x)).trans HRX11.out
      obtain ⟨g0, g1, f0, f1⟩ := two_cells hbr
      obtain ⟨w13, hw13⟩ : ∃ w13, (w12.setCell ⟨B, 0, none⟩ (.slice a12 z0 c12)).setCell ⟨B, 1, none⟩ (.int .i64 0) = w13 := ⟨_, rfl⟩
      have hp13 : Stay (fun k => k = B) w12 w13 := hw13 ▸ stay_put w12 B _ _ rfl
      have HRX13 := Lib.hid (show RX w13 B a12 z0 c12 from hw13 ▸ two_put hbr)
      have hpT : Stay (fun k => T ≤ k) w12 w13 := hp13.mono (fun k (e : k = B) => by omega)
      have HTB13 := Lib.hid ((HTB11.out.stay hs12 (fun x => x)).stay hp13 (by omega))
      have HFP13 := Lib.hid ((HFP11.out.stay0 hs12).stay hp13 (fun j hj e => by omega) (fun j e => by omega))
      have HIN13 := Lib.hid (hin12.stay hpT)
      have HEX13 := Lib.hid (hex12.stay hpT)
      have HT13 := Lib.hid ((HT11.out.trans (hs12.mono (fun _ x => x.elim))).trans hpT)
      have HZ13 := Lib.hid (show B + 1 ≤ w13.heap.size by have h1 := hs12.size; have h2 := hpT.size; have := HZ11.out; omega)
      have W13 := Lib.hid hw13
      have HZZ := Lib.hid hz0
      clear hs12 hin12 hex12 hbr hw13 hp13 hpT hz0 HTB11 HRX11 HFP11 HIN11
      go_wp2_with fail
      clear g0 g1 f0 f1
      rw [W13.out]
      refine (Bo.rdecode_any w13 _ en HEX13.out.slc (by omega)).mono ?_
      rintro y w14 ⟨hret, hs14⟩
      unfold Bo.RDecRet at hret
      rw [if_pos HEG.out.1, HEG.out.2.1, HEG.out.2.2] at hret
      obtain ⟨u, rfl, hu⟩ := hret
      obtain ⟨ua, uc, rfl⟩ := hu.form
      obtain ⟨fl, hfl⟩ : ∃ fl, fl = (filtB L q).length := ⟨_, rfl⟩
      rw [← hfl] at hu ⊢
      have htb14 := HTB13.out.stay hs14 (fun x => x)
      obtain ⟨w15, hw15⟩ : ∃ w15, w14.alloc (.cells #[.int .i64 3, .slice ua fl uc] 44) = w15 := ⟨_, rfl⟩
      have hs15 : Stay (fun _ => False) w14 w15 := hw15 ▸ Stay.alloc _ _
      have htb15 := htb14.stay hs15 (fun x => x)
      have k4 := htb15.c4
      have k5 := htb15.c5
      have k4f := htb15.fr 4
      have k5f := htb15.fr 5
      rw [← hw15] at k4 k5 k4f k5f
      obtain ⟨w16, hw16⟩ : ∃ w16, (w15.setCell ⟨T, 4, none⟩ (.int .i64 3)).setCell ⟨T, 5, none⟩ (.slice ua fl uc) = w16 := ⟨_, rfl⟩
      have hs16 : Stay (fun j => j = T) w15 w16 := hw16 ▸ ((stay1 (fun j => j = T) w15 T 4 _ rfl).trans (stay1 (fun j => j = T) _ T 5 _ rfl))
      have hT16 : Stay (fun j => T ≤ j) w14 w16 := (hs15.mono (fun _ x => x.elim)).trans (hs16.mono (fun j (e : j = T) => by omega))
      have HTB16 := Lib.hid (show TBx w16 T n v1 v2 (.string ⟨kl.toArray⟩) (.int .i64 3) (.slice ua fl uc) from hw16 ▸ (htb15.set4 _).set5 _)
      have HRX16 := Lib.hid (((HRX13.out.stay hs14 (fun x => x)).stay hs15 (fun x => x)).stay hs16 (by omega))
      have HFP16 := Lib.hid (((HFP13.out.stay0 hs14).stay0 hs15).stay hs16 (fun j hj e => by omega) (fun j e => by omega))
      have HIN16 := Lib.hid ((In0.slc0 HIN13.out hs14).stay hT16)
      have HF16 := Lib.hid (show TO T w16 (.slice ua fl uc) (filtB L q) from ((hu.stay0 hs15).stay hs16 (fun j hj e => by have := (hu.lt j hj).1; have := HZ13.out; omega)).base' (fun j hj => by have := (hu.lt j hj).1; have := HZ13.out; omega))
      have HT16 := Lib.hid ((HT13.out.trans (hs14.mono (fun _ x => x.elim))).trans hT16)
      have W15 := Lib.hid hw15
      have W16 := Lib.hid hw16
      clear hs14 hu hfl htb14 hw15 hs15 htb15 hw16 hs16 hT16 HTB13 HRX13 HFP13 HIN13 HEX13
      unfold RV
      go_wp2
      clear k4 k5 k4f k5f
      rw [W15.out, W16.out]
      obtain ⟨gf, cf, e9, hgf, hgf2⟩ := row_at HFP16.out.f (by omega)
      subst e9
      obtain ⟨gp, cp, e9, hgp⟩ : ∃ gp cp, v2 = .slice (some ⟨gp, 0, none⟩) k cp ∧ B + 1 ≤ gp := by
        obtain ⟨vs, h2, _⟩ := HFP16.out.g
        obtain ⟨g, c, e, hg, _⟩ := row_at h2 (by omega)
        exact ⟨g, c, e, hg⟩
      subst e9
      have hrow := HFP16.out.f
      have htb16 := HTB16.out
      obtain ⟨D, hDd⟩ : ∃ D : World → Prop, D = Stay (fun _ => False) w16 := ⟨_, rfl⟩
      have HD := Lib.hid (show ∀ W, D W → Stay (fun _ => False) w16 W by intro W h; rw [hDd] at h; exact h)
      have HDm := Lib.hid (show ∀ W, Stay (fun _ => False) w16 W → D W by intro W h; rw [hDd]; exact h)
      clear hDd
      have HN0 := Lib.hid (HDm.out _ (Stay.drew (w := w16)))
      haveI : Nonempty (InC D) := ⟨⟨_, HN0.out⟩⟩
      obtain ⟨t, ht⟩ : ∃ t, k = t + 1 := ⟨k - 1, by omega⟩
      obtain ⟨kp, hkp⟩ : ∃ kp, kp = keyAt L (t * p) := ⟨_, rfl⟩
      have hkc : w16.cell? ⟨gf, t, none⟩ = some (.string ⟨kp.toArray⟩) := row_cell hrow (by rw [hkp]; exact ks_at (by omega))
      have hgt : (!Op.bytesLess kp kl && !kp == kl) = false := by
        have hin := (cN_lt (n := L.length) HG.out.p1).1 (show t < cN L.length p by rw [← HMM.out]; omega)
        rw [gtr_is, HKL.out, hkp]
        exact key_le HG.out.srt (by omega) (by have := HG.out.n1; omega)
      have k1_ := fun i : InC D => (HD.out _ i.h).cell htb16.c1 (fun x => x)
      have k2_ := fun i : InC D => (HD.out _ i.h).cell hkc (fun x => x)
      have k3_ := fun i : InC D => (HD.out _ i.h).cell htb16.c3 (fun x => x)
      have hz00 : z0 = 0 := HZZ.out
      subst hz00
      have HRUN := Lib.hid (show ∀ i : InC D, (loadVar 84 ⟨B, 0, none⟩).run Tryz.prog i.w = .ok (.agg #[.slice a12 0 c12, .int .i64 0]) i.w from fun i => RX.run (HRX16.out.stay (HD.out _ i.h) (fun x => x)))
      have H1 := Lib.hid (show ∀ W, D W → Calls Tryz.prog 37 #[.agg #[.slice a12 0 c12, .int .i64 0]] W fun e w' => e = .returned (.int .i64 0) ∧ D w' from fun W hW =>
        (rdone_laid W (.slice a12 0 c12) _ rfl (HIN16.out.slc.stay0 (HD.out _ hW))).mono fun e w' ⟨h3, h4⟩ => ⟨h3, HDm.out _ ((HD.out _ hW).trans h4)⟩)
      have HGT := Lib.hid hgt
      have HEND := Lib.hid (show ∀ W w', Stay (fun _ => False) w16 W → Stay (fun j => j = A0) W w' → (RTAt w' gf 0 gp 0 ua fl uc L p q ∧ k ≤ cf ∧ k ≤ cp) ∧ Stay (fun _ => False) w w' from fun W w' h1 h2 => by
        have h3 : Stay (fun j => j = A0) w16 w' := (h1.mono (fun _ x => x.elim)).trans h2
        have hA0 := HAT.out
        have hbox := HA2.out.stay HT16.out (by omega)
        obtain ⟨h5, h6, h7⟩ := HFP16.out.rt HMM.out (HF16.out.base' (fun _ _ => Nat.zero_le _))
        refine ⟨⟨⟨Nat.lt_of_lt_of_le h5.gfl h3.size, Nat.lt_of_lt_of_le h5.gpl h3.size, fun i hi => h3.cell (h5.firsts i hi) (fun (e : gf = A0) => by omega), fun i hi => ?_, (HF16.out.stay h3 (fun j hj e => by have := (HF16.out.lt j hj).1; omega)).base' (fun _ _ => Nat.zero_le _)⟩, h6, h7⟩, ?_⟩
        · obtain ⟨x, e1, e2⟩ := h5.parts i hi
          refine ⟨x, h3.cell e1 (fun (e : gp = A0) => by omega), Bo.slc_stay e2 h3 (fun h0 j hj e => slc_ne e2 hbox (fun j c => ?_) h0 j hj e)⟩
          match j with
          | 0 => simp [byteV]
          | 1 => simp [byteV]
          | 2 => simp [byteV]
          | 3 => simp [byteV]
          | 4 => simp [byteV]
          | 5 => simp [byteV]
          | j + 6 => simp
        · exact stay_seal (X := fun j => A0 ≤ j) (((HS2.out.mono (fun _ x => x.elim)).trans (HT16.out.mono (fun j hj => by omega))).trans (h3.mono (fun j (e : j = A0) => by omega))) (fun j hj => by have := HA0.out; omega))
      have HABX := Lib.hid (show ∀ W, Stay (fun _ => False) w16 W → TBx W A0 0 (.slice none 0 0) (.slice none 0 0) (.string ⟨#[]⟩) (.int .i64 0) (.slice none 0 0) from fun W h1 => (HA2.out.stay HT16.out (by have := HAT.out; omega)).stay h1 (fun x => x))
      have htm : (t : Int) ≤ 1000 := by omega
      clear hrow htb16 hkc hkp HFP16 HF16 HLL
      subst ht
      refine wp_region_class D HN0.out (by kernel_rfl) (by kernel_rfl) ?_
      refine quiet_load rfl 84 (.tmp 7) rfl ⟨B, 0, none⟩ rfl (.agg #[.slice a12 0 c12, .int .i64 0]) HRUN.out ?_
      go_frame
      repeat (go_big_quiet_step ((first
        | with_reducible exact calls_class H1.out)))
      refine wpQuiet_nil ?_
      rintro W ⟨iw, rfl⟩
      have hst := HD.out _ iw.h
      clear k1_ k2_ k3_
      generalize iw.w = w17 at *
      have HST := Lib.hid hst
      have HRN := Lib.hid (RBox.run (show RBox w17 T n (t + 1) gf 0 cf gp 0 cp kl ua fl uc from HTB16.out.stay hst (fun x => x)))
      have HAB := Lib.hid (HABX.out w17 hst)
      clear hst HABX
      go_wp2_with (first
        | (refine Me.wpList_load_run (by rfl) 46 (.tmp 6) rfl ⟨T, 0, none⟩ rfl _ HRN.out ?_)
        | ((with_reducible refine Me.at_op (.store 46 (.tmp 2) (.tmp 152)) rfl ?_); go_loud (refine TBx.store HAB.out rfl (.tmp 2) (.tmp 152) rfl rfl n (t + 1) gf 0 cf gp 0 cp kl ua fl uc rfl ?_)
           intro w18 hb18 hs18
           have HB18 := Lib.hid hb18
           have HS18 := Lib.hid hs18
           clear hb18 hs18))
      have hrb : RBox w18 A0 n (t + 1) gf 0 cf gp 0 cp kl ua fl uc := HB18.out
      have hld := hrb.run
      obtain ⟨⟨e1, e2, e3⟩, e4⟩ := HEND.out w17 w18 HST.out HS18.out
      refine bodyPost_ret (v := .tuple #[RT n (t + 1) gf 0 cf gp 0 cp kl ua fl uc, .int .i64 0]) (by simp [results, Tryz.results10, asAddr, hld]) rfl ⟨⟨gf, cf, gp, cp, ua, fl, uc, by rw [HKL.out], e1, e2, e3⟩, e4⟩
end Go.Proofs.YtahfgoafiepioaaGreatDoor.Tb

