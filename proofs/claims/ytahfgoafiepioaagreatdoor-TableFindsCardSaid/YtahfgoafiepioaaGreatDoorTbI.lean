/-
  table: whether entries may be a part's; a part's entries told.
-/
import Derived.Test.YtahfgoafiepioaaGreatDoorTbH
namespace Go.Proofs.YtahfgoafiepioaaGreatDoor.Tb
open Go.RowKit
open Pk (stay_seal)
open Me (En EnS EnO Box enC enV norm ltB Sorted getL posN hasB sizeL)
open Pk (spellB bytesB boolB textB takeB numB cntB truB RS Slc Owns RdAt)
set_option maxRecDepth 100000
set_option linter.unusedVariables false

theorem keyAt_chunk {L : List En} {p i j : Nat} (hj : j < p) : keyAt (chunk L p i) j = keyAt L (i * p + j) := by
  unfold keyAt
  rw [List.getD_eq_getElem?_getD, List.getD_eq_getElem?_getD, chunk_at hj]
/-- What a part's first and last keys are. -/
structure ChK (L : List En) (p i : Nat) (ch : List En) (m : Nat) (k0 kg : List UInt8) : Prop where
  is : ch = chunk L p i
  len : ch.length = m + 1
  first : keyAt ch 0 = k0
  first' : keyAt L (i * p) = k0
  last : keyAt ch m = kg
  next : i + 1 < cN L.length p → ltB kg (keyAt L ((i + 1) * p)) = true
  all : ltB (lastK L) kg = false
theorem chK_of {L : List En} {p i : Nat} (hs : Sorted L) (hp : 1 ≤ p) (hi : i < cN L.length p) : ∃ ch m k0 kg, ChK L p i ch m k0 kg := by
  have hin := (cN_lt hp).1 hi
  have hl := length_chunk L p i
  refine ⟨chunk L p i, (chunk L p i).length - 1, _, _, rfl, by omega, rfl, (chunk_key hp hin).symm, rfl, fun h => ?_, ?_⟩
  · rw [keyAt_chunk (by omega)]
    have h2 := (cN_lt (n := L.length) hp).1 h
    rw [Nat.add_mul, Nat.one_mul] at h2 ⊢
    exact key_lt hs (by omega) (by omega)
  · rw [keyAt_chunk (by omega)]
    exact key_le hs (by omega) (by omega)

/-- The slice of a table's parts, and a part of it. -/
theorem TAt.parts {w : World} {t p q : Nat} {L : List En} (h : TAt w t L p q) : ∃ g c, cN L.length p ≤ 1000000 ∧ w.cell? ⟨t, 1, none⟩ = some (.slice (some ⟨g, 0, none⟩) (cN L.length p) c) ∧ ∀ i, i < cN L.length p → w.cell? ⟨g, i * 2, none⟩ = some (Me.strV (keyAt L (i * p))) ∧ ∃ x, w.cell? ⟨g, i * 2 + 1, none⟩ = some x ∧ Slc w x (partB (chunk L p i)) := by
  have hle := cN_le (n := L.length) h.p1
  have hn2 := h.n2
  obtain ⟨v, pf, gf, hb, hpc, _⟩ := h.ex
  obtain ⟨g, c, rfl, hc⟩ := hpc.ex
  exact ⟨g, c, by omega, by rw [cell_of_row w t 1 _ _ _ hb]; rfl, hc⟩

set_option maxHeartbeats 4000000 in
theorem fits_any (w : World) (t p q i : Nat) (L : List En) (x : Value) (h : TAt w t L p q) (hi : i < cN L.length p) (hx : EnS w x (chunk L p i)) :
    Calls Tryz.prog 79 #[.pointer (some ⟨t, 0, none⟩), .int .i64 (i : Int), x] w fun e w' => e = .returned (.bool true) ∧ Stay (fun _ => False) w w' := by
  obtain ⟨ch, m, k0, kg, hk⟩ := chK_of h.srt h.p1 hi
  rw [← hk.is] at hx
  have hsc : decide (Sorted ch) = true := decide_eq_true (hk.is ▸ sorted_chunk h.srt p i)
  obtain ⟨g, c, hcb, hp1, hpc⟩ := h.parts
  have hf0 := (hpc i hi).1
  rw [hk.first'] at hf0
  have hlk := h.c2
  obtain ⟨kl, hkl⟩ : ∃ kl, kl = lastK L := ⟨_, rfl⟩
  rw [← hkl] at hlk
  have hall := hk.all
  rw [← hkl] at hall
  have HNX := Lib.hid (show i + 1 < cN L.length p → w.cell? ⟨g, (i + 1) * 2, none⟩ = some (Me.strV (keyAt L ((i + 1) * p))) ∧ ltB kg (keyAt L ((i + 1) * p)) = true from fun hn => ⟨(hpc _ hn).1, hk.next hn⟩)
  have hml : m + 1 ≤ 1000000 := by
    have h1 := length_chunk L p i
    have h2 := h.n2
    rw [← hk.is, hk.len] at h1
    omega
  obtain ⟨a0, cx, rfl⟩ := hx.form
  obtain ⟨e0, he0, hk0⟩ := at_of (L := ch) (i := 0) (by rw [hk.len]; omega)
  obtain ⟨e1, he1, hk1⟩ := at_of (L := ch) (i := m) (by rw [hk.len]; omega)
  obtain ⟨gx, ox, rfl, _, hcx⟩ := hx.at (by rw [hk.len]; omega)
  have d0 := (hcx _ e0 he0).1
  have d1 := (hcx _ e1 he1).1
  rw [← hk0, hk.first, Nat.zero_mul, Nat.add_zero] at d0
  rw [← hk1, hk.last] at d1
  rw [hk.len] at hx ⊢
  generalize cN L.length p = n at *
  obtain ⟨D, hDd⟩ : ∃ D : World → Prop, D = Stay (fun _ => False) w := ⟨_, rfl⟩
  have HD := Lib.hid (show ∀ W, D W → Stay (fun _ => False) w W by intro W h; rw [hDd] at h; exact h)
  have HDm := Lib.hid (show ∀ W, Stay (fun _ => False) w W → D W by intro W h; rw [hDd]; exact h)
  clear hDd
  have HN0 := Lib.hid (HDm.out _ (Stay.drew (w := w)))
  have k1 := fun i : InC D => (HD.out _ i.h).cell d0 (fun x => x)
  have k2 := fun i : InC D => (HD.out _ i.h).cell hp1 (fun x => x)
  have k3 := fun i : InC D => (HD.out _ i.h).cell hf0 (fun x => x)
  have HHP := Lib.hid hp1
  have HLK := Lib.hid hlk
  have HDD := Lib.hid d1
  have H1 := Lib.hid (show ∀ W, D W → Calls Tryz.prog 19 #[.slice (some ⟨gx, ox, none⟩) (m + 1) cx, .func (.func 20) #[] #[]] W fun e w' => e = .returned (.bool true) ∧ D w' from fun W hW => by
    have h2 := asc_any W _ ch (hx.stay0 (HD.out _ hW)) (by rw [hk.len]; exact hml)
    rw [hsc] at h2
    exact h2.mono fun e w' ⟨h3, h4⟩ => ⟨h3, HDm.out _ ((HD.out _ hW).trans h4)⟩)
  haveI : Nonempty (InC D) := ⟨⟨_, HN0.out⟩⟩
  have HGL := Lib.hid (show (Op.bytesLess kg kl || kg == kl) = true by rw [leq_not, hall]; rfl)
  have him : (i : Int) ≤ 1000000 := by omega
  have hin : (i : Int) < n := by omega
  have hnm : (n : Int) ≤ 1000000 := by omega
  have hmm : (m : Int) ≤ 1000000 := by omega
  have hm0 : ((m : Int) + 1 == 0) = false := beq_eq_false_iff_ne.2 (by omega)
  clear hk hx h hsc hpc hf0 hlk hkl hall he0 hk0 he1 hk1 hcx d0 d1 hp1
  go_enter Tryz.func79, Tryz.ntmps79
  go_wp2
  refine wp_region_class D HN0.out (by kernel_rfl) (by kernel_rfl) ?_
  repeat (go_big_quiet_step ((first
    | with_reducible exact calls_class H1.out)))
  refine wpQuiet_nil ?_
  rintro W ⟨iw, rfl⟩
  have hst := HD.out _ iw.h
  clear k1 k2 k3
  generalize iw.w = w9 at *
  have HS9 := Lib.hid hst
  have c1 := hst.cell HHP.out (fun x => x)
  have c2 := hst.cell HLK.out (fun x => x)
  have c3 := hst.cell HDD.out (fun x => x)
  clear hst
  by_cases hin2 : i + 1 < n
  · obtain ⟨hn1, hn2⟩ := HNX.out hin2
    have c4 := HS9.out.cell hn1 (fun x => x)
    obtain ⟨kn, hkn⟩ : ∃ kn, kn = keyAt L ((i + 1) * p) := ⟨_, rfl⟩
    rw [← hkn] at c4 hn2
    have hgn : Op.bytesLess kg kn = true := by rw [Me.less_eq]; exact hn2
    clear hn1 hn2 hkn
    go_wp2
    rw [HGL.out]
    go_ret
    exact ⟨rfl, HS9.out⟩
  · go_wp2
    rw [HGL.out]
    go_ret
    exact ⟨rfl, HS9.out⟩

theorem chunk_norm {L : List En} {p i : Nat} (h : ∀ e ∈ L, norm e = e) : ∀ e ∈ chunk L p i, norm e = e := fun e he => h e (List.mem_of_mem_drop (List.mem_of_mem_take he))
theorem open_seal (b : List UInt8) : Hn.openB (Hn.sealB b) = .ok b := by
  have hn : (Hn.sealB b).length = b.length + 4 := Hn.length_sealB b
  rw [Hn.open_form hn]
  unfold Hn.sealB
  rw [List.drop_left' rfl, List.take_left' rfl, if_pos rfl]

set_option maxHeartbeats 4000000 in
theorem part_any (w : World) (t p q i : Nat) (L : List En) (h : TAt w t L p q) (hi : i < cN L.length p) :
    Calls Tryz.prog 38 #[.pointer (some ⟨t, 0, none⟩), .int .i64 (i : Int)] w fun e w' => (∃ v, e = .returned (.tuple #[v, .nilIface]) ∧ EnO w.heap.size w' v (chunk L p i)) ∧ Stay (fun _ => False) w w' := by
  have HT := Lib.hid h
  obtain ⟨g, c, hcb, hp1, hpc⟩ := h.parts
  obtain ⟨_, x, hx1, hx2⟩ := hpc i hi
  have hpl := length_partB (chunk L p i)
  have hsc := size_chunk L p i
  have hlc := length_chunk L p i
  have hsz := h.sz
  have hn2 := h.n2
  have HI := Lib.hid hi
  obtain ⟨ch, hch⟩ : ∃ ch, ch = chunk L p i := ⟨_, rfl⟩
  rw [← hch] at hx2 hpl hsc hlc ⊢
  obtain ⟨T, hT⟩ : ∃ T, T = spellB ch.length ++ rowsB ch := ⟨_, rfl⟩
  obtain ⟨B, hB⟩ : ∃ B, B = partB ch := ⟨_, rfl⟩
  rw [← hB] at hx2 hpl
  have HOP := Lib.hid (Hn.open_any x B w hx2 (by omega))
  have HOE := Lib.hid (show Hn.openB B = .ok T by rw [hB, hT]; exact open_seal _)
  have HCE := Lib.hid hch
  have HTK := Lib.hid (show ∀ W y, Slc W y T → Calls Tryz.prog 78 #[y] W fun e w' => (∃ v, e = .returned (.tuple #[v, .nilIface]) ∧ EnO W.heap.size w' v ch) ∧ Stay (fun _ => False) W w' from fun W y hy =>
    take_any W y ch (hT ▸ hy) (by omega) (by omega) (by rw [hch]; exact chunk_norm h.nrm))
  clear hch hT hB
  obtain ⟨n, hn⟩ : ∃ n, n = cN L.length p := ⟨_, rfl⟩
  rw [← hn] at hp1 hcb hi
  have hin : (i : Int) < n := by omega
  have him : (i : Int) ≤ 1000000 := by omega
  have hnm : (n : Int) ≤ 1000000 := by omega
  clear hn h hpc hx2 hpl hsc hlc hsz
  go_enter Tryz.func38, Tryz.ntmps38
  go_wp2_with fail
  refine HOP.out.mono ?_
  rintro e w1 ⟨hret, hs1⟩
  rw [HOE.out] at hret
  obtain ⟨v1, rfl, ho1⟩ := hret
  obtain ⟨a1, c1, rfl⟩ := ho1.form
  have HSL := Lib.hid ho1.slc
  have HS1 := Lib.hid hs1
  clear ho1 hs1 HOP HOE
  go_wp2_with fail
  refine (HTK.out w1 _ HSL.out).mono ?_
  rintro e w2 ⟨⟨v2, rfl, ho2⟩, hs2⟩
  have HO2 := Lib.hid ho2
  have HS2 := Lib.hid (HS1.out.trans hs2)
  clear ho2 hs2 HTK
  go_wp2_with fail
  refine (fits_any w2 t p q i L v2 (HT.out.stay0 HS2.out) HI.out (HCE.out ▸ HO2.out.ens)).mono ?_
  rintro e w3 ⟨rfl, hs3⟩
  have HO3 := Lib.hid (HO2.out.stay0 hs3)
  have HS3 := Lib.hid (HS2.out.trans hs3)
  have hz1 := HS1.out.size
  clear hs3 HO2
  go_wp2
  go_ret2
  exact ⟨⟨_, rfl, HO3.out.rebase (fun j hj => by have := (HO3.out.lt j hj).1; omega)⟩, HS3.out⟩
end Go.Proofs.YtahfgoafiepioaaGreatDoor.Tb
