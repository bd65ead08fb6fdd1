import Derived.Test.YtgchdgdhjafdbaaDoorPkB
import Derived.Deep.Slices
import Derived.SizedLaws
import Derived.ProofKit
import Derived.Test.YtgchdgdhjafdbaaDoorBoW
import Derived.Test.YtgchdgdhjafdbaaDoorBoV
import Derived.Test.YtgchdgdhjafdbaaDoorErrPk
import Derived.Test.YtgchdgdhjafdbaaDoorHeldS
import Derived.Test.YtgchdgdhjafdbaaDoorDeNar
import Derived.Test.YtgchdgdhjafdbaaDoorPkF
import Derived.Test.YtgchdgdhjafdbaaDoorBoP
import Derived.Lib.SmallJoins
/-
  Bytes that come in as an argument: as a slice that reads as bytes; how long they are at most.
-/
namespace Go.Proofs.YtgchdgdhjafdbaaDoor.Pk
open Go.ChangeShapes Go.WideShapes Go.ChangeAt Go.RowKit Go.Deep
set_option maxRecDepth 100000

theorem cells5 : Tryd.prog.cellsOf 5 = 1 := by kernel_rfl
theorem bytes5 : Tryd.prog.bytesOf 5 = 1 := by kernel_rfl

theorem byte_of_wf {x : Int} (h : (Lit.int .u8 x).wf = true) : ∃ b : UInt8, Value.int .u8 x = byteV b := by
  have e1 : IntKind.u8.min = 0 := by decide
  have e2 : IntKind.u8.max = 255 := by decide
  simp only [Lit.wf, e1, e2, Bool.and_eq_true, decide_eq_true_eq] at h
  refine ⟨UInt8.ofNat x.toNat, ?_⟩
  have e3 : (UInt8.ofNat x.toNat).toNat = x.toNat := by simp; omega
  unfold byteV
  rw [e3]
  congr 1
  omega

section
variable {H : Type} {enc : TypeId × Value → H}

theorem open_slc {w : World} {d : DataW H} {p : List MemPlace} {a0 : Option Addr} {n c : Nat} (h : DataW.Trod enc Tryd.prog w 0 (fun _ => true) true 25 (.slice a0 n c) d p) :
    ∃ l : List UInt8, n = l.length ∧ Slc w (.slice a0 n c) l ∧ (0 < l.length → ∃ e s : List (DataW H), d = .slice e s ∧ e.length = l.length) := by
  obtain ⟨fuel, hf⟩ := h
  have hf' : DataW.trod enc Tryd.prog w 0 (fun _ => true) true fuel 25 [.slice a0 n c] = some (d, p) := hf
  rcases open_slice1 Tryd.underlying25 cells5 hf' with ⟨h0, _⟩ | ⟨a, len, cap, m, k, V, D, Pl, h0, _, hl, hm, hmm, hd, hx⟩
  · simp at h0
    obtain ⟨rfl, rfl, rfl⟩ := h0
    exact ⟨[], rfl, ⟨none, 0, rfl, fun h => by simp at h, fun _ => rfl, Nat.le_refl _, by decide⟩, fun h => by simp at h⟩
  · simp at h0
    obtain ⟨rfl, rfl, rfl⟩ := h0
    simp only [if_true] at hmm
    subst hmm
    obtain ⟨B, hB⟩ := choose_lt (α := UInt8) (p := fun i b => V i = byteV b) (fun i hi => by
      obtain ⟨x, h1, _, h3⟩ := DataW.trod_int Tryd.underlying5 (hx i hi).2
      obtain ⟨b, hb⟩ := byte_of_wf h3
      exact ⟨b, by rw [← hb]; simpa using h1⟩)
    have hln : ((List.range n).map B).length = n := by simp
    unfold maxLen at hm
    refine ⟨(List.range n).map B, hln.symm, ⟨some a, _, by rw [hln], fun h0 => ⟨a, rfl, fun j v hv => ?_⟩, (fun h => by cases h), by rw [hln]; exact hl, by omega⟩, fun _ => ?_⟩
    · have hj : j < n := by
        have := (List.getElem?_eq_some_iff.1 hv).1
        rwa [length_cellsB, hln] at this
      rw [(hx j (by omega)).1, hB j (by omega)]
      simp [cellsB, hj] at hv
      rw [← hv]
    · cases hd
      exact ⟨_, _, rfl, by rw [hln]; simp⟩

/-- An argument of bytes takes at most 2^47 of them. -/
theorem len_slc {ts : List TypeId} {ds : List (DataW H)} (hsz : (DataW.weightsEach Tryd.prog ts ds).all (· ≤ reachBytes) = true) {j : Nat} {d : DataW H} {l : List UInt8} (ht : ts[j]? = some 25) (hd : ds[j]? = some d)
    (hl : 0 < l.length → ∃ e s : List (DataW H), d = .slice e s ∧ e.length = l.length) : l.length ≤ 140737488355328 := by
  rcases Nat.eq_zero_or_pos l.length with h0 | h0
  · omega
  · obtain ⟨e, s, rfl, he⟩ := hl h0
    have h1 := sized_slice hsz ht hd Tryd.underlying25
    have h2 := reachBytes_lt
    rw [bytes5] at h1
    omega
end

end Go.Proofs.YtgchdgdhjafdbaaDoor.Pk

/-
  bloom's laws: numbers compared; the document's filter in a block; the numbers of errors.
-/
namespace Go.Proofs.YtgchdgdhjafdbaaDoor.Bo
open Go.RowKit Pk
set_option maxRecDepth 100000

theorem ints_any (w : World) (x y : Value) (L : List Nat) (b1 b2 : Nat) (hx : IO b1 w x L) (hy : IO b2 w y L) (hl : L.length ≤ 65535) :
    Calls Tryd.prog 18 #[x, y] w fun e w' => e = .returned (.bool true) ∧ Stay (fun _ => False) w w' := by
  obtain ⟨xa, xc, rfl⟩ := hx.form
  obtain ⟨ya, yc, rfl⟩ := hy.form
  obtain ⟨q, hq⟩ : ∃ q, q = L.length := ⟨_, rfl⟩
  rw [← hq] at hx hy hl ⊢
  have HX := Lib.hid hx
  have HY := Lib.hid hy
  have HQ := Lib.hid hq
  clear hx hy hq
  go_enter Tryd.func18, Tryd.ntmps18
  go_wp2
  go_loopw [5] (fun i wr => ∃ j : Nat, j ≤ q ∧ i = .int .i64 (j : Int) ∧ Stay (fun _ => False) w wr) (fun i _ => q - (intOf i).toNat)
  case atStart => exact ⟨0, Nat.zero_le _, rfl, Stay.refl _ _⟩
  case round =>
    obtain ⟨j, hj, rfl, hst⟩ := hrel
    have HST := Lib.hid hst
    clear hst
    by_cases hlt : j < q
    · obtain ⟨n, hn⟩ : ∃ n, L[j]? = some n := ⟨_, List.getElem?_eq_getElem (by rw [← HQ.out]; exact hlt)⟩
      obtain ⟨gx, xc', e, _, _⟩ := row_at HX.out (by rw [← HQ.out]; omega)
      rw [← HQ.out] at e
      cases e
      obtain ⟨gy, yc', e, _, _⟩ := row_at HY.out (by rw [← HQ.out]; omega)
      rw [← HQ.out] at e
      cases e
      have cx := IO.cell' HQ.out (HX.out.stay0 HST.out) hn
      have cy := IO.cell' HQ.out (HY.out.stay0 HST.out) hn
      clear hn
      go_wp2
      go_region
      have HSD := Lib.hid (HST.out.trans (Stay.drew (X := fun _ => False) (w := wr)))
      generalize wr.drew = wd at *
      go_wp2
      exact ⟨⟨j + 1, hlt, by go_num, HSD.out⟩, by simp [intOf]; omega⟩
    · obtain rfl : j = q := by omega
      go_wp2
      go_ret
      exact ⟨rfl, HST.out⟩

/-- The document's filter in a block. -/
def RfAt (w : World) (g q : Nat) (v : Value) : Prop := w.heap[g]? = some (.cells #[.int .i64 (q : Int), v] 33 (0, 0))
theorem RfAt.lt {w : World} {g q : Nat} {v : Value} (h : RfAt w g q v) : g < w.heap.size := lt_of_block h
theorem RfAt.stay {X : Nat → Prop} {w w' : World} {g q : Nat} {v : Value} (h : RfAt w g q v) (hs : Stay X w w') (hx : ¬ X g) : RfAt w' g q v := (hs.block g h.lt hx).trans h
theorem RfAt.stay0 {w w' : World} {g q : Nat} {v : Value} (h : RfAt w g q v) (hs : Stay (fun _ => False) w w') : RfAt w' g q v := h.stay hs (fun x => x)
theorem info_rf : (Tryd.prog.info? 33).map (·.size) = some 2 := by kernel_rfl
theorem RfAt.run {w : World} {g q : Nat} {v : Value} (h : RfAt w g q v) : (loadVar 33 ⟨g, 0, none⟩).run Tryd.prog w = .ok (.agg #[.int .i64 (q : Int), v]) w :=
  run_loadVar_mid (P := Tryd.prog) w g 0 33 33 #[.int .i64 (q : Int), v] #[.int .i64 (q : Int), v] (0, 0) _ h Tryd.underlying33 rfl info_rf (fun j hj => by rw [Nat.zero_add])

theorem num_of (c : Nat) (w : World) (hg : ErrCell w) (v : Value) (hv : v = if c = 0 then .nilIface else .iface 55 (.int .i64 (c : Int))) : Calls Tryd.prog 10 #[v] w fun e w' => e = .returned (.int .i64 (c : Int)) ∧ Stay (fun _ => False) w w' := num_any c w hg v hv

end Go.Proofs.YtgchdgdhjafdbaaDoor.Bo

/-
  BloomReads' walk.
-/
namespace Go.Proofs.YtgchdgdhjafdbaaDoor.Bo
open Go.RowKit Pk
set_option maxRecDepth 100000

theorem full_st (w : World) (p g q : Nat) (B : List Bool) (h : FAt w p g q B) :
    Calls Tryd.prog 15 #[.pointer (some ⟨p, 0, none⟩)] w fun e w' => e = .returned (.int .i64 (fullB B : Nat)) ∧ Stay (fun _ => False) w w' :=
  (full_any w p g q B h).mono fun _ _ ⟨h1, h2⟩ => ⟨h1, h2 ▸ Stay.refl _ _⟩

set_option maxHeartbeats 4000000 in
theorem reads_walk (w : World) (x : Value) (b : List UInt8) (hg : ErrCell w) (hx : Slc w x b) (hlen : b.length ≤ 140737488355328) :
    Calls Tryd.prog 5 #[x] w fun e w' => e = .returned (.bool true) ∧ Stay (fun _ => False) w w' := by
  have HX0 := Lib.hid hx
  have HG := Lib.hid hg
  obtain ⟨xa, xc, rfl, _⟩ := hx
  clear hg
  go_enter Tryd.func5, Tryd.ntmps5
  go_wp2_with fail
  refine (decode_any w _ b HX0.out hlen).mono ?_
  rintro e w1 ⟨hr1, hs1⟩
  unfold DecRet at hr1
  by_cases hgood : goodB b = true
  · rw [if_pos hgood] at hr1
    obtain ⟨p, g, rfl, hp, hg2, hf⟩ := hr1
    have hgd := good_of hgood
    have HENC := Lib.hid (show encB (decK b).1 (decBits b) = b from hgd.enc)
    have HLO := Lib.hid (show 1 ≤ (decBits b).length by rw [decBits_len]; exact hgd.n1)
    have HHI := Lib.hid (show (decBits b).length ≤ 1048576 by rw [decBits_len]; exact Good.nle)
    have HGO := Lib.hid hgood
    clear hgd hgood
    go_wp2_with fail
    refine (rdecode_any w1 _ b (HX0.out.stay0 hs1) hlen).mono ?_
    rintro e w2 ⟨hr2, hs2⟩
    unfold RDecRet at hr2
    rw [if_pos HGO.out] at hr2
    obtain ⟨u, rfl, hto⟩ := hr2
    obtain ⟨ua, uc, rfl⟩ := hto.form
    generalize decBits b = B at *
    generalize (decK b).1 = k at *
    unfold RV
    obtain ⟨m, hm⟩ : ∃ m, m = B.length := ⟨_, rfl⟩
    rw [← hm] at hto ⊢
    have hz2 := hs2.size
    have hp2 := hf.plt
    have hg3 := hf.glt
    obtain ⟨wz, hwz⟩ : ∃ wz, wz = w2.alloc (.cells #[.int .i64 (k : Int), .slice ua m uc] 33) := ⟨_, rfl⟩
    obtain ⟨gr, hgr⟩ : ∃ gr, gr = w2.heap.size := ⟨_, rfl⟩
    have hsz : Stay (fun _ => False) w2 wz := hwz ▸ Stay.alloc _ _
    have HSZ := Lib.hid (show Stay (fun _ => False) w wz from (hs1.trans hs2).trans hsz)
    have HF := Lib.hid (hf.stay0 (hs2.trans hsz))
    have HTO := Lib.hid (hto.stay0 hsz)
    have HRF := Lib.hid (show RfAt wz gr k (.slice ua m uc) by rw [hwz, hgr]; exact heap_alloc_new w2 _)
    have HX := Lib.hid (HX0.out.stay0 HSZ.out)
    have HG2 := Lib.hid (ErrCell.stay0 HG.out HSZ.out)
    have HWZ := Lib.hid hwz
    have HGR := Lib.hid hgr
    clear hs1 hs2 hsz hf hto hwz hgr hz2 hp2 hg3 hm
    go_wp2_with fail
    rw [← HWZ.out, ← HGR.out]
    refine (num_of 0 wz HG2.out _ rfl).mono ?_
    rintro e w3 ⟨rfl, hs3⟩
    have HF := Lib.hid (HF.out.stay0 hs3)
    have HTO := Lib.hid (HTO.out.stay0 hs3)
    have HRF := Lib.hid (HRF.out.stay0 hs3)
    have HX := Lib.hid (HX.out.stay0 hs3)
    have HSZ := Lib.hid (HSZ.out.trans hs3)
    clear hs3 HG2 HG HX0 HWZ
    generalize w3 = wz at *
    go_wp2
    refine wp_region_held (S := Stay (fun _ => False) wz.drew) (by kernel_rfl) ?_
    change wpAnyH _ _ _ _ _ _ _ _ (World.drew _)
    have hst : Stay (fun _ => False) wz wz.drew := Stay.drew
    refine wpAnyH_takeL (i := 0) (v := .int .i64 0) #[true, false, false, false, false, false, false, false, false, false, false, false, false, false, false, false, false, false, false, false, false] rfl (by kernel_rfl) (by kernel_rfl) (by kernel_rfl) (fun _ _ _ h => h) (by kernel_rfl) (Stay.refl _ _) (Or.inl ⟨by rfl, fun W hW => ?_⟩) ?_
    · go_simp
    conv => arg 8; simp [Act.put]
    refine wpAnyH_takeL (i := 1) (v := .bool false) #[true, true, false, false, false, false, false, false, false, false, false, false, false, false, false, false, false, false, false, false, false] rfl (by kernel_rfl) (by kernel_rfl) (by kernel_rfl) (fun _ _ _ h => h) (by kernel_rfl) (Stay.refl _ _) (Or.inl ⟨by rfl, fun W hW => ?_⟩) ?_
    · go_simp
    conv => arg 8; simp [Act.put]
    refine wpAnyH_takeL (i := 2) (v := .bool false) #[true, true, true, false, false, false, false, false, false, false, false, false, false, false, false, false, false, false, false, false, false] rfl (by kernel_rfl) (by kernel_rfl) (by kernel_rfl) (fun _ _ _ h => h) (by kernel_rfl) (Stay.refl _ _) (Or.inl ⟨by rfl, fun W hW => ?_⟩) ?_
    · go_simp
    conv => arg 8; simp [Act.put]
    refine wpAnyH_takeL (i := 3) (v := .pointer (some ⟨p, 0, none⟩)) #[true, true, true, true, false, false, false, false, false, false, false, false, false, false, false, false, false, false, false, false, false] rfl (by kernel_rfl) (by kernel_rfl) (by kernel_rfl) (fun _ _ _ h => h) (by kernel_rfl) (Stay.refl _ _) (Or.inl ⟨by rfl, fun W hW => ?_⟩) ?_
    · go_simp
    conv => arg 8; simp [Act.put]
    refine wpAnyH_takeL (i := 6) (v := .slice xa b.length xc) #[true, true, true, true, false, false, true, false, false, false, false, false, false, false, false, false, false, false, false, false, false] rfl (by kernel_rfl) (by kernel_rfl) (by kernel_rfl) (fun _ _ _ h => h) (by kernel_rfl) (Stay.refl _ _) (Or.inl ⟨by rfl, fun W hW => ?_⟩) ?_
    · go_simp
    conv => arg 8; simp [Act.put]
    refine wpAnyH_takeL (i := 7) (v := .string ⟨b.toArray⟩) #[true, true, true, true, false, false, true, true, false, false, false, false, false, false, false, false, false, false, false, false, false] rfl (by kernel_rfl) (by kernel_rfl) (by kernel_rfl) (fun _ _ _ h => h) (by kernel_rfl) (Stay.refl _ _) (Or.inl ⟨by rfl, fun W hW => ?_⟩) ?_
    · have cv := conv_slc (HX.out.stay0 (hst.trans hW))
      unfold strV at cv
      go_simp
    conv => arg 8; simp [Act.put]
    refine wpAnyH_one #[true, true, true, true, true, false, true, true, false, false, false, false, false, false, false, false, false, false, false, false, false] (i := 4) rfl (by kernel_rfl) (by kernel_rfl) (fun K hK => ?_)
    go_simp
    go_wp2_with (go_at_call 11; refine (encode_any wz.drew p g _ _ (HF.out.stay0 hst)).mono ?_; rintro e z1 ⟨x5, rfl, how5, s⟩; rw [HENC.out] at how5; obtain ⟨a5, c5, rfl⟩ := how5.form; have HO5 := Lib.hid how5.slc; clear how5)
    replace hst := hst.trans s
    refine hK _ _ s ?_
    clear hK
    conv => arg 8; simp [Act.put]
    refine wpAnyH_narrow (S' := Stay (fun _ => False) z1) (fun _ h => s.trans h) _ _ _ _ ?_
    clear s
    refine wpAnyH_takeL (i := 5) (v := .string ⟨b.toArray⟩) #[true, true, true, true, true, true, true, true, false, false, false, false, false, false, false, false, false, false, false, false, false] rfl (by kernel_rfl) (by kernel_rfl) (by kernel_rfl) (fun _ _ _ h => h) (by kernel_rfl) (Stay.refl _ _) (Or.inl ⟨by rfl, fun W hW => ?_⟩) ?_
    · have cv := conv_slc (HO5.out.stay0 hW)
      unfold strV at cv
      go_simp
    conv => arg 8; simp [Act.put]
    refine wpAnyH_takeL (i := 8) (v := .bool true) #[true, true, true, true, true, true, true, true, true, false, false, false, false, false, false, false, false, false, false, false, false] rfl (by kernel_rfl) (by kernel_rfl) (by kernel_rfl) (fun _ _ _ h => h) (by kernel_rfl) (Stay.refl _ _) (Or.inl ⟨by rfl, fun W hW => ?_⟩) ?_
    · go_simp
    conv => arg 8; simp [Act.put]
    refine wpAnyH_takeL (i := 9) (v := .bool true) #[true, true, true, true, true, true, true, true, true, true, false, false, false, false, false, false, false, false, false, false, false] rfl (by kernel_rfl) (by kernel_rfl) (by kernel_rfl) (fun _ _ _ h => h) (by kernel_rfl) (Stay.refl _ _) (Or.inl ⟨by rfl, fun W hW => ?_⟩) ?_
    · go_simp
    conv => arg 8; simp [Act.put]
    refine wpAnyH_takeL (i := 10) (v := .pointer (some ⟨p, 0, none⟩)) #[true, true, true, true, true, true, true, true, true, true, true, false, false, false, false, false, false, false, false, false, false] rfl (by kernel_rfl) (by kernel_rfl) (by kernel_rfl) (fun _ _ _ h => h) (by kernel_rfl) (Stay.refl _ _) (Or.inl ⟨by rfl, fun W hW => ?_⟩) ?_
    · go_simp
    conv => arg 8; simp [Act.put]
    refine wpAnyH_takeL (i := 12) #[true, true, true, true, true, true, true, true, true, true, true, false, true, false, false, false, false, false, false, false, false] rfl (by kernel_rfl) (by kernel_rfl) (by kernel_rfl) (fun _ _ _ h => h) (by kernel_rfl) (Stay.refl _ _) (yieldsIf_load rfl 33 (.tmp 5) rfl ⟨gr, 0, none⟩ rfl _ (fun W hW => (HRF.out.stay0 (hst.trans hW)).run)) ?_
    conv => arg 8; simp [Act.put]
    refine wpAnyH_one #[true, true, true, true, true, true, true, true, true, true, true, true, true, false, false, false, false, false, false, false, false] (i := 11) rfl (by kernel_rfl) (by kernel_rfl) (fun K hK => ?_)
    go_simp
    go_wp2_with (go_at_call 15; refine (full_st z1 p g _ _ (HF.out.stay0 hst)).mono ?_; rintro e z2 ⟨rfl, s⟩)
    replace hst := hst.trans s
    refine hK _ _ s ?_
    clear hK
    conv => arg 8; simp [Act.put]
    refine wpAnyH_narrow (S' := Stay (fun _ => False) z2) (fun _ h => s.trans h) _ _ _ _ ?_
    clear s
    refine wpAnyH_one #[true, true, true, true, true, true, true, true, true, true, true, true, true, true, false, false, false, false, false, false, false] (i := 13) rfl (by kernel_rfl) (by kernel_rfl) (fun K hK => ?_)
    go_simp
    go_wp2_with (go_at_call 22; refine (rfull_any z2 _ _ _ _ (HTO.out.stay0 hst) HLO.out HHI.out).mono ?_; rintro e z3 ⟨rfl, s⟩)
    replace hst := hst.trans s
    refine hK _ _ s ?_
    clear hK
    conv => arg 8; simp [Act.put]
    refine wpAnyH_narrow (S' := Stay (fun _ => False) z3) (fun _ h => s.trans h) _ _ _ _ ?_
    clear s
    refine wpAnyH_takeL (i := 14) (v := .bool true) #[true, true, true, true, true, true, true, true, true, true, true, true, true, true, true, false, false, false, false, false, false] rfl (by kernel_rfl) (by kernel_rfl) (by kernel_rfl) (fun _ _ _ h => h) (by kernel_rfl) (Stay.refl _ _) (Or.inl ⟨by rfl, fun W hW => ?_⟩) ?_
    · go_simp
    conv => arg 8; simp [Act.put]
    refine wpAnyH_takeL (i := 15) (v := .bool true) #[true, true, true, true, true, true, true, true, true, true, true, true, true, true, true, true, false, false, false, false, false] rfl (by kernel_rfl) (by kernel_rfl) (by kernel_rfl) (fun _ _ _ h => h) (by kernel_rfl) (Stay.refl _ _) (Or.inl ⟨by rfl, fun W hW => ?_⟩) ?_
    · go_simp
    conv => arg 8; simp [Act.put]
    refine wpAnyH_takeL (i := 16) (v := .bool true) #[true, true, true, true, true, true, true, true, true, true, true, true, true, true, true, true, true, false, false, false, false] rfl (by kernel_rfl) (by kernel_rfl) (by kernel_rfl) (fun _ _ _ h => h) (by kernel_rfl) (Stay.refl _ _) (Or.inl ⟨by rfl, fun W hW => ?_⟩) ?_
    · go_simp
    conv => arg 8; simp [Act.put]
    refine wpAnyH_takeL (i := 17) (v := .bool true) #[true, true, true, true, true, true, true, true, true, true, true, true, true, true, true, true, true, true, false, false, false] rfl (by kernel_rfl) (by kernel_rfl) (by kernel_rfl) (fun _ _ _ h => h) (by kernel_rfl) (Stay.refl _ _) (Or.inl ⟨by rfl, fun W hW => ?_⟩) ?_
    · go_simp
    conv => arg 8; simp [Act.put]
    refine wpAnyH_one #[true, true, true, true, true, true, true, true, true, true, true, true, true, true, true, true, true, true, true, false, false] (i := 18) rfl (by kernel_rfl) (by kernel_rfl) (fun K hK => ?_)
    go_simp
    go_wp2_with (go_at_call 17; refine (sure_any z3).mono ?_; rintro e z4 ⟨rfl, s⟩)
    replace hst := hst.trans s
    refine hK _ _ s ?_
    clear hK
    conv => arg 8; simp [Act.put]
    refine wpAnyH_narrow (S' := Stay (fun _ => False) z4) (fun _ h => s.trans h) _ _ _ _ ?_
    clear s
    refine wpAnyH_takeL (i := 19) (v := .bool true) #[true, true, true, true, true, true, true, true, true, true, true, true, true, true, true, true, true, true, true, true, false] rfl (by kernel_rfl) (by kernel_rfl) (by kernel_rfl) (fun _ _ _ h => h) (by kernel_rfl) (Stay.refl _ _) (Or.inl ⟨by rfl, fun W hW => ?_⟩) ?_
    · go_simp
    conv => arg 8; simp [Act.put]
    refine wpAnyH_takeL (i := 20) (v := .bool true) #[true, true, true, true, true, true, true, true, true, true, true, true, true, true, true, true, true, true, true, true, true] rfl (by kernel_rfl) (by kernel_rfl) (by kernel_rfl) (fun _ _ _ h => h) (by kernel_rfl) (Stay.refl _ _) (Or.inl ⟨by rfl, fun W hW => ?_⟩) ?_
    · go_simp
    conv => arg 8; simp [Act.put]
    refine wpAnyH_done (by kernel_rfl) ?_ _
    go_wp2
    go_ret
    exact ⟨rfl, HSZ.out.trans hst⟩
  · have HGO := Lib.hid hgood
    rw [if_neg hgood] at hr1
    subst hr1
    clear hgood
    go_wp2_with fail
    refine (rdecode_any w1 _ b (HX0.out.stay0 hs1) hlen).mono ?_
    rintro e w2 ⟨hr2, hs2⟩
    unfold RDecRet at hr2
    rw [if_neg HGO.out] at hr2
    subst hr2
    unfold RV
    obtain ⟨wz, hwz⟩ : ∃ wz, wz = w2.alloc (.cells #[.int .i64 0, .slice none 0 0] 33) := ⟨_, rfl⟩
    have HSZ := Lib.hid (show Stay (fun _ => False) w wz from (hs1.trans hs2).trans (hwz ▸ Stay.alloc _ _))
    have HG2 := Lib.hid (ErrCell.stay0 HG.out HSZ.out)
    have HWZ := Lib.hid hwz
    clear hs1 hs2 hwz
    unfold Hn.errI
    go_wp2_with fail
    rw [← HWZ.out]
    refine (num_of 3 wz HG2.out _ rfl).mono ?_
    rintro e w3 ⟨rfl, hs3⟩
    have HSZ := Lib.hid (HSZ.out.trans hs3)
    clear hs3 HG2 HG HX0 HWZ
    generalize w3 = wz at *
    go_wp2
    refine wp_region_held (S := Stay (fun _ => False) wz.drew) (by kernel_rfl) ?_
    change wpAnyH _ _ _ _ _ _ _ _ (World.drew _)
    have hst : Stay (fun _ => False) wz wz.drew := Stay.drew
    refine wpAnyH_takeL (i := 0) (v := .int .i64 3) #[true, false, false, false, false, false, false, false, false, false, false, false, false, false, false, false, false, false, false, false, false] rfl (by kernel_rfl) (by kernel_rfl) (by kernel_rfl) (fun _ _ _ h => h) (by kernel_rfl) (Stay.refl _ _) (Or.inl ⟨by rfl, fun W hW => ?_⟩) ?_
    · go_simp
    conv => arg 8; simp [Act.put]
    refine wpAnyH_takeL (i := 1) (v := .bool true) #[true, true, false, false, false, false, false, false, false, false, false, false, false, false, false, false, false, false, false, false, false] rfl (by kernel_rfl) (by kernel_rfl) (by kernel_rfl) (fun _ _ _ h => h) (by kernel_rfl) (Stay.refl _ _) (Or.inl ⟨by rfl, fun W hW => ?_⟩) ?_
    · go_simp
    conv => arg 8; simp [Act.put]
    refine wpAnyH_takeL (i := 2) (v := .bool true) #[true, true, true, false, false, false, false, false, false, false, false, false, false, false, false, false, false, false, false, false, false] rfl (by kernel_rfl) (by kernel_rfl) (by kernel_rfl) (fun _ _ _ h => h) (by kernel_rfl) (Stay.refl _ _) (Or.inl ⟨by rfl, fun W hW => ?_⟩) ?_
    · go_simp
    conv => arg 8; simp [Act.put]
    refine wpAnyH_takeL (i := 3) (v := undef) #[true, true, true, true, false, false, false, false, false, false, false, false, false, false, false, false, false, false, false, false, false] rfl (by kernel_rfl) (by kernel_rfl) (by kernel_rfl) (fun _ _ _ h => h) (by kernel_rfl) (Stay.refl _ _) (Or.inr ⟨by rfl, rfl⟩) ?_
    conv => arg 8; simp [Act.put]
    refine wpAnyH_takeL (i := 6) (v := undef) #[true, true, true, true, false, false, true, false, false, false, false, false, false, false, false, false, false, false, false, false, false] rfl (by kernel_rfl) (by kernel_rfl) (by kernel_rfl) (fun _ _ _ h => h) (by kernel_rfl) (Stay.refl _ _) (Or.inr ⟨by rfl, rfl⟩) ?_
    conv => arg 8; simp [Act.put]
    refine wpAnyH_takeL (i := 4) (v := undef) #[true, true, true, true, true, false, true, false, false, false, false, false, false, false, false, false, false, false, false, false, false] rfl (by kernel_rfl) (by kernel_rfl) (by kernel_rfl) (fun _ _ _ h => h) (by kernel_rfl) (Stay.refl _ _) (Or.inr ⟨by rfl, rfl⟩) ?_
    conv => arg 8; simp [Act.put]
    refine wpAnyH_takeL (i := 5) (v := undef) #[true, true, true, true, true, true, true, false, false, false, false, false, false, false, false, false, false, false, false, false, false] rfl (by kernel_rfl) (by kernel_rfl) (by kernel_rfl) (fun _ _ _ h => h) (by kernel_rfl) (Stay.refl _ _) (Or.inr ⟨by rfl, rfl⟩) ?_
    conv => arg 8; simp [Act.put]
    refine wpAnyH_takeL (i := 7) (v := undef) #[true, true, true, true, true, true, true, true, false, false, false, false, false, false, false, false, false, false, false, false, false] rfl (by kernel_rfl) (by kernel_rfl) (by kernel_rfl) (fun _ _ _ h => h) (by kernel_rfl) (Stay.refl _ _) (Or.inr ⟨by rfl, rfl⟩) ?_
    conv => arg 8; simp [Act.put]
    refine wpAnyH_takeL (i := 8) (v := undef) #[true, true, true, true, true, true, true, true, true, false, false, false, false, false, false, false, false, false, false, false, false] rfl (by kernel_rfl) (by kernel_rfl) (by kernel_rfl) (fun _ _ _ h => h) (by kernel_rfl) (Stay.refl _ _) (Or.inr ⟨by rfl, rfl⟩) ?_
    conv => arg 8; simp [Act.put]
    refine wpAnyH_takeL (i := 9) (v := undef) #[true, true, true, true, true, true, true, true, true, true, false, false, false, false, false, false, false, false, false, false, false] rfl (by kernel_rfl) (by kernel_rfl) (by kernel_rfl) (fun _ _ _ h => h) (by kernel_rfl) (Stay.refl _ _) (Or.inr ⟨by rfl, rfl⟩) ?_
    conv => arg 8; simp [Act.put]
    refine wpAnyH_takeL (i := 10) (v := undef) #[true, true, true, true, true, true, true, true, true, true, true, false, false, false, false, false, false, false, false, false, false] rfl (by kernel_rfl) (by kernel_rfl) (by kernel_rfl) (fun _ _ _ h => h) (by kernel_rfl) (Stay.refl _ _) (Or.inr ⟨by rfl, rfl⟩) ?_
    conv => arg 8; simp [Act.put]
    refine wpAnyH_takeL (i := 11) (v := undef) #[true, true, true, true, true, true, true, true, true, true, true, true, false, false, false, false, false, false, false, false, false] rfl (by kernel_rfl) (by kernel_rfl) (by kernel_rfl) (fun _ _ _ h => h) (by kernel_rfl) (Stay.refl _ _) (Or.inr ⟨by rfl, rfl⟩) ?_
    conv => arg 8; simp [Act.put]
    refine wpAnyH_takeL (i := 12) (v := undef) #[true, true, true, true, true, true, true, true, true, true, true, true, true, false, false, false, false, false, false, false, false] rfl (by kernel_rfl) (by kernel_rfl) (by kernel_rfl) (fun _ _ _ h => h) (by kernel_rfl) (Stay.refl _ _) (Or.inr ⟨by rfl, rfl⟩) ?_
    conv => arg 8; simp [Act.put]
    refine wpAnyH_takeL (i := 13) (v := undef) #[true, true, true, true, true, true, true, true, true, true, true, true, true, true, false, false, false, false, false, false, false] rfl (by kernel_rfl) (by kernel_rfl) (by kernel_rfl) (fun _ _ _ h => h) (by kernel_rfl) (Stay.refl _ _) (Or.inr ⟨by rfl, rfl⟩) ?_
    conv => arg 8; simp [Act.put]
    refine wpAnyH_takeL (i := 14) (v := undef) #[true, true, true, true, true, true, true, true, true, true, true, true, true, true, true, false, false, false, false, false, false] rfl (by kernel_rfl) (by kernel_rfl) (by kernel_rfl) (fun _ _ _ h => h) (by kernel_rfl) (Stay.refl _ _) (Or.inr ⟨by rfl, rfl⟩) ?_
    conv => arg 8; simp [Act.put]
    refine wpAnyH_takeL (i := 15) (v := undef) #[true, true, true, true, true, true, true, true, true, true, true, true, true, true, true, true, false, false, false, false, false] rfl (by kernel_rfl) (by kernel_rfl) (by kernel_rfl) (fun _ _ _ h => h) (by kernel_rfl) (Stay.refl _ _) (Or.inr ⟨by rfl, rfl⟩) ?_
    conv => arg 8; simp [Act.put]
    refine wpAnyH_takeL (i := 16) (v := .bool true) #[true, true, true, true, true, true, true, true, true, true, true, true, true, true, true, true, true, false, false, false, false] rfl (by kernel_rfl) (by kernel_rfl) (by kernel_rfl) (fun _ _ _ h => h) (by kernel_rfl) (Stay.refl _ _) (Or.inl ⟨by rfl, fun W hW => ?_⟩) ?_
    · go_simp
    conv => arg 8; simp [Act.put]
    refine wpAnyH_takeL (i := 17) (v := .bool true) #[true, true, true, true, true, true, true, true, true, true, true, true, true, true, true, true, true, true, false, false, false] rfl (by kernel_rfl) (by kernel_rfl) (by kernel_rfl) (fun _ _ _ h => h) (by kernel_rfl) (Stay.refl _ _) (Or.inl ⟨by rfl, fun W hW => ?_⟩) ?_
    · go_simp
    conv => arg 8; simp [Act.put]
    refine wpAnyH_one #[true, true, true, true, true, true, true, true, true, true, true, true, true, true, true, true, true, true, true, false, false] (i := 18) rfl (by kernel_rfl) (by kernel_rfl) (fun K hK => ?_)
    go_simp
    go_wp2_with (go_at_call 17; refine (sure_any wz.drew).mono ?_; rintro e z1 ⟨rfl, s⟩)
    replace hst := hst.trans s
    refine hK _ _ s ?_
    clear hK
    conv => arg 8; simp [Act.put]
    refine wpAnyH_narrow (S' := Stay (fun _ => False) z1) (fun _ h => s.trans h) _ _ _ _ ?_
    clear s
    refine wpAnyH_takeL (i := 19) (v := .bool true) #[true, true, true, true, true, true, true, true, true, true, true, true, true, true, true, true, true, true, true, true, false] rfl (by kernel_rfl) (by kernel_rfl) (by kernel_rfl) (fun _ _ _ h => h) (by kernel_rfl) (Stay.refl _ _) (Or.inl ⟨by rfl, fun W hW => ?_⟩) ?_
    · go_simp
    conv => arg 8; simp [Act.put]
    refine wpAnyH_takeL (i := 20) (v := .bool true) #[true, true, true, true, true, true, true, true, true, true, true, true, true, true, true, true, true, true, true, true, true] rfl (by kernel_rfl) (by kernel_rfl) (by kernel_rfl) (fun _ _ _ h => h) (by kernel_rfl) (Stay.refl _ _) (Or.inl ⟨by rfl, fun W hW => ?_⟩) ?_
    · go_simp
    conv => arg 8; simp [Act.put]
    refine wpAnyH_done (by kernel_rfl) ?_ _
    go_wp2
    go_ret
    exact ⟨rfl, HSZ.out.trans hst⟩

end Go.Proofs.YtgchdgdhjafdbaaDoor.Bo

/-
  bloom's laws: their arguments opened: a size, a key, keys.
-/
namespace Go.Proofs.YtgchdgdhjafdbaaDoor.Bo
open Go.ChangeShapes Go.WideShapes Go.ChangeAt Go.RowKit Go.Deep Pk
set_option maxRecDepth 100000

theorem cells_size : Tryd.prog.cellsOf 23 = 2 := by kernel_rfl
theorem cells_one : Tryd.prog.cellsOf 3 = 1 := by kernel_rfl
theorem i64_of {x : Int} (h : (Lit.int .i64 x).wf = true) : -9223372036854775808 ≤ x ∧ x ≤ 9223372036854775807 := by
  have e1 : IntKind.i64.min = -9223372036854775808 := by decide
  have e2 : IntKind.i64.max = 9223372036854775807 := by decide
  simp only [Lit.wf, Bool.and_eq_true, decide_eq_true_eq] at h
  rw [e1, e2] at h
  exact h
section
variable {H : Type} {enc : TypeId × Value → H}
theorem open_size {w : World} {base b0 : Nat} {r : Reach} {v : Value} {d : DataW H} {p : List MemPlace} (hv : Value.okWide Tryd.prog w r b0 23 v) (h : DataW.Trod enc Tryd.prog w base (fun _ => true) true 23 v d p) :
    ∃ x0 x1 : Int, v = .agg #[.int .i64 x0, .int .i64 x1] ∧ (Lit.int .i64 x0).wf = true ∧ (Lit.int .i64 x1).wf = true := by
  obtain ⟨cs, rfl, hsz⟩ : ∃ cs, v = .agg cs ∧ cs.size = Tryd.prog.cellsOf 23 := by
    have := hv
    simp only [Value.okWide, Tryd.underlying23] at this
    obtain ⟨cs, e, hs, _⟩ := this
    exact ⟨cs, e, hs⟩
  rw [cells_size] at hsz
  obtain ⟨l⟩ := cs
  obtain ⟨c0, c1, rfl⟩ : ∃ a b, l = [a, b] := by
    match l, hsz with
    | [a, b], _ => exact ⟨a, b, rfl⟩
  obtain ⟨fuel, hf⟩ := h
  obtain ⟨y0, y1, m, hx, _, hy0, hy1⟩ := trod_struct2 Tryd.underlying23 hf
  obtain ⟨x0, e0, rfl, w0⟩ := DataW.trod_int Tryd.underlying3 hy0
  obtain ⟨x1, e1, rfl, w1⟩ := DataW.trod_int Tryd.underlying3 hy1
  have hc1 : Tryd.prog.cellsOf 3 = 1 := cells_one
  simp [hc1, Value.cells] at e0 e1
  exact ⟨x0, x1, by rw [e0, e1], w0, w1⟩

theorem str_is (s : ByteArray) : Value.string s = strV s.data.toList := rfl
theorem key_weight {d : DataW H} {k : List UInt8} (hd : d = .lit (.string k)) (hw : (d.weights Tryd.prog 9).all (· ≤ reachBytes) = true) : k.length ≤ 140737488351232 := by
  subst hd
  simp only [DataW.weights, List.all_cons, List.all_nil, Bool.and_true, decide_eq_true_eq] at hw
  exact hw
theorem key_cells {w : World} {fuel : Nat} {cs : List Value} {x : DataW H × List MemPlace} (h : DataW.trod enc Tryd.prog w 0 (fun _ => true) true fuel 9 cs = some x) : ∃ k : List UInt8, cs = [strV k] ∧ x.1 = .lit (.string k) ∧ k.length ≤ 9223372036854775807 := by
  obtain ⟨s, e, e2, hm⟩ := DataW.trod_string Tryd.underlying9 h
  have hl : s.data.toList.length = s.size := Array.length_toList
  exact ⟨s.data.toList, e, congrArg Prod.fst e2, by rw [hl]; unfold maxLen at hm; omega⟩
theorem open_key {w : World} {b0 : Nat} {r : Reach} {d : DataW H} {p : List MemPlace} {v : Value} (hv : Value.okWide Tryd.prog w r b0 9 v) (h : DataW.Trod enc Tryd.prog w 0 (fun _ => true) true 9 v d p) :
    ∃ k : List UInt8, v = strV k ∧ k.length ≤ 9223372036854775807 ∧ ((d.weights Tryd.prog 9).all (· ≤ reachBytes) = true → k.length ≤ 140737488351232) := by
  obtain ⟨fuel, hf⟩ := h
  obtain ⟨k, e, e2, hl⟩ := key_cells hf
  obtain ⟨s, rfl⟩ : ∃ s, v = .string s := by
    cases v <;> first | exact ⟨_, rfl⟩ | (exfalso; simp [Value.cells, strV] at e; done) | (exfalso; simp [Value.okWide, Cell.okWide, Cell.ok, Tryd.underlying9] at hv; done)
  have e3 : Value.string s = strV k := by
    have e4 : [Value.string s] = [strV k] := e
    simpa using e4
  exact ⟨k, e3, hl, key_weight e2⟩

/-- Keys: a slice of texts. -/
def Keys (w : World) (a0 : Option Addr) (ks : List (List UInt8)) : Prop :=
  ks.length ≤ 9223372036854775807 ∧ (0 < ks.length → ∃ lb lo, a0 = some ⟨lb, lo, none⟩ ∧ lb < w.heap.size ∧ ∀ i k, ks[i]? = some k → w.cell? ⟨lb, lo + i, none⟩ = some (strV k))
theorem cells_str : Tryd.prog.cellsOf 9 = 1 := by kernel_rfl
theorem weights_in {e : TypeId} {l : List (DataW H)} {d : DataW H} (hd : d ∈ l) {n : Nat} (h : (DataW.weightsAll Tryd.prog e l).all (· ≤ n) = true) : (d.weights Tryd.prog e).all (· ≤ n) = true := by
  induction l with
  | nil => cases hd
  | cons x r ih =>
    rw [DataW.weightsAll, List.all_append, Bool.and_eq_true] at h
    rcases List.mem_cons.1 hd with rfl | hd
    · exact h.1
    · exact ih hd h.2
theorem weights_each {ts : List TypeId} {ds : List (DataW H)} {n : Nat} (hsz : (DataW.weightsEach Tryd.prog ts ds).all (· ≤ n) = true) {j : Nat} {t : TypeId} {d : DataW H} (ht : ts[j]? = some t) (hd : ds[j]? = some d) : (d.weights Tryd.prog t).all (· ≤ n) = true := by
  induction ts generalizing ds j with
  | nil => simp at ht
  | cons t0 ts ih =>
    cases ds with
    | nil => simp at hd
    | cons d0 ds =>
      rw [DataW.weightsEach, List.all_append, Bool.and_eq_true] at hsz
      cases j with
      | zero =>
        simp at ht hd
        subst ht hd
        exact hsz.1
      | succ j => exact ih hsz.2 (by simpa using ht) (by simpa using hd)
theorem open_keys {w : World} {d : DataW H} {p : List MemPlace} {a0 : Option Addr} {n c : Nat} (h : DataW.Trod enc Tryd.prog w 0 (fun _ => true) true 24 (.slice a0 n c) d p) :
    ∃ ks : List (List UInt8), n = ks.length ∧ Keys w a0 ks ∧ ((d.weights Tryd.prog 24).all (· ≤ reachBytes) = true → ∀ k ∈ ks, k.length ≤ 140737488351232) := by
  obtain ⟨fuel, hf⟩ := h
  have hf' : DataW.trod enc Tryd.prog w 0 (fun _ => true) true fuel 24 [.slice a0 n c] = some (d, p) := hf
  rcases open_slice1 Tryd.underlying24 cells_str hf' with ⟨h0, _⟩ | ⟨a, len, cap, m, q, V, D, Pl, h0, _, hl, hm, hmm, hd, hx⟩
  · simp at h0
    obtain ⟨rfl, rfl, rfl⟩ := h0
    exact ⟨[], rfl, ⟨by decide, fun h => by simp at h⟩, fun _ k hk => by simp at hk⟩
  · simp at h0
    obtain ⟨rfl, rfl, rfl⟩ := h0
    simp only [if_true] at hmm
    subst hmm
    cases hd
    obtain ⟨T, hT⟩ := choose_lt (α := List UInt8) (n := n) (p := fun i t => w.cell? (a.add i) = some (strV t) ∧ D i = .lit (.string t)) (fun i hi => by
      obtain ⟨h1, h2⟩ := hx i (by omega)
      obtain ⟨k, e, e2, _⟩ := key_cells h2
      have e3 : V i = strV k := by simpa using e
      exact ⟨k, by rw [h1, e3], e2⟩)
    have hln : ((List.range n).map T).length = n := by simp
    unfold maxLen at hm
    refine ⟨(List.range n).map T, hln.symm, ⟨by rw [hln]; omega, fun h0 => ?_⟩, fun hw k hk => ?_⟩
    · rw [hln] at h0
      have h1 := (hT 0 h0).1
      have e0 : a.add 0 = a := rfl
      rw [e0] at h1
      have ha : a = ⟨a.block, a.off, none⟩ := by
        obtain ⟨b, o, sp⟩ := a
        cases sp with
        | none => rfl
        | some q =>
          have : w.cell? ⟨b, o, some q⟩ = none := by unfold World.cell?; split <;> simp
          rw [this] at h1; cases h1
      refine ⟨a.block, a.off, by rw [← ha], World.block_lt_of_cell? w a h1, fun i k hk => ?_⟩
      have hi : i < n := by
        have := (List.getElem?_eq_some_iff.1 hk).1
        rwa [hln] at this
      have hk2 : k = T i := by simpa [hi] using hk.symm
      have h2 := (hT i hi).1
      rw [ha, add_at] at h2
      rw [hk2]
      exact h2
    · obtain ⟨i, hi, rfl⟩ := List.mem_map.1 hk
      have hi := List.mem_range.1 hi
      simp only [DataW.weights, Tryd.underlying24, List.all_cons, List.all_append, Bool.and_eq_true] at hw
      exact key_weight (hT i hi).2 (weights_in (List.mem_map_of_mem (f := D) (List.mem_range.2 hi)) hw.2.1)
end
end Go.Proofs.YtgchdgdhjafdbaaDoor.Bo

/-
  BloomRuns' walk: the document's filter stored anew; single steps.
-/
namespace Go.Proofs.YtgchdgdhjafdbaaDoor.Bo
open Go.RowKit Pk
set_option maxRecDepth 100000

theorem step_load_run {P : Program} {ops : Array Oper} {Q : Exit → Act → World → Prop} {o : Oper} {a : Act} {w : World} {K : Act → World → Prop} {E : Prop} (hw : Region.wanted o (yielded ops a.tmps) = true) (ty : TypeId) (x : Operand) (ho : o.op = .load ty x) (ad : Addr) (hx : a.eval x = .pointer (some ad)) (v : Value)
    (hl : (loadVar ty ad).run P w = .ok v w) (h : K (a.put o.dst v) w) : if Region.wanted o (yielded ops a.tmps) = true then Oper.wp P o a w K Q else E := by
  rw [if_pos hw]
  unfold Oper.wp execOp
  simp only [ho, hx, Instr.loadAt, Instr.sureAddr, Sem.run_bind, Sem.run_pure, Result.andThen_ok, hl]
  exact h
theorem rf_store {w : World} {g q : Nat} {v : Value} (h : RfAt w g q v) (q' : Nat) (a : Option Addr) (n c : Nat) :
    ∃ w', (storeVar 33 ⟨g, 0, none⟩ (.agg #[.int .i64 (q' : Int), .slice a n c])).run Tryd.prog w = .ok () w' ∧ RfAt w' g q' (.slice a n c) ∧ Stay (fun i => i = g) w w' := by
  have hr := run_storeVar_mid (P := Tryd.prog) w g 0 33 33 [.int .i64 (q : Int), v] [.int .i64 (q' : Int), .slice a n c] h info_rf (Nat.le_refl _) (by intro u hu; simp at hu; rcases hu with rfl | rfl <;> rfl)
  refine ⟨_, hr, ?_, Stay.setRow w g _ rfl⟩
  unfold RfAt
  have e : splice [.int .i64 (q : Int), v] 0 [.int .i64 (q' : Int), .slice a n c] = [.int .i64 (q' : Int), .slice a n c] := rfl
  rw [e]
  simp [World.setRow, Array.getElem?_modify, RfAt] at h ⊢
  exact ⟨_, h, rfl⟩
/-- The keys' blocks. -/
theorem Keys.at {w : World} {a0 : Option Addr} {ks : List (List UInt8)} (h : Keys w a0 ks) (h0 : 0 < ks.length) : ∃ lb lo, a0 = some ⟨lb, lo, none⟩ ∧ lb < w.heap.size ∧ ∀ W X, Stay X w W → ¬ X lb → ∀ i k, ks[i]? = some k → W.cell? ⟨lb, lo + i, none⟩ = some (strV k) := by
  obtain ⟨lb, lo, e, hlt, hc⟩ := h.2 h0
  exact ⟨lb, lo, e, hlt, fun W X hs hX i k hk => hs.cell (hc i k hk) hX⟩
/-- A size in its box. -/
def SzAt (w : World) (g : Nat) (x0 x1 : Int) : Prop := w.heap[g]? = some (.cells #[.int .i64 x0, .int .i64 x1] 23 (0, 0))
theorem SzAt.stay0 {w w' : World} {g : Nat} {x0 x1 : Int} (h : SzAt w g x0 x1) (hs : Stay (fun _ => False) w w') : SzAt w' g x0 x1 := (hs.block g (lt_of_block h) (fun x => x)).trans h
theorem SzAt.c0 {w : World} {g : Nat} {x0 x1 : Int} (h : SzAt w g x0 x1) : w.cell? ⟨g, 0, none⟩ = some (.int .i64 x0) := by rw [cell_of_row w g 0 _ _ _ h]; rfl
theorem SzAt.c1 {w : World} {g : Nat} {x0 x1 : Int} (h : SzAt w g x0 x1) : w.cell? ⟨g, 1, none⟩ = some (.int .i64 x1) := by rw [cell_of_row w g 1 _ _ _ h]; rfl

end Go.Proofs.YtgchdgdhjafdbaaDoor.Bo

