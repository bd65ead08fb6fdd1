/-
  finger: spell, Of; the document's Of.
-/
import Derived.Test.YtljhfccaoncjeaaDoorFgB
namespace Go.Proofs.YtljhfccaoncjeaaDoor.Fg
open Go.RowKit Ke
set_option maxRecDepth 100000

/-- Four bytes of a sum, the highest first, noughts behind: so many of the last ones. -/
def wkB (s k : Nat) : List UInt8 := [if 4 ≤ k then UInt8.ofNat (s / 16777216) else 0, if 3 ≤ k then UInt8.ofNat (s / 65536) else 0, if 2 ≤ k then UInt8.ofNat (s / 256) else 0, if 1 ≤ k then UInt8.ofNat s else 0] ++ List.replicate 28 0
def spellB (s : Nat) : List UInt8 := [UInt8.ofNat (s / 16777216), UInt8.ofNat (s / 65536), UInt8.ofNat (s / 256), UInt8.ofNat s] ++ List.replicate 28 0
def firstB (c : UInt8) : List UInt8 := c :: List.replicate 31 0
theorem byte_of (n : Nat) : ((UInt8.ofNat n).toNat : Int) = (n : Int) % 256 := by rw [UInt8.toNat_ofNat']; omega
theorem spell_cells (s : Nat) (a b c d : Int) (ha : a = (s / 16777216 : Nat) % 256) (hb : b = (s / 65536 : Nat) % 256) (hc : c = (s / 256 : Nat) % 256) (hd : d = (s : Int) % 256) :
    Value.agg (#[.int .u8 a, .int .u8 b, .int .u8 c, .int .u8 d, .int .u8 0, .int .u8 0, .int .u8 0, .int .u8 0, .int .u8 0, .int .u8 0, .int .u8 0, .int .u8 0, .int .u8 0, .int .u8 0, .int .u8 0, .int .u8 0, .int .u8 0, .int .u8 0, .int .u8 0, .int .u8 0, .int .u8 0, .int .u8 0, .int .u8 0, .int .u8 0, .int .u8 0, .int .u8 0, .int .u8 0, .int .u8 0, .int .u8 0, .int .u8 0, .int .u8 0, .int .u8 0]) = arrV (spellB s) := by
  subst ha hb hc hd
  unfold arrV spellB cellsB
  simp only [List.cons_append, List.nil_append, List.map_cons, byteV, byte_of]
  rfl

theorem spell_any (w : World) (s : Nat) (hs : (s : Int) ≤ 4294967295) :
    Calls Tryd.prog 18 #[Hn.u32V s] w fun e w' => e = .returned (arrV (spellB s)) ∧ Stay (fun _ => False) w w' := by
  have HB := Lib.hid (BAt.new w 25 (List.replicate 32 0))
  have HST := Lib.hid (Stay.alloc (X := fun _ => False) w (.cells (cellsB (List.replicate 32 0)).toArray 25))
  unfold Hn.u32V
  go_enter Tryd.func18, Tryd.ntmps18
  go_wp2_with (first
    | (with_reducible refine arr_32.alloc rfl rfl ?_)
    | (refine arr_32.store rfl (.tmp 2) (.tmp 14) rfl w.heap.size rfl (List.replicate 32 0) (spellB s) (spell_cells s _ _ _ _ (by omega) (by omega) (by omega) (by omega)) (by simp) (by simp [spellB]) HB.out ?_
       intro w3 h3 s3
       have H3 := Lib.hid h3
       clear h3))
  have hld := arr_32.run_load (by simp [spellB]) H3.out
  refine bodyPost_ret (v := arrV (spellB s)) (by simp [results, Tryd.results18, asAddr, Act.put, hld]) rfl ⟨rfl, ?_⟩
  exact stay_seal (X := fun k => w.heap.size ≤ k) ((HST.out.mono (fun _ x => x.elim)).trans (s3.mono (fun k (e : k = w.heap.size) => by omega))) (fun _ hk => hk)

/-- A block's fingerprint of a kind; and the error's number. -/
def printB (k : Int) (b : List UInt8) : List UInt8 := if k = 0 then sumK b else if k = 1 then spellB (Hn.moreN 1 b) else if k = 2 then firstB (b.getD 0 0) else List.replicate 32 0
def codeB (k : Int) : Nat := if k = 0 ∨ k = 1 ∨ k = 2 ∨ k = 3 then 0 else 1
theorem length_printB (k : Int) (b : List UInt8) : (printB k b).length = 32 := by
  unfold printB
  split
  · exact length_sumK b
  · split
    · simp [spellB]
    · split <;> simp [firstB]
def errB (c : Nat) : Value := if c = 0 then .nilIface else .iface 44 (.int .i64 (c : Int))

theorem first_of {b : List UInt8} (hb : b.length = 64) : ∃ c, b[0]? = some c ∧ b.getD 0 0 = c := by
  obtain ⟨c, hc⟩ : ∃ c, b[0]? = some c := ⟨_, List.getElem?_eq_getElem (by omega)⟩
  exact ⟨c, hc, by rw [List.getD_eq_getElem?_getD, hc]; rfl⟩

set_option maxHeartbeats 1000000 in
theorem of_any (w : World) (k : Int) (b : List UInt8) (hb : b.length = 64) (hp : PathAt w) (hg : 2 < w.heap.size) :
    Calls Tryd.prog 7 #[.int .i64 k, arrV b] w fun e w' => e = .returned (.tuple #[arrV (printB k b), errB (codeB k)]) ∧ Stay (fun _ => False) w w' := by
  have b1 := BAt.new w 23 b
  have b2 := BAt.new (w.alloc (.cells (cellsB b).toArray 23)) 25 (List.replicate 32 0)
  have b1' := b1.stay (Stay.alloc (X := fun _ => False) _ (.cells (cellsB (List.replicate 32 0)).toArray 25)) (fun x => x)
  have hst : Stay (fun _ => False) w ((w.alloc (.cells (cellsB b).toArray 23)).alloc (.cells (cellsB (List.replicate 32 0)).toArray 25)) := (Stay.alloc _ _).trans (Stay.alloc _ _)
  rw [show (w.alloc (.cells (cellsB b).toArray 23)).heap.size = w.heap.size + 1 by simp] at b2
  obtain ⟨w1, hw1⟩ : ∃ w1, (w.alloc (.cells (cellsB b).toArray 23)).alloc (.cells (cellsB (List.replicate 32 0)).toArray 25) = w1 := ⟨_, rfl⟩
  rw [hw1] at b1' b2 hst
  have B1 := Lib.hid b1'
  have B2 := Lib.hid b2
  have BS := Lib.hid (slc_of b1' hb (by decide))
  have HW := Lib.hid hw1
  have HP := Lib.hid (hp.stay hst (fun x => x))
  have HG := Lib.hid (Nat.lt_of_lt_of_le hg hst.size)
  have HST := Lib.hid hst
  have HBL := Lib.hid hb
  have HSEAL := Lib.hid (show ∀ W, Stay (fun k => k = w.heap.size + 1) w1 W → Stay (fun _ => False) w W from fun W h =>
    stay_seal (X := fun k => w.heap.size ≤ k) ((hst.mono (fun _ x => x.elim)).trans (h.mono (fun k (e : k = w.heap.size + 1) => by omega))) (fun _ hk => hk))
  clear b1 b2 b1' hst hp hg hw1 hb
  by_cases h0 : k = 0
  · subst h0
    unfold arrV
    go_enter Tryd.func7, Tryd.ntmps7
    go_wp2_with ((with_reducible refine arr_32.alloc rfl rfl ?_); rw [HW.out])
    refine (ksum_any w1 _ b BS.out HP.out HG.out).mono ?_
    rintro e w2 ⟨rfl, s2⟩
    have B3 := Lib.hid (B2.out.stay s2 (fun x => x))
    go_wp2_with (refine arr_32.store rfl (.tmp 4) (.tmp 10) rfl (w.heap.size + 1) rfl (List.replicate 32 0) (sumK b) rfl (by simp) (length_sumK b) B3.out ?_; intro w3 h3 s3; have H3 := Lib.hid h3; clear h3)
    have hld := arr_32.run_load (length_sumK b) H3.out
    refine bodyPost_ret (v := .tuple #[arrV (sumK b), .nilIface]) (by simp [results, Tryd.results7, asAddr, hld]) rfl ⟨rfl, ?_⟩
    exact HSEAL.out _ ((s2.mono (fun _ x => x.elim)).trans s3)
  by_cases h1 : k = 1
  · subst h1
    unfold arrV
    go_enter Tryd.func7, Tryd.ntmps7
    go_wp2_with ((with_reducible refine arr_32.alloc rfl rfl ?_); rw [HW.out])
    refine (Hn.sum_any b _ w1 BS.out).mono ?_
    rintro e w2 ⟨rfl, rfl⟩
    go_wp2_with fail
    refine (spell_any w1 _ (by have := Hn.moreN_lt 1 b; omega)).mono ?_
    rintro e w2 ⟨rfl, s2⟩
    have B3 := Lib.hid (B2.out.stay s2 (fun x => x))
    go_wp2_with (refine arr_32.store rfl (.tmp 4) (.tmp 15) rfl (w.heap.size + 1) rfl (List.replicate 32 0) (spellB (Hn.moreN 1 b)) rfl (by simp) (by simp [spellB]) B3.out ?_; intro w3 h3 s3; have H3 := Lib.hid h3; clear h3)
    have hld := arr_32.run_load (by simp [spellB]) H3.out
    refine bodyPost_ret (v := .tuple #[arrV (spellB (Hn.moreN 1 b)), .nilIface]) (by simp [results, Tryd.results7, asAddr, hld]) rfl ⟨rfl, ?_⟩
    exact HSEAL.out _ ((s2.mono (fun _ x => x.elim)).trans s3)
  by_cases h2 : k = 2
  · subst h2
    obtain ⟨c, hc, hc2⟩ := first_of HBL.out
    have c1 := B1.out.c 0
    rw [show (cellsB b)[0]? = some (.int .u8 (c.toNat : Int)) by simp [cellsB, hc, byteV]] at c1
    have HC2 := Lib.hid hc2
    clear hc hc2
    unfold arrV
    go_enter Tryd.func7, Tryd.ntmps7
    go_wp2_with (first
      | ((with_reducible refine arr_32.alloc rfl rfl ?_); rw [HW.out])
      | (refine arr_32.store rfl (.tmp 4) (.tmp 20) rfl (w.heap.size + 1) rfl (List.replicate 32 0) (firstB c) rfl (by simp) (by simp [firstB]) B2.out ?_; intro w3 h3 s3; have H3 := Lib.hid h3; clear h3))
    have hld := arr_32.run_load (by simp [firstB]) H3.out
    refine bodyPost_ret (v := .tuple #[arrV (firstB c), .nilIface]) (by simp [results, Tryd.results7, asAddr, hld]) rfl ⟨?_, ?_⟩
    · rw [show printB 2 b = firstB c by unfold printB; rw [HC2.out]; rfl]; rfl
    · exact HSEAL.out _ s3
  by_cases h3 : k = 3
  · subst h3
    unfold arrV
    go_enter Tryd.func7, Tryd.ntmps7
    go_wp2_with (first
      | ((with_reducible refine arr_32.alloc rfl rfl ?_); rw [HW.out])
      | (refine arr_32.store rfl (.tmp 4) (.tmp 23) rfl (w.heap.size + 1) rfl (List.replicate 32 0) (List.replicate 32 0) rfl (by simp) (by simp) B2.out ?_; intro w3 h3 s3; have H3 := Lib.hid h3; clear h3))
    have hld := arr_32.run_load (by simp) H3.out
    refine bodyPost_ret (v := .tuple #[arrV (List.replicate 32 0), .nilIface]) (by simp [results, Tryd.results7, asAddr, hld]) rfl ⟨rfl, ?_⟩
    exact HSEAL.out _ s3
  · have e0 : (k == 0) = false := beq_eq_false_iff_ne.2 h0
    have e1 : (k == 1) = false := beq_eq_false_iff_ne.2 h1
    have e2 : (k == 2) = false := beq_eq_false_iff_ne.2 h2
    have e3 : (k == 3) = false := beq_eq_false_iff_ne.2 h3
    have ep : printB k b = List.replicate 32 0 := by unfold printB; rw [if_neg h0, if_neg h1, if_neg h2]
    have ec : codeB k = 1 := by unfold codeB; rw [if_neg (by omega)]
    have EP := Lib.hid ep
    have EC := Lib.hid ec
    unfold arrV
    clear h0 h1 h2 h3 ep ec
    go_enter Tryd.func7, Tryd.ntmps7
    go_wp2_with (first
      | ((with_reducible refine arr_32.alloc rfl rfl ?_); rw [HW.out])
      | (refine arr_32.store rfl (.tmp 4) (.tmp 24) rfl (w.heap.size + 1) rfl (List.replicate 32 0) (List.replicate 32 0) rfl (by simp) (by simp) B2.out ?_; intro w3 h3 s3; have H3 := Lib.hid h3; clear h3))
    have hld := arr_32.run_load (by simp) H3.out
    refine bodyPost_ret (v := .tuple #[arrV (List.replicate 32 0), errB 1]) (by simp [results, Tryd.results7, asAddr, hld]; rfl) rfl ⟨?_, ?_⟩
    · rw [EP.out, EC.out]; rfl
    · exact HSEAL.out _ s3
end Go.Proofs.YtljhfccaoncjeaaDoor.Fg
