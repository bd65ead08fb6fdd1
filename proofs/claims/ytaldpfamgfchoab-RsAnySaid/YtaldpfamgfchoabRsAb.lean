/-
  rs: what was lost is made again, plain; what must come whatever the input is.
-/
import Derived.Test.YtaldpfamgfchoabRsAa
namespace Go.Proofs.Ytaldpfamgfchoab.Rs
open Go.RowKit Gf
set_option maxRecDepth 100000

theorem Ker.congr {n : Nat} {m m' : Nat → Nat → UInt8} (h : Ker n m) (e : ∀ i, i < n → m i = m' i) : Ker n m' := fun z hz => h z (fun i hi => by
  have := hz i hi
  unfold mulV at this ⊢
  rw [e i hi]
  exact this)
/-- Any k parts make all of them again. -/
theorem made_again {k N : Nat} {fl : Nat → Bool} (hk : k ≤ (sel fl N).length) (hN : N ≤ 256) (hkN : k ≤ N) :
    ∃ R, runR k (augR k (fun i => rowF k ((sel fl N).getD i 0))) k = some R ∧
      ∀ (D : Nat → Nat → UInt8) (p b : Nat), prodF k (rowF k) (prodF k (backR k R) (fun i => prodF k (rowF k) D ((sel fl N).getD i 0))) p b = prodF k (rowF k) D p b := by
  have hker : Ker k (fun i => rowF k ((sel fl N).getD i 0)) := by
    refine (rows_ker (k := k) (L := (sel fl N).take k) ((sel_nodup fl N).sublist (List.take_sublist _ _)) (by rw [List.length_take]; omega) (by omega) (fun p hp => ?_)).congr (fun i hi => ?_)
    · have h1 := List.mem_of_mem_take hp
      have := List.mem_range.1 (List.mem_filter.1 h1).1
      omega
    · have e : ((sel fl N).take k).getD i 0 = (sel fl N).getD i 0 := by
        rw [List.getD_eq_getElem?_getD, List.getD_eq_getElem?_getD, List.getElem?_take_of_lt hi]
      show rowF k (((sel fl N).take k).getD i 0) = rowF k ((sel fl N).getD i 0)
      rw [e]
  obtain ⟨R, hR⟩ := run_ker hker (Nat.le_refl k)
  refine ⟨R, hR, fun D p b => ?_⟩
  refine sumB_congr (fun j hj => ?_)
  congr 1
  exact inv_made hker hR (fun c => D c b) j hj

section
variable {w : World} {c g k m len : Nat} {x y : Value} {L : Nat → Nat} {D : Nat → Nat → UInt8} {fl : Nat → Bool}
/-- Decode of what parts there are: all of them again, or too few. -/
theorem decode_back (hc : Cd w c g k m) (hx : SM (· = g) w x (k + m) L (prodF k (rowF k) D)) (hy : SB (· = g) w y (k + m) fl) (hL : ∀ i, i < k + m → fl i = true → L i = len) (hl : len ≤ 281474976710656) (hcnt : k ≤ (sel fl (k + m)).length) :
    Calls Try.prog 8 #[.pointer (some ⟨c, 0, none⟩), x, y] w fun e w' => ∃ v, e = .returned (.tuple #[v, .nilIface]) ∧ SM (fun i => i < w.heap.size) w' v (k + m) (fun _ => len) (prodF k (rowF k) D) ∧ Cd w' c g k m ∧ Stay (· = g) w w' := by
  have hT : ∀ i, i < (sel fl (k + m)).length → L ((sel fl (k + m)).getD i 0) = len := fun i hi => hL _ (sel_lt hi).1 (sel_lt hi).2
  have h0 := hT 0 (by have := hc.k1; omega)
  have hev : evenB (sel fl (k + m)).length (fun i => L ((sel fl (k + m)).getD i 0)) = true := evenB_true.2 (fun i hi => by rw [hT i hi, h0])
  obtain ⟨R, hR, hM⟩ := made_again (k := k) (N := k + m) hcnt (by have := hc.km; omega) (by omega)
  refine (decode_any hc hx hy (fun i hi hf => by rw [hL i hi hf]; exact hl)).mono ?_
  rintro e w' ⟨c2, s2, hr⟩
  rcases hr with ⟨h, _⟩ | ⟨_, h, _⟩ | ⟨_, _, hr⟩
  · rw [hev] at h; cases h
  · omega
  · rcases hr with ⟨h, _⟩ | ⟨R2, v, h, rfl, hv⟩
    · rw [hR] at h; cases h
    · rw [hR] at h
      cases h
      exact ⟨v, rfl, hv.congr (fun _ _ => h0) (fun p _ b _ => hM D p b), c2, s2⟩
theorem decode_few (hc : Cd w c g k m) (hx : SM (· = g) w x (k + m) L (prodF k (rowF k) D)) (hy : SB (· = g) w y (k + m) fl) (hL : ∀ i, i < k + m → fl i = true → L i = len) (hl : len ≤ 281474976710656) (hcnt : (sel fl (k + m)).length < k) :
    Calls Try.prog 8 #[.pointer (some ⟨c, 0, none⟩), x, y] w fun e w' => e = .returned (.tuple #[.slice none 0 0, .iface 42 (.int .i64 20)]) ∧ Cd w' c g k m ∧ Stay (· = g) w w' := by
  have hT : ∀ i, i < (sel fl (k + m)).length → L ((sel fl (k + m)).getD i 0) = len := fun i hi => hL _ (sel_lt hi).1 (sel_lt hi).2
  have hev : evenB (sel fl (k + m)).length (fun i => L ((sel fl (k + m)).getD i 0)) = true := evenB_true.2 (fun i hi => by rw [hT i hi, hT 0 (by omega)])
  refine (decode_any hc hx hy (fun i hi hf => by rw [hL i hi hf]; exact hl)).mono ?_
  rintro e w' ⟨c2, s2, hr⟩
  rcases hr with ⟨h, _⟩ | ⟨_, _, rfl⟩ | ⟨_, h, hr⟩
  · rw [hev] at h; cases h
  · exact ⟨rfl, c2, s2⟩
  · omega
end

/-- The two rows of the laws' own data. -/
def datS (i j : Nat) : UInt8 := if i = 0 then (if j = 0 then 1 else 2) else (if j = 0 then 3 else 4)
theorem lit_two (w : World) : SM (fun i => i < w.heap.size) (((w.alloc (.cells #[.int .u8 1, .int .u8 2] 5)).alloc (.cells #[.int .u8 3, .int .u8 4] 5)).alloc (.cells #[.slice (some ⟨w.heap.size, 0, none⟩) 2 2, .slice (some ⟨w.heap.size + 1, 0, none⟩) 2 2] 24))
    (.slice (some ⟨w.heap.size + 1 + 1, 0, none⟩) 2 2) 2 (fun _ => 2) datS := by
  have h0 : FB (w.alloc (.cells #[.int .u8 1, .int .u8 2] 5)) w.heap.size 2 (datS 0) := heap_alloc_new w _
  have h1 : FB ((w.alloc (.cells #[.int .u8 1, .int .u8 2] 5)).alloc (.cells #[.int .u8 3, .int .u8 4] 5)) (w.heap.size + 1) 2 (datS 1) := by
    have := heap_alloc_new (w.alloc (.cells #[.int .u8 1, .int .u8 2] 5)) (.cells #[.int .u8 3, .int .u8 4] 5)
    rw [World.size_alloc] at this
    exact this
  have h2 := heap_alloc_new ((w.alloc (.cells #[.int .u8 1, .int .u8 2] 5)).alloc (.cells #[.int .u8 3, .int .u8 4] 5)) (.cells #[.slice (some ⟨w.heap.size, 0, none⟩) 2 2, .slice (some ⟨w.heap.size + 1, 0, none⟩) 2 2] 24)
  rw [World.size_alloc, World.size_alloc] at h2
  refine ⟨_, _, rfl, by omega, by omega, fun _ => ⟨_, _, rfl, fun k hk => ?_⟩⟩
  have hk' : k = 0 ∨ k = 1 := by omega
  rcases hk' with rfl | rfl
  · exact ⟨_, SCell.of (cell_of_row _ _ _ _ _ _ h2) (fun e => by have e : w.heap.size + 1 + 1 < w.heap.size := e; omega), ((h0.stay (Stay.alloc (X := fun _ => False) _ _) (fun x => x)).stay (Stay.alloc (X := fun _ => False) _ _) (fun x => x)).ss (by omega) (fun e => by omega)⟩
  · exact ⟨_, SCell.of (cell_of_row _ _ _ _ _ _ h2) (fun e => by have e : w.heap.size + 1 + 1 < w.heap.size := e; omega), (h1.stay (Stay.alloc (X := fun _ => False) _ _) (fun x => x)).ss (by omega) (fun e => by omega)⟩
theorem row_sure : rowF 2 2 0 = 142 ∧ rowF 2 2 1 = 244 := by decide +kernel

theorem slc_none (X : Nat → Prop) (w : World) (f : Nat → UInt8) : SSlc X w (.slice none 0 0) (lf 0 f) := fun _ _ => ⟨none, 0, rfl, fun h => by simp [lf] at h, fun _ => rfl, Nat.le_refl _, by decide⟩
theorem sure_decode {W : World} {c g b1 b2 cc1 cc2 : Nat} {a1 a2 : Option Addr} (hb1 : W.heap[b1]? = some (.cells #[.slice none 0 0, .slice a1 2 cc1, .slice a2 2 cc2] 24 (0, 0))) (hb2 : W.heap[b2]? = some (.cells #[.bool false, .bool true, .bool true] 4 (0, 0)))
    (n1 : b1 ≠ g) (n2 : b2 ≠ g) (C : Cd W c g 2 1) (P1 : SSlc (· = g) W (.slice a1 2 cc1) (lf 2 (prodF 2 (rowF 2) datS 1))) (P2 : SSlc (· = g) W (.slice a2 2 cc2) (lf 2 (prodF 2 (rowF 2) datS 2))) :
    Calls Try.prog 8 #[.pointer (some ⟨c, 0, none⟩), .slice (some ⟨b1, 0, none⟩) 3 3, .slice (some ⟨b2, 0, none⟩) 3 3] W fun e w' => ∃ v, e = .returned (.tuple #[v, .nilIface]) ∧ SM (fun i => i < W.heap.size) w' v 3 (fun _ => 2) (prodF 2 (rowF 2) datS) ∧ Cd w' c g 2 1 ∧ Stay (· = g) W w' := by
  have hx : SM (· = g) W (.slice (some ⟨b1, 0, none⟩) 3 3) (2 + 1) (fun i => if i = 0 then 0 else 2) (prodF 2 (rowF 2) datS) := by
    refine ⟨_, _, rfl, by omega, by omega, fun _ => ⟨_, _, rfl, fun k hk => ?_⟩⟩
    have hk' : k = 0 ∨ k = 1 ∨ k = 2 := by omega
    rcases hk' with rfl | rfl | rfl
    · exact ⟨_, SCell.of (cell_of_row _ _ _ _ _ _ hb1) n1, slc_none _ _ _⟩
    · exact ⟨_, SCell.of (cell_of_row _ _ _ _ _ _ hb1) n1, P1⟩
    · exact ⟨_, SCell.of (cell_of_row _ _ _ _ _ _ hb1) n1, P2⟩
  have hy : SB (· = g) W (.slice (some ⟨b2, 0, none⟩) 3 3) (2 + 1) (fun i => decide (i ≠ 0)) := by
    refine ⟨_, _, rfl, by omega, by omega, fun _ => ⟨_, _, rfl, fun k hk => ?_⟩⟩
    have hk' : k = 0 ∨ k = 1 ∨ k = 2 := by omega
    rcases hk' with rfl | rfl | rfl <;> exact SCell.of (cell_of_row _ _ _ _ _ _ hb2) n2
  exact decode_back (len := 2) C hx hy (fun i _ hf => by
    have : i ≠ 0 := by simpa using hf
    exact if_neg this) (by decide) (by decide)

set_option maxHeartbeats 4000000 in
theorem sure_any (w : World) : Calls Try.prog 5 #[] w fun e w' => e = .returned (.bool true) ∧ Stay (fun _ => False) w w' := by
  go_enter Try.func5, Try.ntmps5
  go_wp2_with fail
  refine (new_good w 2 1 (by omega) (by omega)).mono ?_
  rintro e w1 ⟨c, rfl, hcb, hc1, s1⟩
  have C1 := Lib.hid hc1
  have S1 := Lib.hid s1
  have HCB := Lib.hid hcb
  obtain ⟨g, hg⟩ : ∃ g, g = w.heap.size := ⟨_, rfl⟩
  rw [← hg] at C1
  have HG := Lib.hid hg
  have HCL := Lib.hid (show c < w1.heap.size from hc1.lt)
  clear hcb hc1 s1 hg
  go_wp2_with fail
  refine (rowx_good C1.out 2 (by omega)).mono ?_
  rintro e w2 ⟨rfl, hb, c2, s2⟩
  have HB := Lib.hid hb
  have C2 := Lib.hid c2
  have S2 := Lib.hid s2
  clear hb c2 s2
  go_wp2_with fail
  have hlit := lit_two w2
  have hst3 : Stay (fun _ => False) w2 (((w2.alloc (.cells #[.int .u8 1, .int .u8 2] 5)).alloc (.cells #[.int .u8 3, .int .u8 4] 5)).alloc (.cells #[.slice (some ⟨w2.heap.size, 0, none⟩) 2 2, .slice (some ⟨w2.heap.size + 1, 0, none⟩) 2 2] 24)) := ((Stay.alloc _ _).trans (Stay.alloc _ _)).trans (Stay.alloc _ _)
  generalize ((w2.alloc (.cells #[.int .u8 1, .int .u8 2] 5)).alloc (.cells #[.int .u8 3, .int .u8 4] 5)).alloc (.cells #[.slice (some ⟨w2.heap.size, 0, none⟩) 2 2, .slice (some ⟨w2.heap.size + 1, 0, none⟩) 2 2] 24) = w3 at hlit hst3 ⊢
  have HGL := Lib.hid (show g < w2.heap.size from C2.out.f.lt)
  refine (encode_good (C2.out.stay0 hst3) (hlit.mono (fun i (e : i = g) => by have := HGL.out; omega)) (evenB_true.2 (fun _ _ => rfl)) (by decide)).mono ?_
  rintro e w4 ⟨vp, rfl, hp, c4, s4⟩
  obtain ⟨ap, cp, rfl, _⟩ := hp.form
  obtain ⟨bp, op, a1, cc1, rfl, cp1, sp1, _⟩ := hp.row (k := 1) (by omega)
  obtain ⟨_, _, a2, cc2, e0, cp2, sp2, _⟩ := hp.row (k := 2) (by omega)
  cases e0
  have S4 := Lib.hid (((S1.out.mono (Y := fun i => w.heap.size ≤ i) (fun _ x => x.elim)).trans (S2.out.mono (Y := fun i => w.heap.size ≤ i) (fun i (e : i = g) => by have := HG.out; omega))).trans ((hst3.mono (Y := fun i => w.heap.size ≤ i) (fun _ x => x.elim)).trans (s4.mono (Y := fun i => w.heap.size ≤ i) (fun i (e : i = g) => by have := HG.out; omega))))
  have HB4 := Lib.hid ((HB.out.stay hst3 (fun x => x)).stay s4 (fun e => by have := HG.out; have := S1.out.size; have := HCL.out; have := HCB.out; have := C1.out.f.lt; omega))
  have C4 := Lib.hid c4
  have r0 := HB4.out.c (i := 0) (by omega)
  have r1 := HB4.out.c (i := 1) (by omega)
  rw [row_sure.1, show (((142 : UInt8).toNat : Nat) : Int) = 142 from rfl] at r0
  rw [row_sure.2, show (((244 : UInt8).toNat : Nat) : Int) = 244 from rfl] at r1
  have HZ4 := Lib.hid (show g < w4.heap.size from c4.f.lt)
  have HZ3 := Lib.hid (show g < w3.heap.size from Nat.lt_of_lt_of_le HGL.out hst3.size)
  have K1 := Lib.hid (cp1.mono (Y := (· = g)) (fun i (e : i = g) => by have := HZ3.out; omega))
  have K2 := Lib.hid (cp2.mono (Y := (· = g)) (fun i (e : i = g) => by have := HZ3.out; omega))
  have P1 := Lib.hid (sp1.mono (Y := (· = g)) (fun i (e : i = g) => by have := HZ3.out; omega))
  have P2 := Lib.hid (sp2.mono (Y := (· = g)) (fun i (e : i = g) => by have := HZ3.out; omega))
  have HP := Lib.hid (hp.mono (Y := (· = g)) (fun i (e : i = g) => by have := HZ3.out; omega))
  have D1 := Lib.hid (show Calls Try.prog 8 #[.pointer (some ⟨c, 0, none⟩), .slice (some ⟨w4.heap.size, 0, none⟩) 3 3, .slice (some ⟨w4.heap.size + 1, 0, none⟩) 3 3] ((w4.alloc (.cells #[.slice none 0 0, .slice a1 2 cc1, .slice a2 2 cc2] 24)).alloc (.cells #[.bool false, .bool true, .bool true] 4)).drew fun e w' => ∃ v, e = .returned (.tuple #[v, .nilIface]) ∧ SM (fun _ => False) w' v 3 (fun _ => 2) (prodF 2 (rowF 2) datS) ∧ Stay (· = g) w4 w' from by
    have hst : Stay (fun _ => False) w4 ((w4.alloc (.cells #[.slice none 0 0, .slice a1 2 cc1, .slice a2 2 cc2] 24)).alloc (.cells #[.bool false, .bool true, .bool true] 4)).drew := ((Stay.alloc _ _).trans (Stay.alloc _ _)).trans Stay.drew
    have hb1 : ((w4.alloc (.cells #[.slice none 0 0, .slice a1 2 cc1, .slice a2 2 cc2] 24)).alloc (.cells #[.bool false, .bool true, .bool true] 4)).drew.heap[w4.heap.size]? = some (.cells #[.slice none 0 0, .slice a1 2 cc1, .slice a2 2 cc2] 24) := (heap_alloc_old _ _ (by simp)).trans (heap_alloc_new w4 (.cells #[.slice none 0 0, .slice a1 2 cc1, .slice a2 2 cc2] 24))
    have hb2 : ((w4.alloc (.cells #[.slice none 0 0, .slice a1 2 cc1, .slice a2 2 cc2] 24)).alloc (.cells #[.bool false, .bool true, .bool true] 4)).drew.heap[w4.heap.size + 1]? = some (.cells #[.bool false, .bool true, .bool true] 4) := by have h := heap_alloc_new (w4.alloc (.cells #[.slice none 0 0, .slice a1 2 cc1, .slice a2 2 cc2] 24)) (.cells #[.bool false, .bool true, .bool true] 4); rw [World.size_alloc] at h; exact h
    generalize ((w4.alloc (.cells #[.slice none 0 0, .slice a1 2 cc1, .slice a2 2 cc2] 24)).alloc (.cells #[.bool false, .bool true, .bool true] 4)).drew = W0 at hst hb1 hb2 ⊢
    refine (sure_decode hb1 hb2 (by have := HZ4.out; omega) (by have := HZ4.out; omega) (C4.out.stay0 hst) (P1.out.stay (hst.mono (fun _ x => x.elim))) (P2.out.stay (hst.mono (fun _ x => x.elim)))).mono ?_
    rintro e w6 ⟨v6, rfl, h6, _, s6⟩
    exact ⟨v6, rfl, h6.mono (fun _ x => x.elim), (hst.mono (fun _ x => x.elim)).trans s6⟩)
  have D2 := Lib.hid (show Calls Try.prog 8 #[.pointer (some ⟨c, 0, none⟩), .slice (some ⟨w4.heap.size + 1, 0, none⟩) 3 3, .slice (some ⟨w4.heap.size, 0, none⟩) 3 3] ((w4.alloc (.cells #[.bool false, .bool true, .bool true] 4)).alloc (.cells #[.slice none 0 0, .slice a1 2 cc1, .slice a2 2 cc2] 24)).drew fun e w' => ∃ v, e = .returned (.tuple #[v, .nilIface]) ∧ SM (fun _ => False) w' v 3 (fun _ => 2) (prodF 2 (rowF 2) datS) ∧ Stay (· = g) w4 w' from by
    have hst : Stay (fun _ => False) w4 ((w4.alloc (.cells #[.bool false, .bool true, .bool true] 4)).alloc (.cells #[.slice none 0 0, .slice a1 2 cc1, .slice a2 2 cc2] 24)).drew := ((Stay.alloc _ _).trans (Stay.alloc _ _)).trans Stay.drew
    have hb1 : ((w4.alloc (.cells #[.bool false, .bool true, .bool true] 4)).alloc (.cells #[.slice none 0 0, .slice a1 2 cc1, .slice a2 2 cc2] 24)).drew.heap[w4.heap.size + 1]? = some (.cells #[.slice none 0 0, .slice a1 2 cc1, .slice a2 2 cc2] 24) := by have h := heap_alloc_new (w4.alloc (.cells #[.bool false, .bool true, .bool true] 4)) (.cells #[.slice none 0 0, .slice a1 2 cc1, .slice a2 2 cc2] 24); rw [World.size_alloc] at h; exact h
    have hb2 : ((w4.alloc (.cells #[.bool false, .bool true, .bool true] 4)).alloc (.cells #[.slice none 0 0, .slice a1 2 cc1, .slice a2 2 cc2] 24)).drew.heap[w4.heap.size]? = some (.cells #[.bool false, .bool true, .bool true] 4) := (heap_alloc_old _ _ (by simp)).trans (heap_alloc_new w4 (.cells #[.bool false, .bool true, .bool true] 4))
    generalize ((w4.alloc (.cells #[.bool false, .bool true, .bool true] 4)).alloc (.cells #[.slice none 0 0, .slice a1 2 cc1, .slice a2 2 cc2] 24)).drew = W0 at hst hb1 hb2 ⊢
    refine (sure_decode hb1 hb2 (by have := HZ4.out; omega) (by have := HZ4.out; omega) (C4.out.stay0 hst) (P1.out.stay (hst.mono (fun _ x => x.elim))) (P2.out.stay (hst.mono (fun _ x => x.elim)))).mono ?_
    rintro e w6 ⟨v6, rfl, h6, _, s6⟩
    exact ⟨v6, rfl, h6.mono (fun _ x => x.elim), (hst.mono (fun _ x => x.elim)).trans s6⟩)
  clear hlit hst3 hp c4 s4 cp1 cp2 sp1 sp2
  go_wp2
  have k1 := K1.out.now
  have k2 := K2.out.now
  go_region_held3 (fun W => W.cell? ⟨bp, op + 1, none⟩ = some (.slice a1 2 cc1) ∧ W.cell? ⟨bp, op + 2, none⟩ = some (.slice a2 2 cc2)) (first | exact ⟨k1', k2'⟩ | with_reducible go_keep | exact ⟨(Stay.alloc (X := fun _ => False) _ _).cell k1 (fun x => x), (Stay.alloc (X := fun _ => False) _ _).cell k2 (fun x => x)⟩ | exact ⟨((Stay.alloc (X := fun _ => False) _ _).trans (Stay.alloc (X := fun _ => False) _ _)).cell k1 (fun x => x), ((Stay.alloc (X := fun _ => False) _ _).trans (Stay.alloc (X := fun _ => False) _ _)).cell k2 (fun x => x)⟩ | exact ⟨k1', k2'⟩)
    (first
      | (go_at_call 8
         with_reducible refine D1.out.mono ?_
         rintro e w6 ⟨v6, rfl, h6, s6⟩
         have k1' := (K1.out.stay s6).now
         have k2' := (K2.out.stay s6).now
         have H6 := Lib.hid h6
         have S6 := Lib.hid s6
         clear h6 s6)
      | (go_at_call 8
         with_reducible refine D2.out.mono ?_
         rintro e w6 ⟨v6, rfl, h6, s6⟩
         have k1' := (K1.out.stay s6).now
         have k2' := (K2.out.stay s6).now
         have H6 := Lib.hid h6
         have S6 := Lib.hid s6
         clear h6 s6))
  all_goals
    clear k1 k2 k1' k2'
    go_wp2_with fail
    refine (lists_same _ _ _ 3 (fun _ => 2) (prodF 2 (rowF 2) datS) H6.out ((HP.out.stay S6.out).mono (fun _ x => x.elim))).mono ?_
    rintro e w7 ⟨rfl, s7⟩
    have S7 := Lib.hid s7
    clear s7
    go_wp2
    try go_ret
    refine ⟨rfl, ?_⟩
    refine stay_seal ((S4.out.trans (S6.out.mono (Y := fun i => w.heap.size ≤ i) (fun i (e : i = g) => by have := HG.out; omega))).trans (S7.out.mono (fun _ x => x.elim))) (fun _ h => h)
end Go.Proofs.Ytaldpfamgfchoab.Rs
