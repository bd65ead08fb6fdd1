/-
  log: a record's bytes, written into the sectors from one on (ring.write).
-/
import Derived.Test.YthbcgimmbcdnmaaDoorLoE
import Derived.Test.YthbcgimmbcdnmaaDoorTgC
namespace Go.Proofs.YthbcgimmbcdnmaaDoor.Lo
open Go.RowKit Go.Shelf
open Pk (spellB bytesB takeB numB textB RS Slc Owns RdAt WrAt stay_drewN errV errV_pos errV_zero)
open Tg (writeD flushD down DOk readD read_all Arg write_all flush_all writeD_ok writeD_n keepsFrom_stay)
set_option maxRecDepth 100000
set_option linter.unusedVariables false
attribute [local go_sem] Oper.semAt_some

/-- Parts of a text, written one behind the other round the area; where the device answers an error it stops. -/
def putsD (F S s : Nat) (l : List UInt8) : DS → Nat → List Nat → DS × Nat
  | d, _, [] => (d, 0)
  | d, i, k :: ks => if (writeD d ((F + i % S : Nat) : Int) (rawB s l k)).2 = 0 then putsD F S s l (writeD d ((F + i % S : Nat) : Int) (rawB s l k)).1 (i + 1) ks else writeD d ((F + i % S : Nat) : Int) (rawB s l k)
theorem putsD_snoc (F S s : Nat) (l : List UInt8) : ∀ (ks : List Nat) (d : DS) (i : Nat) (k : Nat), (putsD F S s l d i ks).2 = 0 → putsD F S s l d i (ks ++ [k]) = writeD (putsD F S s l d i ks).1 ((F + (i + ks.length) % S : Nat) : Int) (rawB s l k)
  | [], d, i, k, _ => by
    simp only [putsD, List.nil_append, List.length_nil, Nat.add_zero]
    by_cases h : (writeD d ((F + i % S : Nat) : Int) (rawB s l k)).2 = 0
    · rw [if_pos h]; rw [← h]
    · rw [if_neg h]
  | k0 :: ks, d, i, k, h => by
    simp only [putsD, List.cons_append] at h ⊢
    by_cases h0 : (writeD d ((F + i % S : Nat) : Int) (rawB s l k0)).2 = 0
    · rw [if_pos h0] at h
      rw [if_pos h0, if_pos h0, putsD_snoc F S s l ks _ _ k h]
      have e : i + 1 + ks.length = i + (k0 :: ks).length := by simp; omega
      rw [e]
    · rw [if_neg h0] at h; exact absurd h h0
theorem putsD_stop (F S s : Nat) (l : List UInt8) : ∀ (ks : List Nat) (d : DS) (i : Nat) (rest : List Nat), (putsD F S s l d i ks).2 ≠ 0 → putsD F S s l d i (ks ++ rest) = putsD F S s l d i ks
  | [], _, _, _, h => absurd rfl h
  | k0 :: ks, d, i, rest, h => by
    simp only [putsD, List.cons_append] at h ⊢
    by_cases h0 : (writeD d ((F + i % S : Nat) : Int) (rawB s l k0)).2 = 0
    · rw [if_pos h0] at h
      rw [if_pos h0, if_pos h0, putsD_stop F S s l ks _ _ rest h]
    · rw [if_neg h0, if_neg h0]
theorem putsD_ok (F S s : Nat) (l : List UInt8) : ∀ (ks : List Nat) (d : DS) (i : Nat) (K : Int), DOk d K → DOk (putsD F S s l d i ks).1 (K + ks.length)
  | [], _, _, K, h => h.mono (by simp)
  | k0 :: ks, d, i, K, h => by
    simp only [putsD]
    have h1 := writeD_ok h ((F + i % S : Nat) : Int) (rawB s l k0)
    split
    · exact (putsD_ok F S s l ks _ (i + 1) (K + 1) h1).mono (by simp; omega)
    · exact h1.mono (by simp; omega)
theorem putsD_n (F S s : Nat) (l : List UInt8) : ∀ (ks : List Nat) (d : DS) (i : Nat), (putsD F S s l d i ks).1.n = d.n
  | [], _, _ => rfl
  | k0 :: ks, d, i => by
    simp only [putsD]
    split
    · rw [putsD_n F S s l ks, writeD_n]
    · exact writeD_n _ _ _

/-- A part of a slice reads as the part. -/
theorem slc_part {w : World} {a0 : Option Addr} {c : Nat} {l : List UInt8} (h : Slc w (.slice a0 l.length c) l) (k : Nat) : Slc w (partV a0 l.length k) (piece l k) := by
  obtain ⟨a1, c1, e, hr, hn, hc, hm⟩ := h
  cases e
  refine ⟨a0.map (·.add (56 * k)), min 56 (l.length - 56 * k), by rw [partV, length_piece], fun h0 => ?_, fun e => ?_, by rw [length_piece]; exact Nat.le_refl _, by omega⟩
  rotate_left
  · cases a0 with
    | none =>
      by_cases h0 : 0 < l.length
      · obtain ⟨ad, e2, _⟩ := hr h0
        cases e2
      · omega
    | some ad => cases e
  rw [length_piece] at h0
  obtain ⟨ad, rfl, hcell⟩ := hr (by omega)
  refine ⟨ad.add (56 * k), rfl, fun j v hv => ?_⟩
  rw [Addr.add_add]
  refine hcell _ v ?_
  have hj : j < 56 := by
    have := (List.getElem?_eq_some_iff.1 hv).1
    rw [length_cellsB, length_piece] at this
    omega
  simp only [cellsB, piece, List.map_take, List.map_drop, List.getElem?_take, List.getElem?_drop, if_pos hj] at hv
  exact hv

theorem slc_stay {X : Nat → Prop} {w w' : World} {x : Value} {l : List UInt8} (h : Slc w x l) (hs : Stay X w w') (hx : 0 < l.length → ∀ k, x.ownBlock = some k → ¬ X k) : Slc w' x l := by
  obtain ⟨a0, c, rfl, hr, h1, h2, h3⟩ := h
  refine ⟨a0, c, rfl, hr.stay hs (fun h0 ad e => hx h0 _ (by subst e; rfl)), h1, h2, h3⟩
set_option maxHeartbeats 8000000 in
theorem write_any (w : World) (pd ps pm : Nat) (d : DS) (F S fr sq : Nat) (x : Value) (l : List UInt8) (h : DevAt w pd ps pm d) (hok : DOk d 4000000000000000000) (hsl : Slc w x l) (hno : 0 < l.length → ∀ k, x.ownBlock = some k → ¬ own pd ps pm k) (hS : 1 ≤ S) (hFS : F + S ≤ d.n) (hfr : fr ≤ 1000000) (hs : sq ≤ 1099511627776) (hl : l.length ≤ 1000000) :
    Calls Tryd.prog 26 #[ringV pd F S, .int .i64 (fr : Int), .int .i64 (sq : Int), x] w fun e w' => e = .returned (errV (putsD F S sq l d fr (List.range (parts l.length))).2) ∧ DevAt w' pd ps pm (putsD F S sq l d fr (List.range (parts l.length))).1 ∧ Stay (own pd ps pm) w w' := by
  have HSL := Lib.hid hsl
  obtain ⟨a0, c, rfl, _, _, hnc, _⟩ := hsl
  have HNO := Lib.hid hno
  clear hno
  have HBL := Lib.hid (show ∀ k, (Value.slice a0 l.length c).ownBlock = some k → 0 < l.length → k < w.heap.size from fun k hk h0 => slc_lt HSL.out h0 hk)
  have hn2 := h.n2
  unfold ringV
  refine (callsIn_wide (n := 4)).1 ?_
  refine callsIn_of_wp_marks Tryd.func26 rfl trivial ?_ rfl
  simp only [Tryd.ntmps26, List.size_toArray, List.length_cons, List.length_nil, Nat.reduceAdd, Nat.reduceSub, Array.replicate_succ, Array.replicate_zero, List.push_toArray, List.append_toArray, List.nil_append, List.cons_append]
  have HTV := Lib.hid (tag_vals hs)
  have htag := fun W => tagOf_any W sq hs
  rw [tag_vals hs] at htag
  have HTAG := Lib.hid htag
  clear htag
  gi_wp2_with (first
    | (refine ⟨trivial, ?_⟩; gi_at_call 44; refine (callsIn_wide.2 (HTAG.out _)).mono ?_; rintro e w1 ⟨rfl, hs1⟩)
    | (refine ⟨trivial, ?_⟩; gi_at_call 45; refine (chunk_any _ a0 _ c _).mono ?_; rintro e w' ⟨rfl, rfl⟩))
  rw [← HTV.out]
  obtain ⟨B, hB⟩ : ∃ B, B = w.heap.size := ⟨_, rfl⟩
  obtain ⟨G, hG⟩ : ∃ G, G = w1.heap.size := ⟨_, rfl⟩
  obtain ⟨z0, hz0⟩ : ∃ z0, z0 = ((w.alloc (.cells #[.pointer (some ⟨pd, 0, none⟩), .int .i64 (F : Int), .int .i64 (S : Int)] 58)).alloc (.cells #[.int .i64 (fr : Int)] 3)).alloc (.cells #[.nilIface] 26) := ⟨_, rfl⟩
  have hzz0 : z0.heap.size = B + 1 + 1 + 1 := by rw [hz0, hB]; simp
  rw [← hz0] at hs1
  obtain ⟨z1, hz1⟩ : ∃ z1, z1 = w1.alloc (.cells (cellsB (tagB sq)).toArray 97) := ⟨_, rfl⟩
  have hzz1 : z1.heap.size = G + 1 := by rw [hz1, hG]; simp
  obtain ⟨w2, hw2⟩ : ∃ w2, w2 = (z1.alloc (.cells #[.slice a0 l.length c] 36)).alloc (.cells #[.int .i64 56] 3) := ⟨_, rfl⟩
  have hzz2 : w2.heap.size = G + 1 + 1 + 1 := by rw [hw2]; simp; omega
  have hGB : B + 1 + 1 + 1 ≤ G := by have := hs1.size; rw [hzz0] at this; omega
  have S12 : Stay (fun _ => False) w1 w2 := by
    rw [hw2, hz1]
    exact ((Stay.alloc _ _).trans (Stay.alloc _ _)).trans (Stay.alloc _ _)
  have S02 : Stay (fun _ => False) z0 w2 := hs1.trans S12
  have S01 : Stay (fun _ => False) w w2 := by
    refine Stay.trans ?_ S02
    rw [hz0]
    exact ((Stay.alloc _ _).trans (Stay.alloc _ _)).trans (Stay.alloc _ _)
  have BR : w2.heap[B]? = some (.cells #[.pointer (some ⟨pd, 0, none⟩), .int .i64 (F : Int), .int .i64 (S : Int)] 58 (0, 0)) := (S02.block B (by omega) (fun x => x)).trans (by
    rw [hz0, hB]
    exact (Below.heap_alloc _ _ _ (by simp; omega)).trans ((Below.heap_alloc _ _ _ (by simp)).trans (heap_alloc_new w _)))
  have BF : Boxed w2 (B + 1) 3 (.int .i64 (fr : Int)) := (S02.block (B + 1) (by omega) (fun x => x)).trans (by
    have h1 := heap_alloc_new (w.alloc (.cells #[.pointer (some ⟨pd, 0, none⟩), .int .i64 (F : Int), .int .i64 (S : Int)] 58)) (.cells #[.int .i64 (fr : Int)] 3)
    rw [World.size_alloc, ← hB] at h1
    rw [hz0]
    exact (Below.heap_alloc _ _ _ (by simp; omega)).trans h1)
  have BE : Boxed w2 (B + 1 + 1) 26 .nilIface := (S02.block (B + 1 + 1) (by omega) (fun x => x)).trans (by
    have h1 := heap_alloc_new ((w.alloc (.cells #[.pointer (some ⟨pd, 0, none⟩), .int .i64 (F : Int), .int .i64 (S : Int)] 58)).alloc (.cells #[.int .i64 (fr : Int)] 3)) (.cells #[.nilIface] 26)
    rw [World.size_alloc, World.size_alloc, ← hB] at h1
    rw [hz0]
    exact h1)
  have BT : w2.heap[G]? = some (.cells (cellsB (tagB sq)).toArray 97 (0, 0)) := by
    rw [hw2]
    refine (Below.heap_alloc _ _ _ (by simp; omega)).trans ((Below.heap_alloc _ _ _ (by omega)).trans ?_)
    rw [hz1, hG]
    exact heap_alloc_new w1 _
  have C1 : Boxed w2 (G + 1) 36 (.slice a0 l.length c) := by
    rw [hw2]
    have := Boxed.new z1 36 (.slice a0 l.length c)
    rw [hzz1] at this
    exact this.alloc _
  have C2 : Boxed w2 (G + 1 + 1) 3 (.int .i64 56) := by
    rw [hw2]
    have := Boxed.new (z1.alloc (.cells #[.slice a0 l.length c] 36)) 3 (.int .i64 56)
    rw [World.size_alloc, hzz1] at this
    exact this
  have lt1 : pd < B := by rw [hB]; exact h.lt1
  have lt2 : ps < B := by rw [hB]; exact h.lt2
  have lt3 : pm < B := by rw [hB]; exact h.lt3
  have hob : ∀ k, own pd ps pm k → k < B := by rintro k (rfl | rfl | rfl) <;> assumption
  have h1 : DevAt w2 pd ps pm d := h.stay S01 (fun x => x) (fun x => x) (fun x => x)
  have hSL2 : Slc w2 (.slice a0 l.length c) l := HSL.out.stay0 S01
  have hpl : parts l.length ≤ 20000 := by unfold parts; omega
  rw [← hz1, ← hw2, ← hG, ← hB]
  have HH := Lib.hid h
  have HTS := Lib.hid hob
  have HB0 := Lib.hid hB
  have HG0 := Lib.hid hG
  have hbw : B = w.heap.size := hB
  have hob2 : ∀ k, own pd ps pm k → k < w.heap.size := by rw [← hB]; exact hob
  clear hz0 hz1 hw2 hs1 h hbw hG hB
  refine wpIn_rangeFunc_ownG rfl (by omega) (gf := 62) (lb := #[.pointer (some ⟨G + 1, 0, none⟩), .pointer (some ⟨G + 1 + 1, 0, none⟩)]) rfl trivial (enters_of Tryd.func62 (by kernel_rfl) rfl)
    (S := fun ys => ys = List.range (parts l.length)) (Sp := fun pre => ∃ k, k ≤ parts l.length ∧ pre = List.range k) (N := parts l.length) (encs := fun k => #[partV a0 l.length k])
    (Kp := fun W W' => W'.heap[G + 1]? = W.heap[G + 1]? ∧ W'.heap[G + 1 + 1]? = W.heap[G + 1 + 1]?) (w0 := w2)
    (fun l' J Jx W hW hJ hJx hY h0 => chunk1_in l' (G + 1) (G + 1 + 1) l.length c a0 hnc (by omega) J Jx (fun pre wx hj => hJ _ _ _ none hj ⟨rfl, rfl, rfl, Nat.le_refl _, fun _ _ _ => rfl⟩ (fun r e => by cases e)) hY W
      ((hW.block _ C1.lt).trans C1) ((hW.block _ C2.lt).trans C2) h0)
    (fun h k => ⟨k.1.trans h.1, k.2.trans h.2⟩)
    (fun W l' o o' hl' hW _ _ => ⟨World.putObj_heap_other (by omega), World.putObj_heap_other (by omega)⟩)
    (Below.refl _ _) (fun _ => rfl)
    (fun pre W => (putsD F S sq l d fr pre).2 = 0 ∧ DevAt W pd ps pm (putsD F S sq l d fr pre).1 ∧ Boxed W (B + 1) 3 (.int .i64 ((fr + pre.length : Nat) : Int)) ∧ Stay (fun k => own pd ps pm k ∨ k = B + 1) w2 W)
    (fun cd pre W => cd = .ret ∧ (putsD F S sq l d fr pre).2 ≠ 0 ∧ DevAt W pd ps pm (putsD F S sq l d fr pre).1 ∧ Boxed W (B + 1 + 1) 26 (errV (putsD F S sq l d fr pre).2) ∧ Stay (fun k => own pd ps pm k ∨ k = B + 1 ∨ k = B + 1 + 1) w2 W)
    ?ownI ?ownX ?start
    (fun x => { tmps := #[.agg #[.pointer (some ⟨pd, 0, none⟩), .int .i64 (F : Int), .int .i64 (S : Int)], .int .i64 (fr : Int), .int .i64 (sq : Int), .slice a0 l.length c, .pointer (some ⟨B, 0, none⟩), .pointer (some ⟨B + 1, 0, none⟩), undef, undef, .pointer (some ⟨B + 1 + 1, 0, none⟩), .pointer (some ⟨G, 0, none⟩), partV a0 l.length x, undef, .int .i64 (sq : Int), .agg (cellsB (tagB sq)).toArray, .slice a0 l.length c,
      .func (.func 62) #[] #[.pointer (some ⟨G + 1, 0, none⟩), .pointer (some ⟨G + 1 + 1, 0, none⟩)], partV a0 l.length x, undef, undef, undef, undef, undef, undef, undef, undef, undef, undef, undef, undef, undef, undef, undef], defers := [] }) ?assign ?body ?done ?stop
  case ownI =>
    rintro pre A1 B1 row ⟨hz, hD, hb, hS⟩ hg hr
    have hs : Stay (fun k => w2.heap.size ≤ k) A1 B1 := Stay.grown hg (fun k e => (hr k e).1)
    refine ⟨hz, hD.stay hs (by omega) (by omega) (by omega), hb.kept hg (fun e => by have := (hr _ e.symm).1; omega), hS.andThen hs (fun k hk hk' => by omega)⟩
  case ownX =>
    rintro cd pre A1 B1 row ⟨hcd, hz, hD, hb, hS⟩ hg hr
    have hs : Stay (fun k => w2.heap.size ≤ k) A1 B1 := Stay.grown hg (fun k e => (hr k e).1)
    refine ⟨hcd, hz, hD.stay hs (by omega) (by omega) (by omega), hb.kept hg (fun e => by have := (hr _ e.symm).1; omega), hS.andThen hs (fun k hk hk' => by omega)⟩
  case start =>
    refine ⟨rfl, h1, ?_, Stay.refl _ _⟩
    exact BF
  case assign =>
    intro l' x W K hK
    gi_wp2
    exact hK
  case body =>
    rintro l' pre k W ⟨hz, hD, hb, hS3⟩ hlen
    have HBR := Lib.hid ((hS3.block B (Array.getElem?_eq_some_iff.1 BR).1 (by rintro (hq | hq); exact absurd (hob _ hq) (by omega); omega)).trans BR)
    have c0 : W.cell? ⟨B, 0, none⟩ = some (.pointer (some ⟨pd, 0, none⟩)) := cell_of_row _ _ _ _ _ _ HBR.out
    have c1 : W.cell? ⟨B, 1, none⟩ = some (.int .i64 (F : Int)) := cell_of_row _ _ _ _ _ _ HBR.out
    have c2 : W.cell? ⟨B, 2, none⟩ = some (.int .i64 (S : Int)) := cell_of_row _ _ _ _ _ _ HBR.out
    have hBT : W.heap[G]? = some (.cells (cellsB (tagB sq)).toArray 97 (0, 0)) := (hS3.block G (Array.getElem?_eq_some_iff.1 BT).1 (by rintro (hq | hq); exact absurd (hob _ hq) (by omega); omega)).trans BT
    have HBT := Lib.hid hBT
    have HBE := Lib.hid (show Boxed W (B + 1 + 1) 26 .nilIface from (hS3.block _ BE.lt (by rintro (hq | hq); exact absurd (hob _ hq) (by omega); omega)).trans BE)
    have hWz := hS3.size
    have hSLW : Slc W (.slice a0 l.length c) l := slc_stay hSL2 hS3 (fun h0 q hq => by
      rintro (hX | hX)
      · exact HNO.out h0 q hq hX
      · have h1 := HBL.out q hq h0
        have h2 := HB0.out
        omega)
    obtain ⟨m, hm⟩ : ∃ m, m = fr + pre.length := ⟨_, rfl⟩
    rw [← hm] at hb
    have HM := Lib.hid hm
    have hmb : m ≤ 2000000 := by omega
    have HFB := Lib.hid hb
    have f0 : W.cell? ⟨B + 1, 0, none⟩ = some (.int .i64 (m : Int)) := hb.cell
    have HSEC := Lib.hid (fun W' => sector_any W' (.pointer (some ⟨pd, 0, none⟩)) F S m hS (by omega) (by omega) (by omega))
    obtain ⟨q, hq⟩ : ∃ q, q = F + m % S := ⟨_, rfl⟩
    rw [← hq] at HSEC
    have hsn := putsD_snoc F S sq l pre d fr k hz
    rw [← hm, ← hq] at hsn
    have HSN := Lib.hid hsn
    obtain ⟨d1, hd1⟩ : ∃ d1, d1 = (putsD F S sq l d fr pre).1 := ⟨_, rfl⟩
    have hdk : DOk d1 4611686018427387903 := by rw [hd1]; exact (putsD_ok F S sq l pre d fr _ hok).mono (by omega)
    rw [← hd1] at hD HSN
    have HD1 := Lib.hid hD
    have hlr : (rawB sq l k).length ≤ 64 := len_rawB _ _ _
    have hspl := slc_part hSLW k
    obtain ⟨pa, pn, hpv⟩ : ∃ pa pn, partV a0 l.length k = .slice pa pn pn := ⟨_, _, rfl⟩
    rw [hpv] at hspl ⊢
    have HSPL := Lib.hid hspl
    clear hspl hpv
    have HTS8 := Lib.hid (show Slc W (.slice (some ⟨G, 0, none⟩) (tagB sq).length 8) (tagB sq) from Pk.slc_of_block hBT (fun j v hv => by simpa using hv) (by rw [len_tagB]; exact Nat.le_refl _) (by decide))
    have HCON := Lib.hid (show ∀ z g, Stay (fun _ => False) W z → z.heap[g]? = some (.cells #[.slice (some ⟨G, 0, none⟩) 8 8, (.slice pa pn pn)] 36 (0, 0)) → Calls Tryd.prog 40 #[.slice (some ⟨g, 0, none⟩) 2 2] z fun e w' => ∃ v, e = .returned v ∧ Owns z.heap.size w' v (rawB sq l k) ∧ Stay (fun _ => False) z w' from fun z g hz hg => by
      have ht := HTS8.out
      rw [len_tagB] at ht
      exact Hn.concat_any g _ _ (tagB sq) (piece l k) z _ hg (ht.stay0 hz) (HSPL.out.stay0 hz) (by rw [len_tagB, length_piece]; omega))
    have HWR := Lib.hid (show ∀ z v, Stay (fun _ => False) W z → Owns W.heap.size z v (rawB sq l k) → Calls Tryd.prog 37 #[.pointer (some ⟨pd, 0, none⟩), .int .i64 (q : Int), v] z fun e w' => e = .returned (errV (writeD d1 (q : Int) (rawB sq l k)).2) ∧ DevAt w' pd ps pm (writeD d1 (q : Int) (rawB sq l k)).1 ∧ Stay (own pd ps pm) z w' from fun z v hz hv =>
      write_all z pd ps pm d1 (q : Int) v _ (HD1.out.stay hz (fun x => x) (fun x => x) (fun x => x)) hdk (Arg.of_slc hv.slc (fun _ j hj hX => by have h1 := (hv.lt j hj).1; have h2 := hob j hX; omega)))
    obtain ⟨⟨d2, e2⟩, hd2⟩ : ∃ x, x = writeD d1 (q : Int) (rawB sq l k) := ⟨_, rfl⟩
    rw [← hd2] at HWR HSN
    obtain ⟨ev, hev⟩ : ∃ ev, ev = errV e2 := ⟨_, rfl⟩
    have HEV := Lib.hid hev
    simp only [← hev] at HWR
    have hnB : ¬ own pd ps pm B := fun hX => absurd (hob _ hX) (by omega)
    have hnF : ¬ own pd ps pm (B + 1) := fun hX => absurd (hob _ hX) (by omega)
    have HNB := Lib.hid hnB
    have HNF := Lib.hid hnF
    obtain ⟨PP, hPP⟩ : ∃ PP : Act → World → Prop, PP = fun a' W' => ∃ y17 y18 y19 y20 y21 y22 y23 y24 y25 y26 y27 y28 y29 y30 y31 : Value, a' = { tmps := #[.agg #[.pointer (some ⟨pd, 0, none⟩), .int .i64 (F : Int), .int .i64 (S : Int)], .int .i64 (fr : Int), .int .i64 (sq : Int), .slice a0 l.length c, .pointer (some ⟨B, 0, none⟩), .pointer (some ⟨B + 1, 0, none⟩), undef, undef, .pointer (some ⟨B + 1 + 1, 0, none⟩), .pointer (some ⟨G, 0, none⟩), .slice pa pn pn, ev, .int .i64 (sq : Int), .agg (cellsB (tagB sq)).toArray, .slice a0 l.length c, .func (.func 62) #[] #[.pointer (some ⟨G + 1, 0, none⟩), .pointer (some ⟨G + 1 + 1, 0, none⟩)], .slice pa pn pn, y17, y18, y19, y20, y21, y22, y23, y24, y25, y26, y27, y28, y29, y30, y31], defers := [] } ∧ Hid (DevAt W' pd ps pm d2) ∧ Hid (Stay (own pd ps pm) W W') := ⟨_, rfl⟩
    have HPO := Lib.hid (show ∀ a' W', PP a' W' → ∃ y17 y18 y19 y20 y21 y22 y23 y24 y25 y26 y27 y28 y29 y30 y31 : Value, a' = { tmps := #[.agg #[.pointer (some ⟨pd, 0, none⟩), .int .i64 (F : Int), .int .i64 (S : Int)], .int .i64 (fr : Int), .int .i64 (sq : Int), .slice a0 l.length c, .pointer (some ⟨B, 0, none⟩), .pointer (some ⟨B + 1, 0, none⟩), undef, undef, .pointer (some ⟨B + 1 + 1, 0, none⟩), .pointer (some ⟨G, 0, none⟩), .slice pa pn pn, ev, .int .i64 (sq : Int), .agg (cellsB (tagB sq)).toArray, .slice a0 l.length c, .func (.func 62) #[] #[.pointer (some ⟨G + 1, 0, none⟩), .pointer (some ⟨G + 1 + 1, 0, none⟩)], .slice pa pn pn, y17, y18, y19, y20, y21, y22, y23, y24, y25, y26, y27, y28, y29, y30, y31], defers := [] } ∧ Hid (DevAt W' pd ps pm d2) ∧ Hid (Stay (own pd ps pm) W W') by intro a' W' h; rw [hPP] at h; exact h)
    have HPI := Lib.hid (show ∀ (y17 y18 y19 y20 y21 y22 y23 y24 y25 y26 y27 y28 y29 y30 y31 : Value) W', Hid (DevAt W' pd ps pm d2) → Hid (Stay (own pd ps pm) W W') → PP { tmps := #[.agg #[.pointer (some ⟨pd, 0, none⟩), .int .i64 (F : Int), .int .i64 (S : Int)], .int .i64 (fr : Int), .int .i64 (sq : Int), .slice a0 l.length c, .pointer (some ⟨B, 0, none⟩), .pointer (some ⟨B + 1, 0, none⟩), undef, undef, .pointer (some ⟨B + 1 + 1, 0, none⟩), .pointer (some ⟨G, 0, none⟩), .slice pa pn pn, ev, .int .i64 (sq : Int), .agg (cellsB (tagB sq)).toArray, .slice a0 l.length c, .func (.func 62) #[] #[.pointer (some ⟨G + 1, 0, none⟩), .pointer (some ⟨G + 1 + 1, 0, none⟩)], .slice pa pn pn, y17, y18, y19, y20, y21, y22, y23, y24, y25, y26, y27, y28, y29, y30, y31], defers := [] } W' by
      intro y17 y18 y19 y20 y21 y22 y23 y24 y25 y26 y27 y28 y29 y30 y31 W' h1 h2
      rw [hPP]
      exact ⟨y17, y18, y19, y20, y21, y22, y23, y24, y25, y26, y27, y28, y29, y30, y31, rfl, h1, h2⟩)
    clear hPP hm hq hsn hd1 hd2 hev hdk hlr hnB hnF hBT hb hz hok
    gi_wp2
    refine Code.wpIn_mono (Q := fun e a' W' => match e with
      | .normal => PP a' W'
      | _ => False) ?next ?region
    case region =>
      refine wpIn_region_held (S := Stay (own pd ps pm) W.drew) (fun _ _ h => h) (by kernel_rfl) (by kernel_rfl) ?_
      change wpAnyH _ _ _ _ _ _ _ _ (World.drew _)
      have hst : Stay (own pd ps pm) W W.drew := Stay.drew
      have hs0 : Stay (fun _ => False) W W.drew := Stay.drew
      refine wpAnyH_takeL (i := 0) (v := .pointer (some ⟨B, 0, none⟩)) #[true, false, false, false, false, false, false, false, false, false, false] rfl (by kernel_rfl) (by kernel_rfl) (by kernel_rfl) (fun _ _ _ h => h) (by kernel_rfl) (Stay.refl _ _) (Or.inl ⟨by rfl, fun W hW => ?_⟩) ?_
      · go_simp
      conv => arg 8; simp [Act.put]
      refine wpAnyH_takeL (i := 1) (v := .pointer (some ⟨pd, 0, none⟩)) #[true, true, false, false, false, false, false, false, false, false, false] rfl (by kernel_rfl) (by kernel_rfl) (by kernel_rfl) (fun _ _ _ h => h) (by kernel_rfl) (Stay.refl _ _) (Or.inl ⟨by rfl, fun W hW => ?_⟩) ?_
      · have q0 := (hst.trans hW).cell c0 HNB.out
        go_simp
      conv => arg 8; simp [Act.put]
      refine wpAnyH_takeL (i := 2) (v := .agg #[.pointer (some ⟨pd, 0, none⟩), .int .i64 (F : Int), .int .i64 (S : Int)]) #[true, true, true, false, false, false, false, false, false, false, false] rfl (by kernel_rfl) (by kernel_rfl) (by kernel_rfl) (fun _ _ _ h => h) (by kernel_rfl) (Stay.refl _ _) (Or.inl ⟨by rfl, fun W hW => ?_⟩) ?_
      · have q0 := (hst.trans hW).cell c0 HNB.out
        have q1 := (hst.trans hW).cell c1 HNB.out
        have q2 := (hst.trans hW).cell c2 HNB.out
        go_simp
      conv => arg 8; simp [Act.put]
      refine wpAnyH_takeL (i := 3) (v := .int .i64 (m : Int)) #[true, true, true, true, false, false, false, false, false, false, false] rfl (by kernel_rfl) (by kernel_rfl) (by kernel_rfl) (fun _ _ _ h => h) (by kernel_rfl) (Stay.refl _ _) (Or.inl ⟨by rfl, fun W hW => ?_⟩) ?_
      · have q3 := (hst.trans hW).cell f0 HNF.out
        go_simp
      conv => arg 8; simp [Act.put]
      refine wpAnyH_takeL (i := 5) (v := .slice (some ⟨G, 0, none⟩) 8 8) #[true, true, true, true, false, true, false, false, false, false, false] rfl (by kernel_rfl) (by kernel_rfl) (by kernel_rfl) (fun _ _ _ h => h) (by kernel_rfl) (Stay.refl _ _) (Or.inl ⟨by rfl, fun W hW => ?_⟩) ?_
      · go_simp
      conv => arg 8; simp [Act.put]
      refine wpAnyH_takeL (i := 6) (v := .slice pa pn pn) #[true, true, true, true, false, true, true, false, false, false, false] rfl (by kernel_rfl) (by kernel_rfl) (by kernel_rfl) (fun _ _ _ h => h) (by kernel_rfl) (Stay.refl _ _) (Or.inl ⟨by rfl, fun W hW => ?_⟩) ?_
      · go_simp
      conv => arg 8; simp [Act.put]
      refine wpAnyH_ready (rs := [4, 7]) (by kernel_rfl) (by simp) ?_
      refine AllReadyH.cons (o := _) rfl (fun K hK => ?_) ?_
      · go_simp
        go_wp2_with (go_at_call 35; refine (HSEC.out _).mono ?_; rintro e z1 ⟨rfl, s0⟩; have s : Stay (own pd ps pm) _ _ := s0.mono (fun _ x => x.elim); replace hs0 := hs0.trans s0; clear s0)
        replace hst := hst.trans s
        refine Shut.out hK _ _ s (fun _ => ?_)
        clear hK
        refine wpAnyH_listedL #[true, true, true, true, true, true, true, false, false, false, false] (by kernel_rfl) ?_
        conv => arg 8; simp [Act.put]
        refine wpAnyH_narrow (S' := Stay (own pd ps pm) z1) (fun _ h => s.trans h) _ _ _ _ ?_
        clear s
        refine wpAnyH_one #[true, true, true, true, true, true, true, true, false, false, false] (i := 7) rfl (by kernel_rfl) (by kernel_rfl) (fun K hK => ?_)
        go_simp
        have s0 : Stay (fun _ => False) z1 (z1.alloc (.cells #[.slice (some ⟨G, 0, none⟩) 8 8, (.slice pa pn pn)] 36)) := Stay.alloc (X := fun _ => False) z1 (.cells #[.slice (some ⟨G, 0, none⟩) 8 8, (.slice pa pn pn)] 36)
        have hcc := heap_alloc_new z1 (.cells #[.slice (some ⟨G, 0, none⟩) 8 8, (.slice pa pn pn)] 36)
        change (z1.alloc (.cells #[.slice (some ⟨G, 0, none⟩) 8 8, (.slice pa pn pn)] 36)).heap[_]? = _ at hcc
        obtain ⟨z2, hzN⟩ : ∃ z, z = (z1.alloc (.cells #[.slice (some ⟨G, 0, none⟩) 8 8, (.slice pa pn pn)] 36)) := ⟨_, rfl⟩
        obtain ⟨gN, hgN⟩ : ∃ g, g = z1.heap.size := ⟨_, rfl⟩
        rw [← hzN, ← hgN] at hcc
        rw [← hzN] at s0 ⊢
        rw [← hgN]
        clear hzN hgN
        have HCC := Lib.hid hcc
        clear hcc
        have s : Stay (own pd ps pm) _ _ := s0.mono (fun _ x => x.elim)
        replace hs0 := hs0.trans s0
        clear s0
        replace hst := hst.trans s
        refine hK _ _ s ?_
        clear hK
        conv => arg 8; simp [Act.put]
        refine wpAnyH_narrow (S' := Stay (own pd ps pm) z2) (fun _ h => s.trans h) _ _ _ _ ?_
        clear s
        refine wpAnyH_one #[true, true, true, true, true, true, true, true, true, false, false] (i := 8) rfl (by kernel_rfl) (by kernel_rfl) (fun K hK => ?_)
        go_simp
        go_wp2_with (go_at_call 40; refine (HCON.out _ _ hs0 HCC.out).mono ?_; rintro e z3 ⟨v8, rfl, ho8, s0⟩; have HO8 := Lib.hid (Pk.Owns.base ho8 (base' := W.heap.size) (fun j hj => Nat.le_trans hs0.size (ho8.lt j hj).1)); clear ho8; have s : Stay (own pd ps pm) _ _ := s0.mono (fun _ x => x.elim); replace hs0 := hs0.trans s0; clear s0)
        replace hst := hst.trans s
        refine hK _ _ s ?_
        clear hK
        conv => arg 8; simp [Act.put]
        refine wpAnyH_narrow (S' := Stay (own pd ps pm) z3) (fun _ h => s.trans h) _ _ _ _ ?_
        clear s
        refine wpAnyH_one #[true, true, true, true, true, true, true, true, true, true, false] (i := 9) rfl (by kernel_rfl) (by kernel_rfl) (fun K hK => ?_)
        go_simp
        go_wp2_with (go_at_call 37; refine (HWR.out _ v8 hs0 HO8.out).mono ?_; rintro e z4 ⟨rfl, hd9, s⟩; have HD9 := Lib.hid hd9; clear hd9)
        replace hst := hst.trans s
        refine hK _ _ s ?_
        clear hK
        conv => arg 8; simp [Act.put]
        refine wpAnyH_narrow (S' := Stay (own pd ps pm) z4) (fun _ h => s.trans h) _ _ _ _ ?_
        clear s
        refine wpAnyH_takeL (i := 10) (v := ev) #[true, true, true, true, true, true, true, true, true, true, true] rfl (by kernel_rfl) (by kernel_rfl) (by kernel_rfl) (fun _ _ _ h => h) (by kernel_rfl) (Stay.refl _ _) (Or.inl ⟨by rfl, fun W hW => ?_⟩) ?_
        · go_simp
        conv => arg 8; simp [Act.put]
        refine wpAnyH_done (by kernel_rfl) ?_ _
        exact HPI.out _ _ _ _ _ _ _ _ _ _ _ _ _ _ _ _ HD9 (Lib.hid hst)
      refine AllReadyH.cons (o := _) rfl (fun K hK => ?_) ?_
      · go_simp
        have s0 : Stay (fun _ => False) W.drew (W.alloc (.cells #[.slice (some ⟨G, 0, none⟩) 8 8, (.slice pa pn pn)] 36)).drew := Stay.alloc (X := fun _ => False) W.drew (.cells #[.slice (some ⟨G, 0, none⟩) 8 8, (.slice pa pn pn)] 36)
        have hcc := heap_alloc_new W (.cells #[.slice (some ⟨G, 0, none⟩) 8 8, (.slice pa pn pn)] 36)
        change (W.alloc (.cells #[.slice (some ⟨G, 0, none⟩) 8 8, (.slice pa pn pn)] 36)).drew.heap[_]? = _ at hcc
        obtain ⟨z5, hzN⟩ : ∃ z, z = (W.alloc (.cells #[.slice (some ⟨G, 0, none⟩) 8 8, (.slice pa pn pn)] 36)).drew := ⟨_, rfl⟩
        obtain ⟨gN, hgN⟩ : ∃ g, g = W.heap.size := ⟨_, rfl⟩
        rw [← hzN, ← hgN] at hcc
        rw [← hzN] at s0 ⊢
        rw [← hgN]
        clear hzN hgN
        have HCC := Lib.hid hcc
        clear hcc
        have s : Stay (own pd ps pm) _ _ := s0.mono (fun _ x => x.elim)
        replace hs0 := hs0.trans s0
        clear s0
        replace hst := hst.trans s
        refine Shut.out hK _ _ s (fun _ => ?_)
        clear hK
        refine wpAnyH_listedL #[true, true, true, true, false, true, true, true, false, false, false] (by kernel_rfl) ?_
        conv => arg 8; simp [Act.put]
        refine wpAnyH_narrow (S' := Stay (own pd ps pm) z5) (fun _ h => s.trans h) _ _ _ _ ?_
        clear s
        refine wpAnyH_one #[true, true, true, true, true, true, true, true, false, false, false] (i := 4) rfl (by kernel_rfl) (by kernel_rfl) (fun K hK => ?_)
        go_simp
        go_wp2_with (go_at_call 35; refine (HSEC.out _).mono ?_; rintro e z6 ⟨rfl, s0⟩; have HCC := Lib.hid ((s0.block _ (Array.getElem?_eq_some_iff.1 HCC.out).1 (fun x => x)).trans HCC.out); have s : Stay (own pd ps pm) _ _ := s0.mono (fun _ x => x.elim); replace hs0 := hs0.trans s0; clear s0)
        replace hst := hst.trans s
        refine hK _ _ s ?_
        clear hK
        conv => arg 8; simp [Act.put]
        refine wpAnyH_narrow (S' := Stay (own pd ps pm) z6) (fun _ h => s.trans h) _ _ _ _ ?_
        clear s
        refine wpAnyH_one #[true, true, true, true, true, true, true, true, true, false, false] (i := 8) rfl (by kernel_rfl) (by kernel_rfl) (fun K hK => ?_)
        go_simp
        go_wp2_with (go_at_call 40; refine (HCON.out _ _ hs0 HCC.out).mono ?_; rintro e z7 ⟨v8, rfl, ho8, s0⟩; have HO8 := Lib.hid (Pk.Owns.base ho8 (base' := W.heap.size) (fun j hj => Nat.le_trans hs0.size (ho8.lt j hj).1)); clear ho8; have s : Stay (own pd ps pm) _ _ := s0.mono (fun _ x => x.elim); replace hs0 := hs0.trans s0; clear s0)
        replace hst := hst.trans s
        refine hK _ _ s ?_
        clear hK
        conv => arg 8; simp [Act.put]
        refine wpAnyH_narrow (S' := Stay (own pd ps pm) z7) (fun _ h => s.trans h) _ _ _ _ ?_
        clear s
        refine wpAnyH_one #[true, true, true, true, true, true, true, true, true, true, false] (i := 9) rfl (by kernel_rfl) (by kernel_rfl) (fun K hK => ?_)
        go_simp
        go_wp2_with (go_at_call 37; refine (HWR.out _ v8 hs0 HO8.out).mono ?_; rintro e z8 ⟨rfl, hd9, s⟩; have HD9 := Lib.hid hd9; clear hd9)
        replace hst := hst.trans s
        refine hK _ _ s ?_
        clear hK
        conv => arg 8; simp [Act.put]
        refine wpAnyH_narrow (S' := Stay (own pd ps pm) z8) (fun _ h => s.trans h) _ _ _ _ ?_
        clear s
        refine wpAnyH_takeL (i := 10) (v := ev) #[true, true, true, true, true, true, true, true, true, true, true] rfl (by kernel_rfl) (by kernel_rfl) (by kernel_rfl) (fun _ _ _ h => h) (by kernel_rfl) (Stay.refl _ _) (Or.inl ⟨by rfl, fun W hW => ?_⟩) ?_
        · go_simp
        conv => arg 8; simp [Act.put]
        refine wpAnyH_done (by kernel_rfl) ?_ _
        exact HPI.out _ _ _ _ _ _ _ _ _ _ _ _ _ _ _ _ HD9 (Lib.hid hst)
      exact AllReadyH.nil
    intro e a' W' h
    cases e with
    | normal =>
      obtain ⟨y17, y18, y19, y20, y21, y22, y23, y24, y25, y26, y27, y28, y29, y30, y31, rfl, HD9, HS9⟩ := HPO.out _ _ h
      have B4' : Boxed W' (B + 1) 3 (.int .i64 (m : Int)) := (HS9.out.block _ HFB.out.lt HNF.out).trans HFB.out
      have B6' : Boxed W' (B + 1 + 1) 26 .nilIface := (HS9.out.block _ HBE.out.lt (fun hq => absurd (hob _ hq) (by omega))).trans HBE.out
      have d4' := B4'.cell
      have f4' := B4'.frozen
      have d6' := B6'.cell
      have f6' := B6'.frozen
      have hD9 := HD9.out
      have hW9 := HS9.out.size
      by_cases hc : e2 = 0
      · have hev : ev = .nilIface := by rw [HEV.out, hc]; rfl
        subst hev
        have HC := Lib.hid hc
        clear hc
        gi_wp2
        have hS5 : Stay (fun q => own pd ps pm q ∨ q = B + 1) W (W'.setCell ⟨B + 1, 0, none⟩ (.int .i64 ((m : Int) + 1))) :=
          (HS9.out.mono (fun _ hq => Or.inl hq)).trans (Stay.setCell _ _ _ (Or.inr rfl))
        refine ⟨keepsFrom_stay hS5 (by rintro q (hq | hq) <;> first | (have := hob _ hq; omega) | omega),
          ⟨hS5.block _ (by omega) (by rintro (hq | hq); exact absurd (hob _ hq) (by omega); omega), hS5.block _ (by omega) (by rintro (hq | hq); exact absurd (hob _ hq) (by omega); omega)⟩,
          by rw [HSN.out]; exact HC.out, by rw [HSN.out]; exact hD9.stay (Stay.setCell (X := fun q => q = B + 1) _ _ _ rfl) (by omega) (by omega) (by omega), ?_, hS3.trans hS5⟩
        have hlen1 : (m : Int) + 1 = (fr : Int) + ((pre ++ [k]).length : Int) := by have := HM.out; simp; omega
        rw [← hlen1]
        exact B4'.set _
      · have hev : ev = .iface 50 (.int .i64 (e2 : Int)) := by rw [HEV.out]; exact errV_pos hc
        subst hev
        have HC := Lib.hid hc
        clear hc
        gi_wp2
        have hS5 : Stay (fun q => own pd ps pm q ∨ q = B + 1 ∨ q = B + 1 + 1) W (W'.setCell ⟨B + 1 + 1, 0, none⟩ (.iface 50 (.int .i64 (e2 : Int)))) :=
          (HS9.out.mono (fun _ hq => Or.inl hq)).trans (Stay.setCell _ _ _ (Or.inr (Or.inr rfl)))
        refine ⟨keepsFrom_stay hS5 (by rintro q (hq | hq) <;> first | (have := hob _ hq; omega) | omega), rfl, by rw [HSN.out]; exact HC.out,
          by rw [HSN.out]; exact hD9.stay (Stay.setCell (X := fun q => q = B + 1 + 1) _ _ _ rfl) (by omega) (by omega) (by omega), ?_, (hS3.mono (fun _ hq => hq.elim Or.inl (fun e => Or.inr (Or.inl e)))).trans hS5⟩
        rw [HSN.out, show errV e2 = .iface 50 (.int .i64 (e2 : Int)) from errV_pos HC.out]
        exact B6'.set _
    | _ => exact h.elim
  case done =>
    rintro D ys W hDl rfl ⟨hz, hD, hb, hS3⟩ hK
    have H6 : Boxed W (B + 1 + 1) 26 .nilIface := (hS3.block _ BE.lt (by rintro (hq | hq); exact absurd (hob _ hq) (by omega); omega)).trans BE
    have d6 := H6.cell
    have f6 := H6.frozen
    have hs : Stay (fun q => q = D) (W.setCell ⟨B + 1 + 1, 0, none⟩ .nilIface) ((W.setCell ⟨B + 1 + 1, 0, none⟩ .nilIface).putObj D (.deferred none)) := Stay.grown (grownBy_putObj' _ D _) (fun q e => by cases e; rfl)
    have hS4 : Stay (fun q => q = B + 1 + 1) W (W.setCell ⟨B + 1 + 1, 0, none⟩ .nilIface) := Stay.setCell _ _ _ rfl
    have B6 : Boxed (W.setCell ⟨B + 1 + 1, 0, none⟩ .nilIface) (B + 1 + 1) 26 .nilIface := Boxed.set _ H6
    have hKD : (W.setCell ⟨B + 1 + 1, 0, none⟩ .nilIface).heap[D]? = some (.deferred (some [])) := (KeepsOthers.setCell W _ _).same D _ hK rfl
    gi_wp2
    refine ⟨by simp, .inl ⟨_, _, rfl, run_takeDeferred hKD, ?_⟩⟩
    have hb2 : Boxed ((W.setCell ⟨B + 1 + 1, 0, none⟩ .nilIface).putObj D (.deferred none)) (B + 1 + 1) 26 .nilIface := B6.kept (grownBy_putObj' _ D _) (fun e => by cases e; omega)
    have d6' := hb2.cell
    refine ⟨.nilIface, by simp [results, Tryd.results26, go_sem, d6'], by rw [hz]; rfl, (hD.stay hS4 (by omega) (by omega) (by omega)).stay hs (by omega) (by omega) (by omega), ?_⟩
    exact (S01.mono (fun _ x => x.elim)).andThen ((hS3.mono (Y := fun q => own pd ps pm q ∨ w.heap.size ≤ q) (fun q hq => hq.elim Or.inl (fun e => Or.inr (by have := HB0.out; omega)))).trans ((hS4.mono (Y := fun q => own pd ps pm q ∨ w.heap.size ≤ q) (fun q e => Or.inr (by have := HB0.out; omega))).trans (hs.mono (fun q e => Or.inr (by have := HB0.out; omega))))) (fun q hq hy => hy.elim id (fun e => by have := HB0.out; omega))
  case stop =>
    rintro D cd pre W hDl ⟨k, hk, rfl⟩ ⟨rfl, hz, hD, hb, hS3⟩ hK
    have d6 := hb.cell
    have e1 : putsD F S sq l d fr (List.range (parts l.length)) = putsD F S sq l d fr (List.range k) := by
      obtain ⟨m, hm⟩ : ∃ m, parts l.length = k + m := ⟨parts l.length - k, by omega⟩
      have hst := putsD_stop F S sq l (List.range k) d fr ((List.range m).map (k + ·)) hz
      rw [← List.range_add, ← hm] at hst
      exact hst
    have hev : errV (putsD F S sq l d fr (List.range k)).2 = .iface 50 (.int .i64 ((putsD F S sq l d fr (List.range k)).2 : Int)) := errV_pos hz
    have hs : Stay (fun q => q = D) W (W.putObj D (.deferred none)) := Stay.grown (grownBy_putObj' W D _) (fun q e => by cases e; rfl)
    gi_wp2
    refine ⟨by simp, .inl ⟨_, _, rfl, run_takeDeferred hK, ?_⟩⟩
    have hb2 : Boxed (W.putObj D (.deferred none)) (B + 1 + 1) 26 (errV (putsD F S sq l d fr (List.range k)).2) := hb.kept (grownBy_putObj' W D _) (fun e => by cases e; omega)
    have d6' := hb2.cell
    refine ⟨errV (putsD F S sq l d fr (List.range k)).2, by rw [hev] at d6' ⊢; simp [results, Tryd.results26, go_sem, d6'], by rw [e1], by rw [e1]; exact hD.stay hs (by omega) (by omega) (by omega), ?_⟩
    exact (S01.mono (fun _ x => x.elim)).andThen (hS3.andThen hs (fun q hq hq' => by omega)) (fun q hq hy => by rcases hy with hy | hy | hy; exact hy; (have := HB0.out; omega); (have := HB0.out; omega))

end Go.Proofs.YthbcgimmbcdnmaaDoor.Lo
