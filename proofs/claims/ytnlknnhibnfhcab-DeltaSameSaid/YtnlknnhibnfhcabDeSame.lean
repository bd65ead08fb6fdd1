/-
  delta's laws: DeltaSame, walked.
-/
import Derived.Test.YtnlknnhibnfhcabDeW
namespace Go.Proofs.Ytnlknnhibnfhcab.De
open Go.RowKit Pk
set_option maxRecDepth 100000

/-- 256 truths. -/
def bC (f : Nat → Bool) : List Value := (List.range 256).map fun i => Value.bool (f i)
def BoAt (w : World) (g : Nat) (f : Nat → Bool) : Prop := w.heap[g]? = some (.cells (bC f).toArray 26 (0, 0))
theorem BoAt.lt {w : World} {g : Nat} {f : Nat → Bool} (h : BoAt w g f) : g < w.heap.size := (Array.getElem?_eq_some_iff.1 h).1
theorem BoAt.c {w : World} {g : Nat} {f : Nat → Bool} (h : BoAt w g f) {i : Nat} (hi : i < 256) : w.cell? ⟨g, i, none⟩ = some (.bool (f i)) := by
  rw [cell_of_row w g i _ _ _ h]
  simp [bC, hi]
theorem BoAt.fr {w : World} {g : Nat} {f : Nat → Bool} (h : BoAt w g f) (i : Nat) : w.frozen? ⟨g, i, none⟩ = false := frozen_of_row w g i _ _ h
theorem BoAt.stay {X : Nat → Prop} {w w' : World} {g : Nat} {f : Nat → Bool} (h : BoAt w g f) (hs : Stay X w w') (hx : ¬ X g) : BoAt w' g f := (hs.block g h.lt hx).trans h
theorem BoAt.set {w : World} {g : Nat} {f : Nat → Bool} (h : BoAt w g f) (i : Nat) : BoAt (w.setCell ⟨g, i, none⟩ (.bool true)) g (fun x => f x || x == i) := by
  unfold BoAt at h ⊢
  simp only [World.setCell, Array.getElem?_modify, if_true, h, Option.map_some]
  congr 2
  apply Array.ext_getElem?
  intro j
  by_cases hj : j < 256
  · by_cases e : j = i
    · subst e
      simp [bC, hj]
    · simp [bC, hj, e, Ne.symm e]
  · simp [bC, hj]
theorem zero_bools (w : World) : (zeroValue 26).run Try.prog w = .ok (.agg (bC (fun _ => false)).toArray) w := by kernel_rfl
theorem _root_.Go.Proofs.Ytnlknnhibnfhcab.BAt.set {w : World} {g : Nat} {ty : TypeId} {l : List UInt8} (h : BAt w g ty l) (j : Nat) (c : UInt8) : BAt (w.setCell ⟨g, j, none⟩ (.int .u8 (c.toNat : Int))) g ty (l.set j c) := by
  unfold BAt at h ⊢
  simp only [World.setCell, Array.getElem?_modify, if_true, h, Option.map_some]
  congr 2
  simp only [List.setIfInBounds_toArray, cellsB, List.map_set]
  rfl

/-- Whether a number is one of the first k bytes. -/
def seenN (b : List UInt8) (k x : Nat) : Bool := (b.take k).any (fun c => x == c.toNat)
theorem seen_succ {b : List UInt8} {k : Nat} {c : UInt8} (h : b[k]? = some c) : seenN b (k + 1) = fun x => seenN b k x || x == c.toNat := by
  funext x
  unfold seenN
  rw [List.take_add_one, h]
  simp
theorem seen_all {b : List UInt8} {k x : Nat} (hk : b.length = k) : seenN b k x = true ↔ ∃ c ∈ b, c.toNat = x := by
  unfold seenN
  rw [List.take_of_length_le (by omega), List.any_eq_true]
  constructor
  · rintro ⟨c, h, e⟩
    exact ⟨c, h, (beq_iff_eq.1 e).symm⟩
  · rintro ⟨c, h, e⟩
    exact ⟨c, h, beq_iff_eq.2 e.symm⟩
theorem u8_wrap {n : Nat} (h : n < 256) : IntKind.u8.wrap (n : Int) = (n : Int) := by
  have e : IntKind.u8.wrap (n : Int) = (n : Int) % 256 := by simp [IntKind.wrap, IntKind.bits, IntKind.signed]
  rw [e]
  omega
theorem rep_set (j : Nat) (c y : UInt8) (h : j < 64) : (List.replicate j c ++ List.replicate (64 - j) y).set j c = List.replicate (j + 1) c ++ List.replicate (64 - (j + 1)) y := by
  rw [List.set_append_right _ _ (by simp), List.length_replicate, Nat.sub_self, show 64 - j = (64 - (j + 1)) + 1 by omega, List.replicate_succ, List.set_cons_zero, List.replicate_succ', List.append_assoc]
  rfl
theorem po_tell {L : List Po} {b : List UInt8} (h : L.map Po.p = [tellP b]) : ∃ x, L = [⟨tellP b, x⟩] := by
  match L, h with
  | [⟨p, x⟩], h =>
    have : p = tellP b := by simpa using h
    exact ⟨x, by rw [this]⟩

theorem run_whole (w : World) (g : Nat) : (Instr.sliceAt 23 (.pointer (some ⟨g, 0, none⟩)) none none none).run Try.prog w = .ok (.slice (some ⟨g, 0, none⟩) 64 64) w := by
  rw [run_sliceAt_array_all w 23 ⟨g, 0, none⟩ under_64, size_64, len_64]
  simp only [Result.andThen, slicedAt, Nat.mul_one]
  rfl

set_option maxHeartbeats 4000000 in
theorem same_walk (w : World) (b : List UInt8) (hb : b.length = 64) :
    Calls Try.prog 3 #[arrV b] w fun e w' => e = .returned (.bool true) ∧ Stay (fun _ => False) w w' := by
  have h0 := BAt.new w 23 b
  have hs0 : Stay (fun _ => False) w (w.alloc (.cells (cellsB b).toArray 23)) := Stay.alloc _ _
  obtain ⟨w0, hw0⟩ : ∃ w0, w.alloc (.cells (cellsB b).toArray 23) = w0 := ⟨_, rfl⟩
  rw [hw0] at h0 hs0
  have HB := Lib.hid hb
  have H0 := Lib.hid h0
  have HS0 := Lib.hid hs0
  have W0 := Lib.hid hw0
  clear hb h0 hs0 hw0
  unfold arrV
  go_enter Try.func3, Try.ntmps3
  go_wp2_with (first
    | (rw [W0.out]; refine arr_64.load rfl (.tmp 1) rfl w.heap.size rfl b HB.out H0.out ?_)
    | (refine arr_64.load rfl (.tmp 1) rfl w.heap.size rfl b HB.out H0.out ?_))
  refine (ops_any w0 b b HB.out HB.out).mono ?_
  rintro e w1 ⟨v1, rfl, ⟨L1, hL1, hv1⟩, hs1⟩
  rw [ops_self HB.out] at hL1
  obtain ⟨x1, rfl⟩ := po_of hL1
  obtain ⟨a1, c1, rfl, _, _, hcell1⟩ := hv1.ex
  obtain ⟨g1, o1, rfl, hcl1⟩ := hcell1 (by simp)
  have HCL1 := Lib.hid (hcl1 0 _ rfl)
  have H1 := Lib.hid (H0.out.stay0 hs1)
  have HS1 := Lib.hid (HS0.out.trans hs1)
  have hg2 : BoAt (w1.alloc (.cells (bC (fun _ => false)).toArray 26)) w1.heap.size (fun _ => false) := heap_alloc_new _ _
  have hs2 : Stay (fun _ => False) w1 (w1.alloc (.cells (bC (fun _ => false)).toArray 26)) := Stay.alloc _ _
  obtain ⟨w2, hw2⟩ : ∃ w2, w1.alloc (.cells (bC (fun _ => false)).toArray 26) = w2 := ⟨_, rfl⟩
  have hz2 : w2.heap.size = w1.heap.size + 1 := by rw [← hw2]; simp
  rw [hw2] at hg2 hs2
  have hz1 := HS1.out.size
  obtain ⟨G, hG⟩ : ∃ G, G = w1.heap.size := ⟨_, rfl⟩
  rw [← hG] at hg2 hz2 hz1
  have HG2 := Lib.hid hg2
  have HS2 := Lib.hid (HS1.out.trans hs2)
  have H2 := Lib.hid (H1.out.stay0 hs2)
  have HCL2 := Lib.hid (fun j u hu => hs2.cell (HCL1.out j u hu) (fun x => x))
  have hlt1 := H1.out.lt
  rw [← hG] at hlt1
  have hgl1 : g1 < G := by rw [hG]; exact World.block_lt_of_cell? w1 _ (HCL1.out 0 _ rfl)
  have W2 := Lib.hid hw2
  have HGE := Lib.hid hG
  clear hs1 hL1 hv1 hcell1 hcl1 hg2 hs2 hw2 hG
  go_wp2_with (with_reducible refine wpList_alloc_at rfl 26 rfl _ (zero_bools _) ?_; rw [show (Value.agg (bC (fun _ => false)).toArray).cells = (bC (fun _ => false)).toArray from rfl, W2.out, ← HGE.out])
  clear W2 HGE H1 HCL1 HS1
  go_loopw [5] (fun i wr => ∃ k : Nat, k ≤ 64 ∧ i = .int .i64 (k : Int) ∧ BoAt wr G (seenN b k) ∧ BAt wr w.heap.size 23 b ∧ Stay (fun j => j = G) w2 wr) (fun i _ => 64 - (intOf i).toNat)
  case atStart => exact ⟨0, by omega, rfl, by rw [show seenN b 0 = fun _ => false by funext x; simp [seenN]]; exact HG2.out, H2.out, Stay.refl _ _⟩
  case round =>
    obtain ⟨k, hk, rfl, hbo, hbb, hst⟩ := hrel
    have HBO := Lib.hid hbo
    have HBB := Lib.hid hbb
    have HT := Lib.hid hst
    clear hbo hbb hst
    by_cases hlt : k < 64
    · obtain ⟨c, hc⟩ : ∃ c, b[k]? = some c := ⟨_, List.getElem?_eq_getElem (by rw [HB.out]; omega)⟩
      have kb : wr.cell? ⟨w.heap.size, k, none⟩ = some (.int .u8 (c.toNat : Int)) := by
        have := blk_cell HBB.out (i := k) (by rw [HB.out]; omega)
        rw [this]
        rw [List.getElem?_eq_getElem (by rw [HB.out]; omega)] at hc
        cases hc
        rfl
      have hc256 := c.toNat_lt
      have kc := HBO.out.c (i := c.toNat) (by omega)
      have kf := HBO.out.fr c.toNat
      have HSN := Lib.hid (seen_succ hc)
      clear hc
      go_wp2
      refine ⟨⟨k + 1, by omega, by go_num, by rw [HSN.out]; exact HBO.out.set c.toNat, HBB.out.stay (Stay.setCell (X := fun j => j = G) _ _ _ rfl) (by omega), HT.out.trans (Stay.setCell (X := fun j => j = G) _ _ _ rfl)⟩, by simp [intOf]; omega⟩
    · obtain rfl : k = 64 := by omega
      have HU := Lib.hid (some_unseen HB.out)
      have hzr : w2.heap.size ≤ wr.heap.size := HT.out.size
      have hq3 := BAt.new wr 23 z64
      have hs3 : Stay (fun _ => False) wr (wr.alloc (.cells (cellsB z64).toArray 23)) := Stay.alloc _ _
      obtain ⟨w3, hw3⟩ : ∃ w3, wr.alloc (.cells (cellsB z64).toArray 23) = w3 := ⟨_, rfl⟩
      rw [hw3] at hq3 hs3
      obtain ⟨C, hC⟩ : ∃ C, C = wr.heap.size := ⟨_, rfl⟩
      rw [← hC] at hq3 hzr
      have HQ3 := Lib.hid hq3
      have HBO3 := Lib.hid (HBO.out.stay hs3 (fun x => x))
      have HBB3 := Lib.hid (HBB.out.stay0 hs3)
      have HT3 := Lib.hid (HT.out.trans (hs3.mono (fun _ x => x.elim)))
      have W3 := Lib.hid hw3
      have HCE := Lib.hid hC
      clear hq3 hs3 hw3 hC
      go_wp2_with (first
        | (with_reducible refine arr_64.alloc rfl rfl ?_; rw [show List.replicate 64 0 = z64 from rfl, W3.out, ← HCE.out])
        | (refine arr_64.store rfl (.tmp 6) (.tmp 21) rfl C rfl z64 z64 rfl len_z64 len_z64 HQ3.out ?_
           intro w4 h4 s4
           have HC4 := Lib.hid h4
           have HBO4 := Lib.hid (HBO3.out.stay s4 (fun e => by have e' : G = C := e; omega))
           have HBB4 := Lib.hid (HBB3.out.stay s4 (fun e => by have e' : w.heap.size = C := e; omega))
           have HT4 := Lib.hid ((HT3.out.mono (Y := fun j => j = G ∨ j = C) (fun _ e => .inl e)).trans (s4.mono (fun _ e => .inr e)))
           clear h4 s4))
      go_loopw [7] (fun i wr => ∃ k : Nat, k ≤ 256 ∧ i = .int .i64 (k : Int) ∧ (∃ y : UInt8, BAt wr C 23 (List.replicate 64 y) ∧ ((∀ x, x < k → seenN b 64 x = true) ∨ ∀ c ∈ b, c ≠ y)) ∧ BoAt wr G (seenN b 64) ∧ BAt wr w.heap.size 23 b ∧ Stay (fun j => j = G ∨ j = C) w2 wr) (fun i _ => 256 - (intOf i).toNat)
      case atStart => exact ⟨0, by omega, rfl, ⟨0, HC4.out, .inl (fun x h => by omega)⟩, HBO4.out, HBB4.out, HT4.out⟩
      case round =>
        obtain ⟨k, hk, rfl, ⟨y, hcy, hor⟩, hbo, hbb, hst⟩ := hrel
        have HCY := Lib.hid hcy
        have HOR := Lib.hid hor
        have HBO5 := Lib.hid hbo
        have HBB5 := Lib.hid hbb
        have HT5 := Lib.hid hst
        clear hcy hor hbo hbb hst
        by_cases hlt : k < 256
        · have kc := HBO5.out.c hlt
          generalize hsn : seenN b 64 k = sn at kc
          have HSN := Lib.hid hsn
          clear hsn
          cases sn
          · have hwk := u8_wrap hlt
            have hck : ((UInt8.ofNat k).toNat : Int) = (k : Int) := by rw [toNat_ofNat hlt]
            have HCK := Lib.hid hck
            clear hck
            go_wp2
            obtain ⟨wo, hwo⟩ : ∃ wo, wo = wr := ⟨_, rfl⟩
            rw [← hwo] at HCY HBO5 HBB5 HT5 ⊢
            go_loopw [8] (fun i wr => ∃ j : Nat, j ≤ 64 ∧ i = .int .i64 (j : Int) ∧ BAt wr C 23 (List.replicate j (UInt8.ofNat k) ++ List.replicate (64 - j) y) ∧ Stay (fun j => j = C) wo wr) (fun i _ => 64 - (intOf i).toNat)
            case atStart => exact ⟨0, by omega, rfl, HCY.out, Stay.refl _ _⟩
            case round =>
              obtain ⟨j, hj, rfl, hcc, hst⟩ := hrel
              have HCC := Lib.hid hcc
              have HTI := Lib.hid hst
              clear hcc hst
              by_cases hjl : j < 64
              · have kf := HCC.out.fr j
                have kcell : ∃ u, wr.cell? ⟨C, j, none⟩ = some u := by
                  rw [HCC.out.c]
                  exact ⟨_, List.getElem?_eq_getElem (by rw [length_cellsB, List.length_append, List.length_replicate, List.length_replicate]; omega)⟩
                obtain ⟨u, hu⟩ := kcell
                have hset := HCC.out.set j (UInt8.ofNat k)
                rw [HCK.out, rep_set j _ y hjl] at hset
                have HSET := Lib.hid hset
                clear hset
                go_wp2
                refine ⟨⟨j + 1, by omega, by go_num, HSET.out, HTI.out.trans (Stay.setCell (X := fun j => j = C) _ _ _ rfl)⟩, by simp [intOf]; omega⟩
              · obtain rfl : j = 64 := by omega
                have hcc := HCC.out
                rw [show List.replicate (64 - 64) y = [] from rfl, List.append_nil] at hcc
                have HC6 := Lib.hid hcc
                clear hcc
                go_wp2
                refine ⟨⟨k + 1, by omega, by go_num, ⟨UInt8.ofNat k, HC6.out, .inr (fun c hc e => ?_)⟩, HBO5.out.stay HTI.out (by omega), HBB5.out.stay HTI.out (by omega), HT5.out.trans (HTI.out.mono (fun _ e => .inr e))⟩, by simp [intOf]; omega⟩
                have h1 := (seen_all (x := k) HB.out).2 ⟨c, hc, by rw [e, toNat_ofNat hlt]⟩
                rw [HSN.out] at h1
                cases h1
          · go_wp2
            refine ⟨⟨k + 1, by omega, by go_num, ⟨y, HCY.out, ?_⟩, HBO5.out, HBB5.out, HT5.out⟩, by simp [intOf]; omega⟩
            rcases HOR.out with h | h
            · refine .inl (fun x hx => ?_)
              by_cases e : x = k
              · rw [e]; exact HSN.out
              · exact h x (by omega)
            · exact .inr h
        · obtain rfl : k = 256 := by omega
          have hny : y ∉ b := by
            rcases HOR.out with h | h
            · obtain ⟨x, hx, hno⟩ := HU.out
              obtain ⟨c, hc, e⟩ := (seen_all HB.out).1 (h x hx)
              exact absurd e (hno c hc)
            · exact fun hm => h y hm rfl
          have HNY := Lib.hid hny
          clear hny
          have hlr : (List.replicate 64 y).length = 64 := List.length_replicate
          go_wp2_with (first
            | (refine arr_64.load rfl (.tmp 6) rfl C rfl (List.replicate 64 y) hlr HCY.out ?_)
            | (refine arr_64.load rfl (.tmp 1) rfl w.heap.size rfl b HB.out HBB5.out ?_))
          refine (ops_any wr (List.replicate 64 y) b hlr HB.out).mono ?_
          rintro e w6 ⟨v6, rfl, ⟨L6, hL6, hv6⟩, hs6⟩
          rw [ops_none HB.out HNY.out] at hL6
          obtain ⟨x6, rfl⟩ := po_tell hL6
          have hsl6 : Slc w6 x6 b := hv6.slc _ (List.mem_singleton.2 rfl)
          obtain ⟨a6, c6, rfl, _, _, hcell6⟩ := hv6.ex
          obtain ⟨g6, o6, rfl, hcl6⟩ := hcell6 (by simp)
          obtain ⟨xa, xc, rfl⟩ := Slc.form hsl6
          have HCL6 := Lib.hid (hcl6 0 _ rfl)
          have HSL6 := Lib.hid hsl6
          have HB6 := Lib.hid (HBB5.out.stay0 hs6)
          have HCL16 := Lib.hid (fun j u hu => hs6.cell (HT5.out.cell (HCL2.out j u hu) (fun e => by rcases e with e | e <;> (have e' := e; simp at e'; omega))) (fun x => x))
          have HT6 := Lib.hid (HT5.out.trans (hs6.mono (fun _ x => x.elim)))
          clear hL6 hv6 hsl6 hcell6 hcl6 hs6
          obtain ⟨D, hDd⟩ : ∃ D : World → Prop, D = Stay (fun _ => False) w6 := ⟨_, rfl⟩
          have HD := Lib.hid (show ∀ W, D W → Stay (fun _ => False) w6 W by intro W h; rw [hDd] at h; exact h)
          have HDm := Lib.hid (show ∀ W, Stay (fun _ => False) w6 W → D W by intro W h; rw [hDd]; exact h)
          clear hDd
          have HN0 := Lib.hid (HDm.out w6.drew Stay.drew)
          haveI : Nonempty (InC D) := ⟨⟨_, HN0.out⟩⟩
          have k10 := fun i : InC D => show i.w.cell? ⟨g1, o1, none⟩ = some (.bool true) from (HD.out _ i.h).cell (by have := HCL16.out 0 _ rfl; simpa [copyP] using this) (fun x => x)
          have k12 := fun i : InC D => show i.w.cell? ⟨g1, o1 + 2, none⟩ = some (.int .i64 64) from (HD.out _ i.h).cell (by have := HCL16.out 2 _ rfl; simpa [copyP] using this) (fun x => x)
          have k60 := fun i : InC D => show i.w.cell? ⟨g6, o6, none⟩ = some (.bool false) from (HD.out _ i.h).cell (by have := HCL6.out 0 _ rfl; simpa [tellP] using this) (fun x => x)
          have k63 := fun i : InC D => show i.w.cell? ⟨g6, o6 + 3, none⟩ = some (.slice xa b.length xc) from (HD.out _ i.h).cell (by have := HCL6.out 3 _ rfl; simpa [tellP] using this) (fun x => x)
          have kw := fun i : InC D => run_whole i.w w.heap.size
          have cv1 := fun i : InC D => conv_slc (HSL6.out.stay0 (HD.out _ i.h))
          have cv2 := fun i : InC D => conv_slc ((HB6.out.stay0 (HD.out _ i.h)).whole HB.out (by decide))
          unfold strV at cv1 cv2
          have C1 := Lib.hid (show ∀ W, D W → Calls Try.prog 5 #[] W fun e w' => e = .returned (.bool true) ∧ D w' from fun W hW => (sure_any W).mono fun e w' ⟨h1, h2⟩ => ⟨h1, HDm.out _ ((HD.out W hW).trans h2)⟩)
          have hbl := HB.out
          rw [HB.out] at k63 cv1
          go_wp2_with fail
          refine wp_region_class D HN0.out (by kernel_rfl) (by kernel_rfl) ?_
          try go_frame
          repeat (go_big_quiet_step (with_reducible exact calls_class C1.out))
          refine wpQuiet_nil ?_
          rintro W ⟨i, rfl⟩
          have hs := HD.out _ i.h
          clear k10 k12 k60 k63 kw cv1 cv2
          generalize i.w = w9 at *
          go_wp2
          go_ret
          refine ⟨rfl, stay_seal (X := fun j => w.heap.size ≤ j) (((HS2.out.mono (fun _ x => x.elim)).trans (HT6.out.mono (fun j e => by rcases e with e | e <;> omega))).trans (hs.mono (fun _ x => x.elim))) (fun j hj => hj)⟩
end Go.Proofs.Ytnlknnhibnfhcab.De
