/-
  delta: a byte laid behind parts.
-/
import Derived.Test.YtnlknnhibnfhcaaDoorDeC
namespace Go.Proofs.YtnlknnhibnfhcaaDoor.De
open Go.RowKit Pk
set_option maxRecDepth 100000

/-- Parts of one's own, of which the last one is told; its bytes lie beside all else. -/
structure Grown (base : Nat) (w : World) (v : Value) (L' : List Po) (t : List UInt8) (x : Value) : Prop where
  own : PsOwn 49 base w v (L' ++ [⟨tellP t, x⟩])
  bl : ∀ q ∈ L' ++ [⟨tellP t, x⟩], 0 < q.p.b.length → ∀ k, q.x.ownBlock = some k → base ≤ k
  last : Owns base w x t
  ne : ∀ q ∈ L', 0 < q.p.b.length → q.x.ownBlock ≠ x.ownBlock

/-- What Ops has laid so far: parts, and behind them one that is told, if any byte is. -/
def OpsSt (base : Nat) (w : World) (v : Value) (l : List Pt) (t : List UInt8) : Prop :=
  ∃ L : List Po, L.map Po.p = flatP l t ∧ PsOwn 49 base w v L ∧ (∀ q ∈ L, 0 < q.p.b.length → ∀ k, q.x.ownBlock = some k → base ≤ k) ∧
    (t ≠ [] → ∃ L' x, L = L' ++ [⟨tellP t, x⟩] ∧ Grown base w v L' t x)

/-- Behind the store: the last part has a byte more. -/
theorem told_more {base : Nat} {w w1 : World} {g n c : Nat} {L' : List Po} {x x1 : Value} {t : List UInt8} {b : UInt8} (hn : n = L'.length)
    (ho : PsOwn 49 base w (.slice (some ⟨g, 0, none⟩) (n + 1) c) (L' ++ [⟨tellP t, x⟩])) (hbl : ∀ q ∈ L' ++ [⟨tellP t, x⟩], 0 < q.p.b.length → ∀ k, q.x.ownBlock = some k → base ≤ k)
    (hd : ∀ q ∈ L', 0 < q.p.b.length → q.x.ownBlock ≠ x.ownBlock) (hxv : x.ownBlock ≠ some g)
    (h1 : Owns base w1 x1 (t ++ [b])) (hs : Stay (fun k => x.ownBlock = some k) w w1) (hnew : x1.ownBlock = x.ownBlock ∨ (∃ k, x1.ownBlock = some k ∧ w.heap.size ≤ k)) :
    ∀ w2, w2 = w1.setCell ⟨g, n * 4 + 3, none⟩ x1 → Grown base w2 (.slice (some ⟨g, 0, none⟩) (n + 1) c) L' (t ++ [b]) x1 := by
  rintro w2 rfl
  subst hn
  have hg1 : x1.ownBlock ≠ some g := by
    rcases hnew with h | ⟨k, h, hk⟩
    · rw [h]; exact hxv
    · rw [h]
      intro e
      cases e
      have := (ho.lt g rfl).2
      omega
  have hdl : ∀ q ∈ L', 0 < q.p.b.length → q.x.ownBlock ≠ x1.ownBlock := by
    intro q hq h0
    rcases hnew with h | ⟨k, h, hk⟩
    · rw [h]; exact hd q hq h0
    · rw [h]
      intro e
      have := (ho.slc q (List.mem_append_left _ hq)).blk_lt h0 k e
      omega
  have hrow1 : w1.ownsRow base 49 4 (.slice (some ⟨g, 0, none⟩) (L'.length + 1) c) (L'.length + 1) (poRows (L' ++ [⟨tellP t, x⟩])) := by
    have hr := ho.row
    rw [List.length_append, List.length_singleton] at hr
    refine ⟨hr.1, ?_⟩
    rcases hr.2 with ⟨e, _⟩ | ⟨g', cap, cur, e, hb, hg, r⟩
    · cases e
    · refine .inr ⟨g', cap, cur, e, hb, ?_, r⟩
      have hxg : x.ownBlock ≠ some g' := by
        cases e
        exact hxv
      exact (hs.block _ (Array.getElem?_eq_some_iff.1 hg).1 hxg).trans hg
  have hst := hrow1.stored (L'.length * 4 + 3) x1
  have hset : (poRows (L' ++ [⟨tellP t, x⟩])).set (L'.length * 4 + 3) x1 = poRows (L' ++ [⟨tellP (t ++ [b]), x1⟩]) := by
    rw [poRows_snoc, poRows_snoc, List.set_append_right _ _ (by rw [length_poRows]; omega), length_poRows, show L'.length * 4 + 3 - L'.length * 4 = 3 by omega]
    rfl
  rw [hset] at hst
  have hstay : Stay (fun k => k = g) w1 (w1.setCell ⟨g, L'.length * 4 + 3, none⟩ x1) := Stay.setCell _ _ _ rfl
  have hown : Owns base (w1.setCell ⟨g, L'.length * 4 + 3, none⟩ x1) x1 (t ++ [b]) := h1.stay hstay (fun k hk e => hg1 (by rw [hk, e]))
  have hall : ∀ q ∈ L' ++ [⟨tellP (t ++ [b]), x1⟩], Slc (w1.setCell ⟨g, L'.length * 4 + 3, none⟩ x1) q.x q.p.b ∧ I64q q.p ∧ (0 < q.p.b.length → q.x.ownBlock ≠ some g) ∧ (0 < q.p.b.length → ∀ k, q.x.ownBlock = some k → base ≤ k) := by
    intro q hq
    rcases List.mem_append.1 hq with hq | hq
    · have hq' := List.mem_append_left [⟨tellP t, x⟩] hq
      have hne := ho.ne q hq'
      refine ⟨?_, ho.i64 q hq', hne, hbl q hq'⟩
      obtain ⟨a0, c0, e, hr, hn⟩ := ho.slc q hq'
      refine ⟨a0, c0, e, (hr.stay hs (fun h0 ad ha hv => hd q hq h0 ?_)).stay hstay (fun h0 ad ha hv => hne h0 ?_), hn⟩
      · rw [e, ha, hv]; rfl
      · rw [e, ha]; exact congrArg some hv
    · obtain rfl := List.mem_singleton.1 hq
      exact ⟨hown.slc, I64q.tell _, fun _ => hg1, fun _ k hk => (hown.lt k hk).1⟩
  refine ⟨⟨by simpa using hst.1, fun q hq => (hall q hq).1, fun q hq => (hall q hq).2.1, fun q hq => (hall q hq).2.2.1⟩, fun q hq => (hall q hq).2.2.2, hown, hdl⟩

theorem frozen_own {base : Nat} {w w0 w1 : World} {ty : TypeId} {g n c : Nat} {xs : List Value} {o : Option Nat} (h : w.ownsRow base ty 4 (.slice (some ⟨g, 0, none⟩) n c) n xs) (h0 : Stay (fun _ => False) w w0) (h1 : Stay (fun k => o = some k) w0 w1) (ho : o ≠ some g) (j : Nat) : w1.frozen? ⟨g, j, none⟩ = false := by
  rcases h.2 with ⟨e, _⟩ | ⟨g', cap, cur, e, hb, hg, r⟩
  · cases e
  · cases e
    have hg1 := (h0.block _ (Array.getElem?_eq_some_iff.1 hg).1 (fun x => x)).trans hg
    exact frozen_of_row w1 _ j _ _ ((h1.block _ (Array.getElem?_eq_some_iff.1 hg1).1 ho).trans hg1)

set_option maxHeartbeats 4000000 in
theorem tell_more (base : Nat) (w : World) (g n cap : Nat) (L' : List Po) (x : Value) (t : List UInt8) (b : UInt8) (hn : n = L'.length) (hn64 : n ≤ 64) (ht0 : t ≠ []) (ht64 : t.length ≤ 64)
    (hgr : Grown base w (.slice (some ⟨g, 0, none⟩) (n + 1) cap) L' t x) (hbase : base ≤ w.heap.size) :
    Calls Tryd.prog 38 #[.slice (some ⟨g, 0, none⟩) (n + 1) cap, .int .u8 (b.toNat : Int)] w fun e w' => e = .returned (.slice (some ⟨g, 0, none⟩) (n + 1) cap) ∧ (∃ x1, Grown base w' (.slice (some ⟨g, 0, none⟩) (n + 1) cap) L' (t ++ [b]) x1) ∧ Stay (fun k => base ≤ k) w w' := by
  obtain ⟨ho, hbl, hx, hd⟩ := hgr
  obtain ⟨i0, hi, hz0, hz1, hz2⟩ := info_parts info5
  have HI := Lib.hid hi
  have HZ0 := Lib.hid hz0
  have HZ1 := Lib.hid hz1
  have HZ2 := Lib.hid hz2
  have HO := Lib.hid ho
  have HX := Lib.hid hx
  have HXA := Lib.hid (hx.alloc (.cells #[.int .u8 (b.toNat : Int)] 5))
  have hxv : x.ownBlock ≠ some g := ho.ne ⟨tellP t, x⟩ (by simp) (List.length_pos_iff.2 ht0)
  have HXV := Lib.hid hxv
  have hcell := fun j u hu => (show ∀ j u, (poC ⟨tellP t, x⟩)[j]? = some u → w.cell? ⟨g, n * 4 + j, none⟩ = some u from by
    obtain ⟨a0, c0, e, _, _, h3⟩ := ho.at.ex
    obtain ⟨g', o, e', hc⟩ := h3 (by simp)
    obtain ⟨e1, _, _⟩ := Value.slice.inj e
    rw [← e1] at e'
    cases e'
    intro j u hu
    have := hc n ⟨tellP t, x⟩ (by subst hn; simp) j u hu
    rw [Nat.zero_add] at this
    exact this) j u hu
  have k0 : w.cell? ⟨g, n * 4, none⟩ = some (.bool false) := hcell 0 _ rfl
  have k3 : w.cell? ⟨g, n * 4 + 3, none⟩ = some x := hcell 3 _ rfl
  have hz : ((n : Int) + 1 == 0) = false := beq_eq_false_iff_ne.2 (by omega)
  have HT := Lib.hid ht64
  have hrow := ho.row
  rw [List.length_append, List.length_singleton, ← hn] at hrow
  have HRW := Lib.hid hrow
  have hlt := (ho.lt g rfl).2
  obtain ⟨xa, xc, rfl⟩ := hx.form
  have HN := Lib.hid hn
  clear hi hz0 hz1 hz2 ho hx hxv hcell ht64 hrow hn
  go_enter Tryd.func38, Tryd.ntmps38
  have HS1 := Lib.hid (slc_one w b (b.toNat : Int) rfl)
  have HBL := Lib.hid hbl
  have HD := Lib.hid hd
  clear hbl hd
  go_wp2_with (at_builtin; refine wpList_append_slc rfl (.tmp 31) (.tmp 33) 25 rfl base i0 Tryd.underlying25 HI.out HZ0.out HZ1.out HZ2.out (.slice xa t.length xc) _ t [b] rfl rfl HXA.out HS1.out (by have := HT.out; simp; omega) (by simp; omega) ?_; intro v1 w1 hown hgr hnn; have hst1 := Stay.grown (X := fun k => (Value.slice xa t.length xc).ownBlock = some k) hgr (fun k hk => hk); have hfr : w1.frozen? ⟨g, n * 4 + 3, none⟩ = false := frozen_own HRW.out (Stay.alloc _ _) hst1 HXV.out _; have hc1 := hst1.cell (((Stay.alloc (X := fun _ => False) w (.cells #[.int .u8 (b.toNat : Int)] 5)).cell k3 (fun x => x))) (HXV.out); have HOW := Lib.hid hown; have HST := Lib.hid hst1; have HNN := Lib.hid hnn; obtain ⟨a1, c1, rfl⟩ := hown.form; clear hown hgr hst1 hnn)
  go_ret
  have hw := told_more HN.out HO.out HBL.out HD.out HXV.out HOW.out ((Stay.alloc _ _).trans HST.out) (by
    rcases HNN.out with h | h
    · exact .inl h
    · exact .inr ⟨_, h, by simp⟩) _ rfl
  rw [List.length_append, List.length_singleton] at hw
  exact ⟨rfl, ⟨_, hw⟩, (((Stay.alloc _ _).trans HST.out).mono (fun k hk => (HX.out.lt k hk).1)).trans (Stay.setCell _ _ _ (HO.out.lt g rfl).1)⟩
end Go.Proofs.YtnlknnhibnfhcaaDoor.De
