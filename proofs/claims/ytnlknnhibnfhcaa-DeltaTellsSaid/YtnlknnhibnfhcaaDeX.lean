/-
  The document's answer (chapter 10): the parts that tell a block.
-/
import Derived.Test.YtnlknnhibnfhcaaDeM
import Derived.Test.YtnlknnhibnfhcaaDeF
import Derived.Test.YtnlknnhibnfhcaaDeO
namespace Go.Proofs.Ytnlknnhibnfhcaa.De
open Go.RowKit Pk
set_option maxRecDepth 100000

/-- What the document's Ops has laid so far: the parts, and the bytes that are told behind them. -/
structure RSt (B : Nat) (w : World) (v vt : Value) (L : List Po) (l : List Pt) (t : List UInt8) : Prop where
  is : L.map Po.p = l
  own : PsOwn 44 B w v L
  told : Owns B w vt t
  nil : t = [] → vt = .slice none 0 0
  ne : ∀ q ∈ L, 0 < q.p.b.length → q.x.ownBlock ≠ vt.ownBlock
  apart : t ≠ [] → vt.ownBlock ≠ v.ownBlock
theorem RSt.stay0 {B : Nat} {w w' : World} {v vt : Value} {L : List Po} {l : List Pt} {t : List UInt8} (h : RSt B w v vt L l t) (hs : Stay (fun _ => False) w w') : RSt B w' v vt L l t :=
  ⟨h.is, h.own.stay0 hs, h.told.stay0 hs, h.nil, h.ne, h.apart⟩
theorem nil_slc (w : World) : Slc w (.slice none 0 0) [] := ⟨none, 0, rfl, fun h => absurd h (Nat.lt_irrefl 0), fun _ => rfl, Nat.le_refl _, by decide⟩
theorem own_some {w : World} {x : Value} {b : List UInt8} (h : Slc w x b) (h0 : 0 < b.length) : ∃ j, x.ownBlock = some j := by
  obtain ⟨a9, c9, e9, hr9, _⟩ := h
  obtain ⟨ad, e8, _⟩ := hr9 h0
  exact ⟨ad.block, by rw [e9, e8]; rfl⟩

set_option maxHeartbeats 1000000 in
theorem rops_any (w : World) (a b : List UInt8) (ha : a.length = 64) (hb : b.length = 64) :
    Calls Try.prog 9 #[arrV a, arrV b] w fun e w' => ∃ v, e = .returned v ∧ (∃ L : List Po, L.map Po.p = opsN a b ∧ PsAt w' v L) ∧ Stay (fun _ => False) w w' := by
  obtain ⟨i0, hi, hz0, hz1, hz2⟩ := info_parts info5
  have HI := Lib.hid hi
  have HZ0 := Lib.hid hz0
  have HZ1 := Lib.hid hz1
  have HZ2 := Lib.hid hz2
  have H1 := Lib.hid ((BAt.new w 23 a).stay0 (Stay.alloc _ (.cells (cellsB b).toArray 23)))
  have H2 := Lib.hid (BAt.new (w.alloc (.cells (cellsB a).toArray 23)) 23 b)
  have HS := Lib.hid ((Stay.alloc (X := fun _ => False) w (.cells (cellsB a).toArray 23)).trans (Stay.alloc _ (.cells (cellsB b).toArray 23)))
  have HA := Lib.hid ha
  have HB := Lib.hid hb
  clear ha hb hi hz0 hz1 hz2
  unfold arrV
  go_enter Try.func9, Try.ntmps9
  go_wp2
  go_loopw [5, 6, 7] (fun v vt i wr => ∃ k p l t L, i = .int .i64 ((p : Nat) : Int) ∧ p ≤ 64 ∧ 64 ≤ p + k ∧ opsGo a b k p l t = opsN a b ∧ l.length + t.length ≤ p ∧ RSt (w.heap.size + 2) wr v vt L l t ∧ BAt wr w.heap.size 23 a ∧ BAt wr (w.heap.size + 1) 23 b ∧ Stay (fun _ => False) w wr ∧ w.heap.size + 2 ≤ wr.heap.size) (fun _ _ i _ => 64 - (intOf i).toNat)
  case atStart => exact ⟨64, 0, [], [], [], rfl, by omega, by omega, rfl, by simp, ⟨rfl, PsOwn.nil _ _ _, Owns.nil _ _, fun _ => rfl, fun _ hq => (List.not_mem_nil hq).elim, fun h => absurd rfl h⟩, H1.out, by simpa using H2.out, HS.out, by simp⟩
  case round =>
    obtain ⟨k, p, l, t, L, rfl, hp, hk, hgo, hlt, hst, h1, h2, hs, hsz⟩ := hrel
    have HG := Lib.hid hgo
    have HST := Lib.hid hst
    have K1 := Lib.hid h1
    have K2 := Lib.hid h2
    have HT := Lib.hid hs
    have hLl : L.length = l.length := by rw [← hst.is, List.length_map]
    have HLl := Lib.hid hLl
    obtain ⟨va, vc, rfl⟩ := hst.own.form
    obtain ⟨ta, tc, rfl⟩ := hst.told.form
    clear hgo hst h1 h2 hs hLl
    by_cases hp64 : p < 64
    · obtain ⟨k', rfl⟩ : ∃ k', k = k' + 1 := ⟨k - 1, by omega⟩
      have hbl := best_le a (b.drop p) 64
      rw [List.length_drop, HA.out, HB.out] at hbl
      have hm : matchN a b (p : Int) = bestN a (b.drop p) 64 := by unfold matchN; rw [if_neg (by omega)]; rfl
      have HM := Lib.hid hm
      have HC := Lib.hid (fun h4 => (opsGo_copy (base := a) (target := b) (k := k') (l := l) (t := t) hp64 h4))
      have HTl := Lib.hid (fun h4 => (opsGo_tell (base := a) (target := b) (k := k') (l := l) (t := t) hp64 h4))
      clear hm
      go_wp2_with (first
        | (refine arr_64.load rfl (.tmp 2) rfl w.heap.size rfl a HA.out K1.out ?_)
        | (refine arr_64.load rfl (.tmp 3) rfl (w.heap.size + 1) rfl b HB.out K2.out ?_))
      refine (rmatch_any wr a b (p : Int) HA.out HB.out (by omega) (by omega)).mono ?_
      rintro e w3 ⟨rfl, hs3⟩
      rw [HM.out]
      unfold natV
      have HST3 := Lib.hid (HST.out.stay0 hs3)
      have K13 := Lib.hid (K1.out.stay0 hs3)
      have K23 := Lib.hid (K2.out.stay0 hs3)
      have HT3 := Lib.hid (HT.out.trans hs3)
      have hsz3 := hs3.size
      clear hs3
      generalize bestN a (b.drop p) 64 = M at *
      obtain ⟨f, n⟩ := M
      dsimp only at hbl HC HTl
      by_cases h4 : 4 ≤ n
      · have HC4 := Lib.hid (HC.out h4)
        have hn4 : ¬ ((n : Int) < 4) := by omega
        have hfl := flat_len l t
        by_cases ht0 : t = []
        · have HF := Lib.hid (show flatP l t = l by unfold flatP; rw [if_pos ht0])
          have hz : ¬ (0 < (t.length : Int)) := by rw [ht0]; simp
          clear ht0
          go_wp2_with (first
            | (at_builtin
               have hq4 := fun j u (hu : (poC ⟨copyP f n, .slice none 0 0⟩)[j]? = some u) => show (w3.alloc (.cells (poC ⟨copyP f n, .slice none 0 0⟩).toArray 44)).cell? ⟨w3.heap.size, j, none⟩ = some u by
                 rw [cell_of_row _ _ j _ _ _ (heap_alloc_new _ _)]
                 simpa using hu
               have hs4 : Stay (fun _ => False) w3 (w3.alloc (.cells (poC ⟨copyP f n, .slice none 0 0⟩).toArray 44)) := Stay.alloc _ _
               obtain ⟨wb, hwb⟩ : ∃ wb, w3.alloc (.cells #[.bool true, .int .i64 (f : Int), .int .i64 (n : Int), .slice none 0 0] 44) = wb := ⟨_, rfl⟩
               rw [show w3.alloc (.cells (poC ⟨copyP f n, .slice none 0 0⟩).toArray 44) = wb from hwb] at hs4 hq4
               rw [hwb]
               refine append_po pt_ref Try.underlying26 rfl (.tmp 37) (.tmp 41) rfl rfl w3.heap.size rfl ⟨copyP f n, .slice none 0 0⟩ (HST3.out.own.stay0 hs4) hq4 (nil_slc _) (I64q.copy (by omega) (by omega)) (fun h => absurd h (Nat.lt_irrefl 0)) (one_po _ _ _ _ rfl) (by rw [HLl.out]; omega) (by have := hs4.size; omega) ?_
               intro v5 w5 ho5 hs5 hn5
               obtain ⟨a5, c5, rfl⟩ := ho5.form
               rw [List.length_append, List.length_singleton] at ho5
               have HO5 := Lib.hid ho5
               have HS5 := Lib.hid (hs4.trans'' hs5)
               have HN5 := Lib.hid hn5
               have hz5 := (hs4.trans'' hs5).size
               have hzb5 := hs4.size
               clear ho5 hs5 hn5 hq4 hs4 hwb))
          have hst5 : Stay (fun j => w.heap.size + 2 ≤ j) w3 w5 := HS5.out.mono (fun j e => (HST3.out.own.lt j e).1)
          refine ⟨⟨k', p + n, flatP l t ++ [copyP f n], [], L ++ [⟨copyP f n, .slice none 0 0⟩], by go_num, by omega, by omega, by rw [← HC4.out]; exact HG.out, by rw [List.length_append, List.length_singleton, List.length_nil]; omega, ⟨by rw [List.map_append, HST3.out.is, HF.out]; rfl, HO5.out, Owns.nil _ _, fun _ => rfl, fun z hz h0 e => ?_, fun h => absurd rfl h⟩, K13.out.stay hst5 (by omega), K23.out.stay hst5 (by omega), stay_seal (X := fun j => w.heap.size + 2 ≤ j) ((HT3.out.mono (fun _ x => x.elim)).trans hst5) (fun j hj => by omega), by omega⟩, by simp [intOf]; omega⟩
          obtain ⟨j, hj⟩ := own_some (HO5.out.slc z hz) h0
          rw [hj] at e
          cases e
        · have HF := Lib.hid (show flatP l t = l ++ [tellP t] from flat_some ht0)
          have hz : 0 < (t.length : Int) := by have := List.length_pos_iff.2 ht0; omega
          have HT0 := Lib.hid ht0
          clear ht0
          go_wp2_with (first
            | (at_builtin
               have hq4 := fun j u (hu : (poC ⟨tellP t, .slice ta t.length tc⟩)[j]? = some u) => show (w3.alloc (.cells (poC ⟨tellP t, .slice ta t.length tc⟩).toArray 44)).cell? ⟨w3.heap.size, j, none⟩ = some u by
                 rw [cell_of_row _ _ j _ _ _ (heap_alloc_new _ _)]
                 simpa using hu
               have hs4 : Stay (fun _ => False) w3 (w3.alloc (.cells (poC ⟨tellP t, .slice ta t.length tc⟩).toArray 44)) := Stay.alloc _ _
               obtain ⟨wb, hwb⟩ : ∃ wb, w3.alloc (.cells #[.bool false, .int .i64 0, .int .i64 0, .slice ta t.length tc] 44) = wb := ⟨_, rfl⟩
               rw [show w3.alloc (.cells (poC ⟨tellP t, .slice ta t.length tc⟩).toArray 44) = wb from hwb] at hs4 hq4
               rw [hwb]
               refine append_po pt_ref Try.underlying26 rfl (.tmp 32) (.tmp 35) rfl rfl w3.heap.size rfl ⟨tellP t, .slice ta t.length tc⟩ (HST3.out.own.stay0 hs4) hq4 (HST3.out.told.slc.stay0 hs4) (I64q.tell _) (fun _ => HST3.out.apart HT0.out) (one_po _ _ _ _ rfl) (by rw [HLl.out]; omega) (by have := hs4.size; omega) ?_
               intro v5 w5 ho5 hs5 hn5
               obtain ⟨a5, c5, rfl⟩ := ho5.form
               rw [List.length_append, List.length_singleton] at ho5
               have HO5 := Lib.hid ho5
               have HS5 := Lib.hid (hs4.trans'' hs5)
               have HN5 := Lib.hid hn5
               have hz5 := (hs4.trans'' hs5).size
               have hzb5 := hs4.size
               clear ho5 hs5 hn5 hq4 hs4 hwb)
            | (at_builtin
               have hq4 := fun j u (hu : (poC ⟨copyP f n, .slice none 0 0⟩)[j]? = some u) => show (w5.alloc (.cells (poC ⟨copyP f n, .slice none 0 0⟩).toArray 44)).cell? ⟨w5.heap.size, j, none⟩ = some u by
                 rw [cell_of_row _ _ j _ _ _ (heap_alloc_new _ _)]
                 simpa using hu
               have hs4 : Stay (fun _ => False) w5 (w5.alloc (.cells (poC ⟨copyP f n, .slice none 0 0⟩).toArray 44)) := Stay.alloc _ _
               obtain ⟨wb, hwb⟩ : ∃ wb, w5.alloc (.cells #[.bool true, .int .i64 (f : Int), .int .i64 (n : Int), .slice none 0 0] 44) = wb := ⟨_, rfl⟩
               rw [show w5.alloc (.cells (poC ⟨copyP f n, .slice none 0 0⟩).toArray 44) = wb from hwb] at hs4 hq4
               rw [hwb]
               refine append_po pt_ref Try.underlying26 rfl (.tmp 37) (.tmp 41) rfl rfl w5.heap.size rfl ⟨copyP f n, .slice none 0 0⟩ (HO5.out.stay0 hs4) hq4 (nil_slc _) (I64q.copy (by omega) (by omega)) (fun h => absurd h (Nat.lt_irrefl 0)) (one_po _ _ _ _ rfl) (by rw [List.length_append, List.length_singleton, HLl.out]; omega) (by have := hs4.size; omega) ?_
               intro v7 w7 ho7 hs7 hn7
               obtain ⟨a7, c7, rfl⟩ := ho7.form
               rw [List.length_append, List.length_append, List.length_singleton, List.length_singleton, Nat.add_assoc] at ho7
               have HO7 := Lib.hid ho7
               have HS7 := Lib.hid (hs4.trans'' hs7)
               have HN7 := Lib.hid hn7
               have hz7 := (hs4.trans'' hs7).size
               have hzb7 := hs4.size
               clear ho7 hs7 hn7 hq4 hs4 hwb))
          have hst5 : Stay (fun j => w.heap.size + 2 ≤ j) w3 w5 := HS5.out.mono (fun j e => (HST3.out.own.lt j e).1)
          have hst7 : Stay (fun j => w.heap.size + 2 ≤ j) w3 w7 := hst5.trans (HS7.out.mono (fun j e => (HO5.out.lt j e).1))
          refine ⟨⟨k', p + n, flatP l t ++ [copyP f n], [], (L ++ [⟨tellP t, .slice ta t.length tc⟩]) ++ [⟨copyP f n, .slice none 0 0⟩], by go_num, by omega, by omega, by rw [← HC4.out]; exact HG.out, by rw [List.length_append, List.length_singleton, List.length_nil]; omega, ⟨by rw [List.map_append, List.map_append, HST3.out.is, HF.out]; rfl, HO7.out, Owns.nil _ _, fun _ => rfl, fun z hz h0 e => ?_, fun h => absurd rfl h⟩, K13.out.stay hst7 (by omega), K23.out.stay hst7 (by omega), stay_seal (X := fun j => w.heap.size + 2 ≤ j) ((HT3.out.mono (fun _ x => x.elim)).trans hst7) (fun j hj => by omega), by omega⟩, by simp [intOf]; omega⟩
          obtain ⟨j, hj⟩ := own_some (HO7.out.slc z hz) h0
          rw [hj] at e
          cases e
      · have HT4 := Lib.hid (HTl.out h4)
        have hn4 : (n : Int) < 4 := by omega
        obtain ⟨c, hc, hcd⟩ := bytes_at HB.out hp64
        rw [hcd] at HT4
        have kc : w3.cell? ⟨w.heap.size + 1, p, none⟩ = some (.int .u8 (c.toNat : Int)) := by
          have := blk_cell K23.out (i := p) (by rw [HB.out]; omega)
          rw [this]
          rw [List.getElem?_eq_getElem (by rw [HB.out]; omega)] at hc
          cases hc
          rfl
        clear hc hcd
        have HXA := Lib.hid (HST3.out.told.alloc (.cells #[.int .u8 (c.toNat : Int)] 5))
        have HS1 := Lib.hid (slc_one w3 c (c.toNat : Int) rfl)
        go_wp2_with (at_builtin; refine wpList_append_slc rfl (.tmp 21) (.tmp 25) 31 rfl (w.heap.size + 2) i0 Try.underlying31 HI.out HZ0.out HZ1.out HZ2.out (.slice ta t.length tc) _ t [c] rfl rfl HXA.out HS1.out (by simp; omega) (by simp; omega) ?_; intro v5 w5 hown hgr hnn; have hst5 : Stay (fun j => (Value.slice ta t.length tc).ownBlock = some j) w3 w5 := (Stay.alloc _ _).trans (Stay.grown (X := fun k => (Value.slice ta t.length tc).ownBlock = some k) hgr (fun k hk => hk)); have HS5 := Lib.hid hst5; obtain ⟨a5, c5, rfl⟩ := hown.form; have HN5 := Lib.hid hnn; rw [List.length_append, List.length_singleton] at hown; have HO5 := Lib.hid hown; have hz5 := hst5.size; clear hown hgr hnn hst5)
        have hbig : Stay (fun j => w.heap.size + 2 ≤ j) w3 w5 := HS5.out.mono (fun j e => (HST3.out.told.lt j e).1)
        have hnew : ∀ u : Option Nat, (∀ j, u = some j → j < w3.heap.size) → u ≠ (Value.slice ta t.length tc).ownBlock → (u ≠ none) → u ≠ (Value.slice a5 (t.length + 1) c5).ownBlock := by
          intro u hu h1 h0 e
          have h5 := HN5.out
          rw [List.length_append, List.length_singleton] at h5
          rcases h5 with h5 | h5
          · exact h1 (e.trans h5)
          · rw [h5] at e
            have h6 := hu _ e
            have h7 := (Stay.alloc (X := fun _ => False) w3 (.cells #[.int .u8 (c.toNat : Int)] 5)).size
            omega
        have hown5 : PsOwn 44 (w.heap.size + 2) w5 (.slice va L.length vc) L := HST3.out.own.stay HS5.out (fun j hj e => by
            by_cases ht0 : t = []
            · have := HST3.out.nil ht0
              rw [this] at e
              cases e
            · exact HST3.out.apart ht0 (e.trans hj.symm)) (fun z hz h0 j hj e => HST3.out.ne z hz h0 (hj.trans e.symm))
        refine ⟨⟨k', p + 1, l, t ++ [c], L, by go_num, by omega, by omega, by rw [← HT4.out]; exact HG.out, by rw [List.length_append, List.length_singleton]; omega, ⟨HST3.out.is, hown5, HO5.out, fun h => by simp at h, fun z hz h0 => ?_, fun _ e => ?_⟩, K13.out.stay hbig (by omega), K23.out.stay hbig (by omega), stay_seal (X := fun j => w.heap.size + 2 ≤ j) ((HT3.out.mono (fun _ x => x.elim)).trans hbig) (fun j hj => by omega), by omega⟩, by simp [intOf]; omega⟩
        · obtain ⟨j, hj⟩ := own_some (HST3.out.own.slc z hz) h0
          exact hnew _ (fun i hi => (HST3.out.own.slc z hz).blk_lt h0 i hi) (HST3.out.ne z hz h0) (by rw [hj]; simp)
        · obtain ⟨j, hj⟩ := own_some HO5.out.slc (by simp)
          have hv : (Value.slice va L.length vc).ownBlock = some j := by rw [← e]; exact hj
          refine hnew (some j) (fun i hi => by cases hi; exact (HST3.out.own.lt j hv).2) (fun e2 => ?_) (by simp) hj.symm
          by_cases ht0 : t = []
          · have := HST3.out.nil ht0
            rw [this] at e2
            cases e2
          · exact HST3.out.apart ht0 (e2.symm.trans hv.symm)
    · obtain rfl : p = 64 := by omega
      have hfin := HG.out
      rw [opsGo_end (Nat.le_refl _)] at hfin
      have hfl := flat_len l t
      by_cases ht0 : t = []
      · have HF := Lib.hid (show flatP l t = l by unfold flatP; rw [if_pos ht0])
        have HFN := Lib.hid hfin
        have hz : ¬ (0 < (t.length : Int)) := by rw [ht0]; simp
        clear ht0 hfin
        go_wp2
        go_ret
        exact ⟨_, rfl, ⟨L, by rw [← HFN.out, HF.out]; exact HST.out.is, HST.out.own.at⟩, HT.out⟩
      · have HF := Lib.hid (show flatP l t = l ++ [tellP t] from flat_some ht0)
        have HFN := Lib.hid hfin
        have hz : 0 < (t.length : Int) := by have := List.length_pos_iff.2 ht0; omega
        have HT0 := Lib.hid ht0
        clear ht0 hfin
        go_wp2_with (first
          | (at_builtin
             have hq4 := fun j u (hu : (poC ⟨tellP t, .slice ta t.length tc⟩)[j]? = some u) => show (wr.alloc (.cells (poC ⟨tellP t, .slice ta t.length tc⟩).toArray 44)).cell? ⟨wr.heap.size, j, none⟩ = some u by
               rw [cell_of_row _ _ j _ _ _ (heap_alloc_new _ _)]
               simpa using hu
             have hs4 : Stay (fun _ => False) wr (wr.alloc (.cells (poC ⟨tellP t, .slice ta t.length tc⟩).toArray 44)) := Stay.alloc _ _
             obtain ⟨wb, hwb⟩ : ∃ wb, wr.alloc (.cells #[.bool false, .int .i64 0, .int .i64 0, .slice ta t.length tc] 44) = wb := ⟨_, rfl⟩
             rw [show wr.alloc (.cells (poC ⟨tellP t, .slice ta t.length tc⟩).toArray 44) = wb from hwb] at hs4 hq4
             rw [hwb]
             refine append_po pt_ref Try.underlying26 rfl (.tmp 49) (.tmp 52) rfl rfl wr.heap.size rfl ⟨tellP t, .slice ta t.length tc⟩ (HST.out.own.stay0 hs4) hq4 (HST.out.told.slc.stay0 hs4) (I64q.tell _) (fun _ => HST.out.apart HT0.out) (one_po _ _ _ _ rfl) (by rw [HLl.out]; omega) (by have := hs4.size; omega) ?_
             intro v5 w5 ho5 hs5 hn5
             obtain ⟨a5, c5, rfl⟩ := ho5.form
             rw [List.length_append, List.length_singleton] at ho5
             have HO5 := Lib.hid ho5
             have HS5 := Lib.hid (hs4.trans'' hs5)
             have HN5 := Lib.hid hn5
             have hz5 := (hs4.trans'' hs5).size
             have hzb5 := hs4.size
             clear ho5 hs5 hn5 hq4 hs4 hwb))
        go_ret
        have hst5 : Stay (fun j => w.heap.size + 2 ≤ j) wr w5 := HS5.out.mono (fun j e => (HST.out.own.lt j e).1)
        refine ⟨.slice a5 (L.length + 1) c5, rfl, ⟨L ++ [(⟨tellP t, .slice ta t.length tc⟩ : Po)], ?_, HO5.out.at⟩, stay_seal (X := fun j => w.heap.size + 2 ≤ j) ((HT.out.mono (fun _ x => x.elim)).trans hst5) (fun j hj => by omega)⟩
        rw [← HFN.out, HF.out, List.map_append, HST.out.is]
        rfl
end Go.Proofs.Ytnlknnhibnfhcaa.De
