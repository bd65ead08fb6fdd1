/-
  delta: the parts that tell a block.
-/
import Derived.Test.YtnlknnhibnfhcaaDoorDeE
namespace Go.Proofs.YtnlknnhibnfhcaaDoor.De
open Go.RowKit Pk
set_option maxRecDepth 100000

theorem last_of {L : List Po} {l : List Pt} {m : Nat} (h : L.map Po.p = l) (hl : lastCp l) (hm : L.length = m) (h0 : 0 < m) : ∃ q, L[m - 1]? = some q ∧ q.p.cp = true := by
  obtain ⟨q, hq⟩ : ∃ q, L[m - 1]? = some q := ⟨_, List.getElem?_eq_getElem (by omega)⟩
  refine ⟨q, hq, hl q.p ?_⟩
  rw [← h, List.getLast?_eq_getElem?, List.length_map, List.getElem?_map, hm, hq]
  rfl
theorem flat_len (l : List Pt) (t : List UInt8) : (flatP l t).length ≤ l.length + t.length ∧ l.length ≤ (flatP l t).length := by
  unfold flatP
  split
  · omega
  · rename_i h
    have := List.length_pos_iff.2 h
    rw [List.length_append, List.length_singleton]
    omega
theorem flat_snoc (l : List Pt) (t : List UInt8) (b : UInt8) : flatP l (t ++ [b]) = l ++ [tellP (t ++ [b])] := by
  unfold flatP
  rw [if_neg (by simp)]
theorem flat_some {l : List Pt} {t : List UInt8} (h : t ≠ []) : flatP l t = l ++ [tellP t] := if_neg h

/-- A byte laid behind what Ops has laid so far. -/
theorem tell_any (base : Nat) (w : World) (v : Value) (l : List Pt) (t : List UInt8) (b : UInt8) (h : OpsSt base w v l t) (hl : lastCp l) (hlen : l.length + t.length ≤ 63) (hbase : base ≤ w.heap.size) :
    Calls Tryd.prog 38 #[v, .int .u8 (b.toNat : Int)] w fun e w' => ∃ v1, e = .returned v1 ∧ OpsSt base w' v1 l (t ++ [b]) ∧ Stay (fun k => base ≤ k) w w' := by
  obtain ⟨L, hL, ho, hb, ht⟩ := h
  by_cases h0 : t = []
  · subst h0
    have hL' : L.map Po.p = l := hL
    have hlm : L.length = l.length := by rw [← hL', List.length_map]
    refine (tell_new base w v L.length L b rfl (by simp at hlen; omega) (last_of hL' hl rfl) ho hb hbase).mono ?_
    rintro e w' ⟨v1, rfl, ⟨x1, hg⟩, hs⟩
    refine ⟨v1, rfl, ⟨L ++ [⟨tellP [b], x1⟩], ?_, hg.own, hg.bl, fun _ => ⟨L, x1, rfl, hg⟩⟩, hs⟩
    rw [List.map_append, hL', flat_snoc]
    rfl
  · obtain ⟨L', x, rfl, hg⟩ := ht h0
    have hL' : L'.map Po.p = l := by
      rw [flat_some h0, List.map_append] at hL
      exact List.append_inj_left' hL rfl
    have hlm : L'.length = l.length := by rw [← hL', List.length_map]
    obtain ⟨g, c, rfl⟩ := hg.own.form1 (m := L'.length) (by simp)
    refine (tell_more base w g L'.length c L' x t b rfl (by omega) h0 (by omega) hg hbase).mono ?_
    rintro e w' ⟨rfl, ⟨x1, hg1⟩, hs⟩
    refine ⟨_, rfl, ⟨L' ++ [⟨tellP (t ++ [b]), x1⟩], ?_, hg1.own, hg1.bl, fun _ => ⟨L', x1, rfl, hg1⟩⟩, hs⟩
    rw [List.map_append, hL', flat_snoc]
    rfl
theorem OpsSt.form {base : Nat} {w : World} {v : Value} {l : List Pt} {t : List UInt8} (h : OpsSt base w v l t) : ∃ a n c, v = .slice a n c := by
  obtain ⟨L, _, ho, _⟩ := h
  obtain ⟨a, c, e⟩ := ho.form
  exact ⟨a, _, c, e⟩
theorem OpsSt.stay0 {base : Nat} {w w' : World} {v : Value} {l : List Pt} {t : List UInt8} (h : OpsSt base w v l t) (hs : Stay (fun _ => False) w w') : OpsSt base w' v l t := by
  obtain ⟨L, h1, h2, h3, h4⟩ := h
  refine ⟨L, h1, h2.stay0 hs, h3, fun h0 => ?_⟩
  obtain ⟨L', x, e, hg⟩ := h4 h0
  exact ⟨L', x, e, hg.own.stay0 hs, hg.bl, hg.last.stay0 hs, hg.ne⟩
theorem OpsSt.nil (base : Nat) (w : World) : OpsSt base w (.slice none 0 0) [] [] := ⟨[], rfl, PsOwn.nil _ _ _, fun _ hq => (List.not_mem_nil hq).elim, fun h => absurd rfl h⟩
theorem bytes_at {b : List UInt8} (hb : b.length = 64) {p : Nat} (hp : p < 64) : ∃ c : UInt8, b[p]? = some c ∧ b.getD p 0 = c := by
  refine ⟨b[p], List.getElem?_eq_getElem (by omega), ?_⟩
  rw [List.getD_eq_getElem?_getD, List.getElem?_eq_getElem (by omega)]
  rfl

set_option maxHeartbeats 4000000 in
theorem ops_any (w : World) (a b : List UInt8) (ha : a.length = 64) (hb : b.length = 64) :
    Calls Tryd.prog 16 #[arrV a, arrV b] w fun e w' => ∃ v, e = .returned v ∧ (∃ L : List Po, L.map Po.p = opsN a b ∧ PsAt w' v L) ∧ Stay (fun _ => False) w w' := by
  have H1 := Lib.hid ((BAt.new w 23 a).stay0 (Stay.alloc _ (.cells (cellsB b).toArray 23)))
  have H2 := Lib.hid (BAt.new (w.alloc (.cells (cellsB a).toArray 23)) 23 b)
  have HS := Lib.hid ((Stay.alloc (X := fun _ => False) w (.cells (cellsB a).toArray 23)).trans (Stay.alloc _ (.cells (cellsB b).toArray 23)))
  have HA := Lib.hid ha
  have HB := Lib.hid hb
  clear ha hb
  unfold arrV
  go_enter Tryd.func16, Tryd.ntmps16
  go_wp2
  go_loopw [5, 6] (fun v i wr => ∃ k p l t, i = .int .i64 ((p : Nat) : Int) ∧ p ≤ 64 ∧ 64 ≤ p + k ∧ opsGo a b k p l t = opsN a b ∧ lastCp l ∧ l.length + t.length ≤ p ∧ OpsSt (w.heap.size + 2) wr v l t ∧ BAt wr w.heap.size 23 a ∧ BAt wr (w.heap.size + 1) 23 b ∧ Stay (fun _ => False) w wr ∧ w.heap.size + 2 ≤ wr.heap.size) (fun _ i _ => 64 - (intOf i).toNat)
  case atStart => exact ⟨64, 0, [], [], rfl, by omega, by omega, rfl, (fun _ h => by cases h), by simp, OpsSt.nil _ _, H1.out, by simpa using H2.out, HS.out, by simp⟩
  case round =>
    obtain ⟨k, p, l, t, rfl, hp, hk, hgo, hl, hlt, hst, h1, h2, hs, hsz⟩ := hrel
    have HG := Lib.hid hgo
    have HL := Lib.hid hl
    have HST := Lib.hid hst
    have K1 := Lib.hid h1
    have K2 := Lib.hid h2
    have HT := Lib.hid hs
    obtain ⟨va, vn, vc, rfl⟩ := hst.form
    clear hgo hl hst h1 h2 hs
    by_cases hp64 : p < 64
    · obtain ⟨k', rfl⟩ : ∃ k', k = k' + 1 := ⟨k - 1, by omega⟩
      have hbl := best_le a (b.drop p) 64
      rw [List.length_drop, HA.out, HB.out] at hbl
      have hm : matchN a b (p : Int) = bestN a (b.drop p) 64 := by unfold matchN; rw [if_neg (by omega)]; rfl
      have HM := Lib.hid hm
      have HC := Lib.hid (fun h4 => (opsGo_copy (base := a) (target := b) (k := k') (l := l) (t := t) hp64 h4))
      have HTl := Lib.hid (fun h4 => (opsGo_tell (base := a) (target := b) (k := k') (l := l) (t := t) hp64 h4))
      clear hm
      go_wp2_with (first
        | (refine arr_64.load rfl (.tmp 2) rfl w.heap.size rfl a HA.out K1.out ?_)
        | (refine arr_64.load rfl (.tmp 3) rfl (w.heap.size + 1) rfl b HB.out K2.out ?_)
        | fail)
      refine (match_any wr a b (p : Int) HA.out HB.out).mono ?_
      rintro e w3 ⟨rfl, hs3⟩
      rw [HM.out]
      unfold natV
      have HST3 := Lib.hid (HST.out.stay0 hs3)
      have K13 := Lib.hid (K1.out.stay0 hs3)
      have K23 := Lib.hid (K2.out.stay0 hs3)
      have HT3 := Lib.hid (HT.out.trans hs3)
      have hsz3 := hs3.size
      clear hs3
      generalize bestN a (b.drop p) 64 = B at *
      obtain ⟨f, n⟩ := B
      dsimp only at hbl HC HTl
      by_cases h4 : 4 ≤ n
      · have HC4 := Lib.hid (HC.out h4)
        have HX := Lib.hid HST3.out
        obtain ⟨L, hL, ho, hbk, hgt⟩ := HST3.out
        have hlm : L.length = (flatP l t).length := by rw [← hL, List.length_map]
        have hfl := flat_len l t
        have hq4 := fun j u (hu : (poC ⟨copyP f n, .slice none 0 0⟩)[j]? = some u) => show (w3.alloc (.cells (poC ⟨copyP f n, .slice none 0 0⟩).toArray 49)).cell? ⟨w3.heap.size, j, none⟩ = some u by
          rw [cell_of_row _ w3.heap.size j _ _ _ (heap_alloc_new w3 _)]
          simpa using hu
        have hs4 : Stay (fun _ => False) w3 (w3.alloc (.cells (poC ⟨copyP f n, .slice none 0 0⟩).toArray 49)) := Stay.alloc _ _
        have ho4 := ho.stay0 hs4
        have hsz4 := hs4.size
        obtain ⟨w4, hw4⟩ : ∃ w4, w3.alloc (.cells #[.bool true, .int .i64 (f : Int), .int .i64 (n : Int), .slice none 0 0] 49) = w4 := ⟨_, rfl⟩
        rw [show w3.alloc (.cells (poC ⟨copyP f n, .slice none 0 0⟩).toArray 49) = w4 from hw4] at hs4 hq4 ho4 hsz4
        have HQ4 := Lib.hid hq4
        have HO4 := Lib.hid ho4
        have HS4 := Lib.hid hs4
        have W4 := Lib.hid hw4
        have HLM := Lib.hid hlm
        have HFL := Lib.hid hfl
        have HLL := Lib.hid hL
        have HBK := Lib.hid hbk
        have HOO := Lib.hid ho
        obtain ⟨a0, c0, e0⟩ := ho.form
        obtain ⟨e1, e2, e3⟩ := Value.slice.inj e0
        subst e1 e2 e3
        clear hL ho hbk hgt hlm hfl hq4 hs4 ho4 hw4 e0
        go_wp2_with (at_builtin; rw [W4.out]; refine append_po pt_prog Tryd.underlying27 rfl (.tmp 20) (.tmp 24) rfl rfl w3.heap.size rfl ⟨copyP f n, .slice none 0 0⟩ HO4.out HQ4.out ⟨none, 0, rfl, fun h => absurd h (Nat.lt_irrefl 0), fun _ => rfl, Nat.le_refl _, by decide⟩ (I64q.copy (by omega) (by omega)) (fun h => absurd h (Nat.lt_irrefl 0)) (one_po _ _ _ _ rfl) (by have := HLM.out; have := HFL.out; omega) (by omega) ?_; intro v5 w5 ho5 hs5 hn5; obtain ⟨a5, c5, rfl⟩ := ho5.form; rw [List.length_append, List.length_singleton] at ho5; have HO5 := Lib.hid ho5; have HS5 := Lib.hid hs5; have hsz5 := hs5.size; clear ho5 hs5 hn5)
        have hst5 : Stay (fun k => w.heap.size + 2 ≤ k) w3 w5 := (HS4.out.mono (fun _ x => x.elim)).trans (HS5.out.mono (fun k hk => (HOO.out.lt k hk).1))
        refine ⟨⟨k', p + n, flatP l t ++ [copyP f n], [], by go_num, by omega, by omega, by rw [← HC4.out]; exact HG.out, ?_, ?_, ⟨L ++ [⟨copyP f n, .slice none 0 0⟩], ?_, HO5.out, ?_, fun h => absurd rfl h⟩, K13.out.stay hst5 (by omega), K23.out.stay hst5 (by omega), stay_seal (X := fun k => w.heap.size + 2 ≤ k) ((HT3.out.mono (fun _ x => x.elim)).trans hst5) (fun k hk => by omega), by omega⟩, by simp [intOf]; omega⟩
        · intro q hq
          rw [List.getLast?_append] at hq
          simp at hq
          subst hq
          rfl
        · have := HFL.out
          rw [List.length_append, List.length_singleton, List.length_nil]
          omega
        · rw [List.map_append, HLL.out]
          rfl
        · intro q hq h0
          rcases List.mem_append.1 hq with hq | hq
          · exact HBK.out q hq h0
          · obtain rfl := List.mem_singleton.1 hq
            exact absurd h0 (Nat.lt_irrefl 0)
      · have HT4 := Lib.hid (HTl.out h4)
        obtain ⟨c, hc, hcd⟩ := bytes_at HB.out hp64
        rw [hcd] at HT4
        have kc : w3.cell? ⟨w.heap.size + 1, p, none⟩ = some (.int .u8 (c.toNat : Int)) := by
          have := blk_cell K23.out (i := p) (by rw [HB.out]; omega)
          rw [this]
          rw [List.getElem?_eq_getElem (by rw [HB.out]; omega)] at hc
          cases hc
          rfl
        clear hc hcd
        go_wp2_with fail
        refine (tell_any (w.heap.size + 2) w3 _ l t c HST3.out HL.out (by omega) (by omega)).mono ?_
        rintro e w5 ⟨v5, rfl, hst5, hs5⟩
        have HST5 := Lib.hid hst5
        have HS5 := Lib.hid hs5
        have hsz5 := hs5.size
        obtain ⟨a5, n5, c5, rfl⟩ := hst5.form
        clear hst5 hs5
        go_wp2
        refine ⟨⟨k', p + 1, l, t ++ [c], by go_num, by omega, by omega, by rw [← HT4.out]; exact HG.out, HL.out, by rw [List.length_append, List.length_singleton]; omega, HST5.out, K13.out.stay HS5.out (by omega), K23.out.stay HS5.out (by omega), stay_seal (X := fun k => w.heap.size + 2 ≤ k) ((HT3.out.mono (fun _ x => x.elim)).trans HS5.out) (fun k hk => by omega), by omega⟩, by simp [intOf]; omega⟩
    · obtain rfl : p = 64 := by omega
      go_wp2
      go_ret
      obtain ⟨L, hL, ho, _⟩ := HST.out
      exact ⟨_, rfl, ⟨L, by rw [hL, ← HG.out, opsGo_end (Nat.le_refl _)], ho.at⟩, HT.out⟩
end Go.Proofs.YtnlknnhibnfhcaaDoor.De
