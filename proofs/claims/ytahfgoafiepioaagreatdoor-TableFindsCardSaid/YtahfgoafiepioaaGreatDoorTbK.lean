/-
  table: the table of its own bytes.
-/
import Derived.Test.YtahfgoafiepioaaGreatDoorTbJ
import Derived.Test.YtahfgoafiepioaaGreatDoorHeldS
import Derived.Test.YtahfgoafiepioaaGreatDoorDeNar
import Derived.Test.YtahfgoafiepioaaGreatDoorGaM
namespace Go.Proofs.YtahfgoafiepioaaGreatDoor.Tb
open Go.RowKit
open Pk (stay_seal)
open Me (En EnS EnO Box enC enV norm ltB Sorted getL posN hasB sizeL)
open Pk (spellB bytesB boolB textB takeB numB cntB truB RS Slc Owns RdAt)
open Bo (FAt)
set_option maxRecDepth 100000
set_option linter.unusedVariables false

/-- Entries that a table can be made of here. -/
structure Good (L : List En) (p q : Nat) : Prop where
  p1 : 1 ≤ p
  q1 : 1 ≤ q
  n1 : 1 ≤ L.length
  n2 : L.length ≤ 1000
  srt : Sorted L
  nrm : ∀ e ∈ L, norm e = e
  sz : sizeL L ≤ 1000000
  qn : q * L.length ≤ 1048576

/-- A table's cells. -/
def tbC (n : Nat) (v : Value) (k : List UInt8) (f : Value) : Array Value := #[.int .i64 (n : Int), v, .string ⟨k.toArray⟩, f]
theorem hd_from (L : List En) (p : Nat) (i k : Nat) : hdN L p i (k + 1) = bytesB (keyAt L (i * p)) ++ (bytesB (partB (chunk L p i)) ++ hdN L p (i + 1) k) := by
  rw [hdN, headB, List.append_assoc]
theorem text_form (L : List En) (p q : Nat) : textT L p q = spellB L.length ++ (spellB (cN L.length p) ++ (hdN L p 0 (cN L.length p) ++ tailT L q)) := by
  unfold textT
  simp only [List.append_assoc]
theorem len_textT {L : List En} {p q : Nat} (h : Good L p q) : (textT L p q).length ≤ 10000000 := by
  have h1 := length_tabB (L := L) (p := p) (q := q) h.p1 h.qn
  have h2 := Hn.length_sealB (textT L p q)
  have h3 := h.sz
  have h4 := h.n2
  have h5 := h.qn
  unfold tabB at h1
  omega
/-- What is left behind the first i parts is no longer than all. -/
theorem len_left (L : List En) (p : Nat) : ∀ (k i : Nat), (hdN L p (i + 1) k).length ≤ (hdN L p i (k + 1)).length := by
  intro k i
  rw [hdN, List.length_append]
  omega

theorem len_parts {L : List En} {p q : Nat} (h : Good L p q) : cN L.length p ≤ (hdN L p 0 (cN L.length p) ++ tailT L q).length ∧ (spellB (cN L.length p) ++ (hdN L p 0 (cN L.length p) ++ tailT L q)).length ≤ 10000000 := by
  have h1 := (len_hdN (L := L) h.p1 (cN L.length p) (Nat.le_refl _)).1
  have h2 := len_textT h
  rw [text_form, List.length_append] at h2
  refine ⟨by rw [List.length_append]; omega, by omega⟩
theorem len_from (L : List En) (p : Nat) : ∀ (k i m : Nat), k + m = i → (hdN L p k m).length ≤ (hdN L p 0 i).length
  | 0, i, m, h => by
    obtain rfl : m = i := by omega
    exact Nat.le_refl _
  | k + 1, i, m, h => Nat.le_trans (len_left L p m k) (len_from L p k i (m + 1) (by omega))
theorem len_left_all {L : List En} {p q : Nat} (h : Good L p q) {k : Nat} (hk : k ≤ cN L.length p) : (hdN L p k (cN L.length p - k) ++ tailT L q).length ≤ 10000000 := by
  have h1 := (len_parts h).2
  have h2 := len_from L p k (cN L.length p) (cN L.length p - k) (by omega)
  rw [List.length_append, List.length_append] at h1
  rw [List.length_append]
  omega

theorem run_load_pcs {w : World} {t : Nat} {v : Value} (hc : w.cell? ⟨t, 1, none⟩ = some v) : (loadVar 71 ⟨t, 1, none⟩).run Tryz.prog w = .ok v w := by
  have hu := run_underlying (P := Tryz.prog) Tryz.underlying71 w
  simp [loadVar, isAgg, hu]
  rw [hc]
/-- A slice of one part, made. -/
theorem step_one_pc {ops : Array Oper} {Q : Exit → Act → World → Prop} {o : Oper} {a : Act} {w : World} {K : Act → World → Prop} {E : Prop} (hw : Region.wanted o (yielded ops a.tmps) = true) (x : Operand) (ho : o.op = .buildSlice 71 1 #[(0, x)]) (e : Pc) {a0 : Option Addr} {n c : Nat} (he : e.x = .slice a0 n c) (hx : a.eval x = pcV e)
    (h : K (a.put o.dst (.slice (some ⟨w.heap.size, 0, none⟩) 1 1)) (w.alloc (.cells (pcC e).toArray 78))) : if Region.wanted o (yielded ops a.tmps) = true then Oper.wp Tryz.prog o a w K Q else E := by
  obtain ⟨i0, hi0, hz0, hzs, hzb⟩ := info_parts info_pc
  rw [if_pos hw]
  refine wp_buildSlice 71 78 1 #[(0, x)] ho (pcC e).toArray i0 zeroP Tryz.underlying71 hi0 hz0 (by rw [hzs]; decide) (by rw [hzs]; decide) ?_ h
  rw [hzs]
  simp only [List.map_toArray, List.map_cons, List.map_nil, hx]
  simp [Instr.fill, pcV, pcC, zeroP, he, Value.cells, Array.range]
  apply Array.ext_getElem?
  intro j
  match j with
  | 0 => simp
  | 1 => simp
  | j + 2 => simp
theorem step_append_pc {base : Nat} {w : World} {v : Value} {Q : List Pc} {K : Act → World → Prop} {E : Prop} {ops : Array Oper} {o : Oper} {a : Act} {Q0 : Exit → Act → World → Prop} (hgd : o.guard = none) (s x : Operand)
    (ho : o.op = .call { callee := .builtin .append, args := #[s, x], argTypes := #[71, 71] }) (hs : a.eval s = v) (g : Nat) (hx : a.eval x = .slice (some ⟨g, 0, none⟩) 1 1) (q : Pc)
    (hm : PcOwn base w v Q) (hq : ∀ j u, (pcC q)[j]? = some u → w.cell? ⟨g, j, none⟩ = some u) (hsl : Slc w q.x q.b) (hne : 0 < q.b.length → q.x.ownBlock ≠ v.ownBlock) (hone : ∀ u ∈ pcC q, u.oneCell' = true) (hn : (Q.length + 1) * 40 ≤ 140737488355328) (hb : base ≤ w.heap.size)
    (h : ∀ v' w', PcOwn base w' v' (Q ++ [q]) → Stay (fun k => v.ownBlock = some k) w w' → (v'.ownBlock = v.ownBlock ∨ v'.ownBlock = some w.heap.size) → K (a.put o.dst v') w') : if Region.wanted o (yielded ops a.tmps) = true then Oper.wp Tryz.prog o a w K Q0 else E := by
  have hw : Region.wanted o (yielded ops a.tmps) = true := by simp [Region.wanted, hgd]
  rw [if_pos hw]
  obtain ⟨i0, hi0, hz0, hz1, hz2⟩ := info_parts info_pc
  obtain ⟨v', w', hrun, h1, h2, _, h4⟩ := run_append_own_at (P := Tryz.prog) w base 71 o.type _ i0 zeroP 2 40 Tryz.underlying71 hi0 hz0 hz1 hz2 rfl (by decide) v Q.length (pcRows Q) hm.row ⟨g, 0, none⟩ 1 1 (pcC q) rfl
    (fun j u hu => by rw [add_at, Nat.zero_add]; exact hq j u hu) hone (by unfold maxLen; omega) hn hb
  unfold Oper.wp execOp
  simp only [ho, resolve, invoke, builtin, Sem.run_bind, Sem.run_pure, Result.andThen_ok, List.map_toArray, List.map_cons, List.map_nil, hs, hx, hrun]
  have hst : Stay (fun k => v.ownBlock = some k) w w' := Stay.grown h2 (fun k hk => hk)
  have hold : ∀ z ∈ Q ++ [q], Slc w z.x z.b ∧ (0 < z.b.length → z.x.ownBlock ≠ v.ownBlock) := by
    intro z hz
    rcases List.mem_append.1 hz with hz | hz
    · exact ⟨hm.slc z hz, hm.ne z hz⟩
    · obtain rfl := List.mem_singleton.1 hz
      exact ⟨hsl, hne⟩
  refine h v' w' ⟨by rw [List.length_append, pcRows_snoc]; exact h1, fun z hz => ?_, fun z hz h0 e => ?_⟩ hst h4
  · obtain ⟨h5, h7⟩ := hold z hz
    obtain ⟨a0, c, e, hr, hn2⟩ := id h5
    refine ⟨a0, c, e, hr.stay hst (fun h0 ad ha hv => h7 h0 ?_), hn2⟩
    rw [e, ha, hv]
    rfl
  · obtain ⟨h5, h7⟩ := hold z hz
    rcases h4 with h4 | h4
    · exact h7 h0 (e.trans h4)
    · have := h5.blk_lt h0 _ (e.trans h4)
      omega

set_option maxHeartbeats 4000000 in
theorem open_any (w : World) (x : Value) (L : List En) (p q : Nat) (hx : Slc w x (tabB L p q)) (hg : Good L p q) :
    Calls Tryz.prog 9 #[x] w fun e w' => (∃ t, e = .returned (.tuple #[.pointer (some ⟨t, 0, none⟩), .nilIface]) ∧ w.heap.size ≤ t ∧ TAt w' t L p q) ∧ Stay (fun _ => False) w w' := by
  have HG := Lib.hid hg
  obtain ⟨T, hT⟩ : ∃ T, T = textT L p q := ⟨_, rfl⟩
  have hTl := len_textT hg
  rw [← hT] at hTl
  obtain ⟨B, hB⟩ : ∃ B, B = tabB L p q := ⟨_, rfl⟩
  rw [← hB] at hx
  have hBl : B.length ≤ 20000000 := by
    rw [hB]
    unfold tabB
    rw [Hn.length_sealB, ← hT]
    omega
  have HOP := Lib.hid (Hn.open_any x B w hx (by omega))
  have HOE := Lib.hid (show Hn.openB B = .ok T by rw [hB, hT]; exact open_seal _)
  have HTE := Lib.hid (show T = spellB L.length ++ (spellB (cN L.length p) ++ (hdN L p 0 (cN L.length p) ++ tailT L q)) from hT.trans (text_form L p q))
  clear hx hB hT
  go_enter Tryz.func9, Tryz.ntmps9
  go_wp2_with fail
  refine HOP.out.mono ?_
  rintro e w1 ⟨hret, hs1⟩
  rw [HOE.out] at hret
  obtain ⟨v1, rfl, ho1⟩ := hret
  have HSL := Lib.hid ho1.slc
  obtain ⟨a1, c1, rfl⟩ := ho1.form
  have HS1 := Lib.hid hs1
  clear ho1 hs1 HOP HOE
  go_wp2_with fail
  refine (Pk.read_cap w1 _ T HSL.out (by omega)).mono ?_
  rintro e w2 ⟨r, rfl, hr2, hs2⟩
  have hz2 := hs2.size
  have HR2 := Lib.hid (HTE.out ▸ hr2)
  have HS2 := Lib.hid (HS1.out.trans hs2)
  clear hr2 hs2
  go_wp2_with fail
  refine (uint_off _ w2 r L.length 16384 _ HR2.out (by have := hg.n2; omega) (by have := hg.n2; omega)).mono ?_
  rintro e w3 ⟨rfl, hr3, hs3⟩
  obtain ⟨X, hXd⟩ : ∃ X : Nat → Prop, X = fun k => w1.heap.size ≤ k ∧ k < w2.heap.size := ⟨_, rfl⟩
  have HX1 := Lib.hid (show ∀ k, X k → w1.heap.size ≤ k ∧ k < w2.heap.size by intro k h; rw [hXd] at h; exact h)
  rw [← hXd] at hr3
  have hrX := hr3.own
  have HR3 := Lib.hid hr3
  have hz1 := HS1.out.size
  have hz3 := hs3.size
  have HS3 := Lib.hid (show Stay (fun _ => False) w w3 from stay_seal (X := fun k => w.heap.size ≤ k) ((HS2.out.mono (fun _ x => x.elim)).trans (hs3.mono (fun k hk => by have := (HX1.out r hrX).1; omega))) (fun k hk => hk))
  obtain ⟨n, hn⟩ : ∃ n, n = L.length := ⟨_, rfl⟩
  obtain ⟨N, hN⟩ : ∃ N, N = cN L.length p := ⟨_, rfl⟩
  have HLL := Lib.hid hn
  have HNN := Lib.hid hN
  have hnm : (n : Int) ≤ 1000 := by have := hg.n2; omega
  have hN1 : 1 ≤ N := by rw [hN]; exact cN_pos hg.p1 hg.n1
  have hNn : N ≤ n := by rw [hN, hn]; exact cN_le hg.p1
  have hNm : (N : Int) ≤ 1000 := by omega
  obtain ⟨t, ht⟩ : ∃ t, t = w3.heap.size := ⟨_, rfl⟩
  obtain ⟨w4, hw4⟩ : ∃ w4, w3.alloc (.cells (tbC n (.slice none 0 0) [] (.pointer none)) 73) = w4 := ⟨_, rfl⟩
  have hs4 : Stay (fun _ => False) w3 w4 := hw4 ▸ Stay.alloc _ _
  have hz4 : w4.heap.size = t + 1 := by rw [← hw4]; simp [ht]
  have HT4 := Lib.hid (show w4.heap[t]? = some (.cells (tbC n (.slice none 0 0) [] (.pointer none)) 73 (0, 0)) from by rw [ht, ← hw4]; exact heap_alloc_new w3 _)
  have W4 := Lib.hid (show w3.alloc (.cells #[.int .i64 (n : Int), .slice none 0 0, .string ⟨#[]⟩, .pointer none] 73) = w4 from hw4)
  rw [← hN] at HR3
  have HR4 := Lib.hid (HR3.out.stay0 hs4)
  have HS4 := Lib.hid (HS3.out.trans hs4)
  have HTW := Lib.hid ht
  rw [← hn]
  clear hr3 hs3 hXd hn hN ht hw4 hs4 HR2 HSL HTE hg HS3 HR3
  go_wp2_with fail
  rw [W4.out, ← HTW.out]
  have HCL := Lib.hid (len_parts HG.out)
  refine (cnt_off X w4 r N _ 16384 HR4.out (by omega) (by decide) (by rw [HNN.out]; exact HCL.out.1) (by rw [HNN.out]; exact Nat.le_trans HCL.out.2 (by decide))).mono ?_
  rintro e w5 ⟨rfl, hr5, hs5⟩
  have HR5 := Lib.hid hr5
  have hrt : r ≠ t := by have := (HX1.out r hrX).2; have := HTW.out; omega
  have HT5 := Lib.hid ((hs5.block t (by omega) (fun h => hrt h.symm)).trans HT4.out)
  have hz5 := hs5.size
  have HS5 := Lib.hid (show Stay (fun _ => False) w w5 from stay_seal (X := fun k => w.heap.size ≤ k) ((HS4.out.mono (fun _ x => x.elim)).trans (hs5.mono (fun k hk => by have := (HX1.out r hrX).1; omega))) (fun k hk => hk))
  clear hr5 hs5 HR4 HT4 HS4 W4
  go_wp2
  go_loopw [25] (fun i wr => ∃ (k : Nat) (v : Value) (Q : List Pc), k ≤ N ∧ i = .int .i64 (k : Int) ∧ Hid (wr.heap[t]? = some (.cells (tbC n v [] (.pointer none)) 73 (0, 0))) ∧ Hid (PcOwn (t + 1) wr v Q) ∧ Hid (Q.length = k) ∧ Hid (∀ i q, Q[i]? = some q → q.k = keyAt L (i * p) ∧ q.b = partB (chunk L p i)) ∧ Hid (∀ q ∈ Q, 0 < q.b.length → ∀ j, q.x.ownBlock = some j → t < j) ∧ Hid (RdAt X wr r ⟨hdN L p k (N - k) ++ tailT L q, 0⟩) ∧ Stay (fun _ => False) w wr ∧ t + 1 ≤ wr.heap.size) (fun i _ => N - (intOf i).toNat)
  case atStart => exact ⟨0, .slice none 0 0, [], Nat.zero_le _, rfl, HT5, Lib.hid (PcOwn.nil _ _), Lib.hid rfl, Lib.hid (fun i q h => by simp at h), Lib.hid (fun _ hq => (List.not_mem_nil hq).elim), by rw [Nat.sub_zero]; exact HR5, HS5.out, by omega⟩
  case round =>
    obtain ⟨k, v, Q, hk, rfl, htb, hpo, hql, hqs, hqb, hrd, hst, hzr⟩ := hrel
    have HT := Lib.hid hst
    clear hst
    by_cases hlt : k < N
    · obtain ⟨M, hM⟩ : ∃ M, N - k = M + 1 := ⟨N - k - 1, by omega⟩
      obtain ⟨ky, hky⟩ : ∃ ky, ky = keyAt L (k * p) := ⟨_, rfl⟩
      obtain ⟨pb, hpb⟩ : ∃ pb, pb = partB (chunk L p k) := ⟨_, rfl⟩
      obtain ⟨rest, hrest⟩ : ∃ rest, rest = hdN L p (k + 1) M ++ tailT L q := ⟨_, rfl⟩
      have hform : hdN L p k (N - k) ++ tailT L q = bytesB ky ++ (bytesB pb ++ rest) := by rw [hM, hd_from, hky, hpb, hrest]; simp only [List.append_assoc]
      have hrd' := hrd.out
      rw [hform] at hrd'
      have HRD := Lib.hid (hrd'.stay0 (Stay.drew (w := wr)))
      have HL1 := Lib.hid (show (bytesB ky ++ (bytesB pb ++ rest)).length ≤ 140737488355328 by
        rw [← hform]
        have := len_left_all HG.out (k := k) (by rw [← HNN.out]; omega)
        rw [← HNN.out] at this
        omega)
      have HL2 := Lib.hid (show (bytesB pb ++ rest).length ≤ 140737488355328 by have := HL1.out; rw [List.length_append] at this; omega)
      have HLD := Lib.hid (show ∀ W, Stay (fun j => j = r) wr W → W.cell? ⟨t, 1, none⟩ = some v from fun W hW => hW.cell (by rw [cell_of_row wr t 1 _ _ _ htb.out]; rfl) (fun h => hrt h.symm))
      have HPO := Lib.hid (show ∀ W, Stay (fun j => j = r) wr W → PcOwn (t + 1) W v Q from fun W hW => hpo.out.stay hW (fun j hj h => by have := (hpo.out.lt j hj).1; have := (HX1.out r hrX).2; have := HTW.out; omega) (fun z hz h0 j hj h => by have := hqb.out z hz h0 j hj; have := (HX1.out r hrX).2; have := HTW.out; omega))
      have HNE := Lib.hid (show ∀ v4 : Value, (∀ j, v4.ownBlock = some j → wr.heap.size ≤ j) → 0 < pb.length → ∀ W, Slc W v4 pb → v4.ownBlock ≠ v.ownBlock from fun v4 h4 h0 W hsl e => by
        obtain ⟨a9, c9, e9, hr9, _⟩ := hsl
        obtain ⟨ad, e8, _⟩ := hr9 h0
        have e7 : v4.ownBlock = some ad.block := by rw [e9, e8]; rfl
        have h5 := h4 _ e7
        have h6 := (hpo.out.lt ad.block (by rw [← e, e7])).2
        omega)
      have HQN := Lib.hid (show (Q.length + 1) * 40 ≤ 140737488355328 by rw [hql.out]; omega)
      have HBW := Lib.hid hzr
      have HTB := Lib.hid (show ∀ w5 w6, Stay (fun j => j = r) wr w5 → Stay (fun j => v.ownBlock = some j) w5 w6 → w6.heap[t]? = some (.cells (tbC n v [] (.pointer none)) 73 (0, 0)) from fun w5 w6 h5 h6 =>
        (h6.block t (by have := h5.size; omega) (fun h => by have := (hpo.out.lt t h).1; omega)).trans ((h5.block t (by omega) (fun h => hrt h.symm)).trans htb.out))
      have HREL := Lib.hid (show ∀ v6 w5 w6 ck, PcOwn (t + 1) w6 v6 (Q ++ [⟨ky, pb, ck⟩]) → Stay (fun j => v.ownBlock = some j) w5 w6 → (v6.ownBlock = v.ownBlock ∨ v6.ownBlock = some w5.heap.size) → RdAt X w5 r ⟨rest, 0⟩ → Stay (fun j => j = r) wr w5 → (∀ j, ck.ownBlock = some j → wr.heap.size ≤ j) →
          ∃ (k' : Nat) (v' : Value) (Q' : List Pc), k' ≤ N ∧ k' = k + 1 ∧ Hid ((w6.setCell ⟨t, 1, none⟩ v6).heap[t]? = some (.cells (tbC n v' [] (.pointer none)) 73 (0, 0))) ∧ Hid (PcOwn (t + 1) (w6.setCell ⟨t, 1, none⟩ v6) v' Q') ∧ Hid (Q'.length = k') ∧ Hid (∀ i q, Q'[i]? = some q → q.k = keyAt L (i * p) ∧ q.b = partB (chunk L p i)) ∧ Hid (∀ q ∈ Q', 0 < q.b.length → ∀ j, q.x.ownBlock = some j → t < j) ∧ Hid (RdAt X (w6.setCell ⟨t, 1, none⟩ v6) r ⟨hdN L p k' (N - k') ++ tailT L q, 0⟩) ∧ Stay (fun _ => False) w (w6.setCell ⟨t, 1, none⟩ v6) ∧ t + 1 ≤ (w6.setCell ⟨t, 1, none⟩ v6).heap.size from fun v6 w5 w6 ck ho hs6 hn6 hr5 hs5 hck => by
        have ht6 := HTB.out w5 w6 hs5 hs6
        have hsz5 := hs5.size
        have hsz6 := hs6.size
        have hset : Stay (fun j => j = t) w6 (w6.setCell ⟨t, 1, none⟩ v6) := Stay.setCell _ _ _ rfl
        have hqb' : ∀ q ∈ Q ++ [(⟨ky, pb, ck⟩ : Pc)], 0 < q.b.length → ∀ j, q.x.ownBlock = some j → t < j := by
          intro z hz h0 j hj
          rcases List.mem_append.1 hz with hz | hz
          · exact hqb.out z hz h0 j hj
          · obtain rfl := List.mem_singleton.1 hz
            have := hck j hj
            omega
        refine ⟨k + 1, v6, Q ++ [⟨ky, pb, ck⟩], by omega, rfl, Lib.hid ?_, Lib.hid ?_, Lib.hid (by rw [List.length_append, hql.out]; rfl), Lib.hid ?_, Lib.hid hqb', Lib.hid ?_, ?_, by simp; omega⟩
        · exact heap_setCell_same w6 t 1 _ _ v6 ht6
        · refine ho.stay hset (fun j hj h => ?_) (fun z hz h0 j hj h => by have := hqb' z hz h0 j hj; omega)
          have := (ho.lt j hj).1
          omega
        · intro i z hz
          rcases Nat.lt_or_ge i Q.length with h | h
          · rw [List.getElem?_append_left h] at hz
            exact hqs.out i z hz
          · rw [List.getElem?_append_right h] at hz
            have hi : i - Q.length = 0 := by
              have := (List.getElem?_eq_some_iff.1 hz).1
              simp at this
              omega
            rw [hi] at hz
            simp at hz
            subst hz
            have : i = k := by have := hql.out; omega
            subst this
            exact ⟨hky, hpb⟩
        · rw [show N - (k + 1) = M by omega, ← hrest]
          exact (hr5.stay hs6 (fun j hj _ h => by have := (hpo.out.lt j h).1; have := (HX1.out j hj).2; have := HTW.out; omega)).stay hset (fun j hj _ h => by have := (HX1.out j hj).2; have := HTW.out; omega)
        · exact stay_seal (X := fun j => w.heap.size ≤ j) (((HT.out.mono (fun _ x => x.elim)).trans (hs5.mono (fun j hj => by have := (HX1.out r hrX).1; omega))).trans ((hs6.mono (fun j hj => by have := (hpo.out.lt j hj).1; have := HTW.out; omega)).trans (hset.mono (fun j hj => by have := HTW.out; omega)))) (fun j hj => hj))
      clear hform hrd' hrest hM hky hpb
      go_wp2
      refine wp_region_held (S := Stay (fun j => j = r ∨ j = t ∨ v.ownBlock = some j) wr.drew) (by kernel_rfl) ?_
      change wpAnyH _ _ _ _ _ _ _ _ (World.drew _)
      refine wpAnyH_takeL (i := 0) (v := .pointer (some ⟨t, 0, none⟩)) #[true, false, false, false, false, false, false, false, false, false, false, false, false, false, false] rfl (by kernel_rfl) (by kernel_rfl) (by kernel_rfl) (fun _ _ _ h => h) (by kernel_rfl) (Stay.refl _ _) (Or.inl ⟨by rfl, fun W hW => ?_⟩) ?_
      · go_simp
      conv => arg 8; simp [Act.put]
      refine wpAnyH_takeL (i := 1) (v := .pointer (some ⟨t, 0, none⟩)) #[true, true, false, false, false, false, false, false, false, false, false, false, false, false, false] rfl (by kernel_rfl) (by kernel_rfl) (by kernel_rfl) (fun _ _ _ h => h) (by kernel_rfl) (Stay.refl _ _) (Or.inl ⟨by rfl, fun W hW => ?_⟩) ?_
      · go_simp
      conv => arg 8; simp [Act.put]
      refine wpAnyH_takeL (i := 2) (v := .pointer (some ⟨t, 0, none⟩)) #[true, true, true, false, false, false, false, false, false, false, false, false, false, false, false] rfl (by kernel_rfl) (by kernel_rfl) (by kernel_rfl) (fun _ _ _ h => h) (by kernel_rfl) (Stay.refl _ _) (Or.inl ⟨by rfl, fun W hW => ?_⟩) ?_
      · go_simp
      conv => arg 8; simp [Act.put]
      refine wpAnyH_takeL (i := 3) (v := .pointer (some ⟨t, 1, none⟩)) #[true, true, true, true, false, false, false, false, false, false, false, false, false, false, false] rfl (by kernel_rfl) (by kernel_rfl) (by kernel_rfl) (fun _ _ _ h => h) (by kernel_rfl) (Stay.refl _ _) (Or.inl ⟨by rfl, fun W hW => ?_⟩) ?_
      · go_simp
      conv => arg 8; simp [Act.put]
      refine wpAnyH_takeL (i := 5) (v := .pointer (some ⟨r, 0, none⟩)) #[true, true, true, true, false, true, false, false, false, false, false, false, false, false, false] rfl (by kernel_rfl) (by kernel_rfl) (by kernel_rfl) (fun _ _ _ h => h) (by kernel_rfl) (Stay.refl _ _) (Or.inl ⟨by rfl, fun W hW => ?_⟩) ?_
      · go_simp
      conv => arg 8; simp [Act.put]
      refine wpAnyH_takeL (i := 7) (v := .pointer (some ⟨r, 0, none⟩)) #[true, true, true, true, false, true, false, true, false, false, false, false, false, false, false] rfl (by kernel_rfl) (by kernel_rfl) (by kernel_rfl) (fun _ _ _ h => h) (by kernel_rfl) (Stay.refl _ _) (Or.inl ⟨by rfl, fun W hW => ?_⟩) ?_
      · go_simp
      conv => arg 8; simp [Act.put]
      refine wpAnyH_ready (rs := [4, 6]) (by kernel_rfl) (by simp) ?_
      refine AllReadyH.cons (o := _) rfl (fun K hK => ?_) ?_
      · refine Me.step_load_run rfl 71 (.tmp 30) rfl ⟨t, 1, none⟩ rfl v (run_load_pcs (HLD.out wr.drew Stay.drew)) ?_
        refine Shut.out hK _ _ (Stay.refl _ _) (fun _ => ?_)
        clear hK
        refine wpAnyH_listedL #[true, true, true, true, true, true, false, true, false, false, false, false, false, false, false] (by kernel_rfl) ?_
        conv => arg 8; simp [Act.put]
        refine wpAnyH_one #[true, true, true, true, true, true, true, true, false, false, false, false, false, false, false] (i := 6) rfl (by kernel_rfl) (by kernel_rfl) (fun K hK => ?_)
        go_simp
        go_wp2_with (go_at_call 27; refine (text_off X wr.drew r ky _ HRD.out HL1.out).mono ?_; rintro y w3 ⟨rfl, h3, s3⟩; have HR3 := Lib.hid h3; have HS3 := Lib.hid (show Stay (fun j => j = r ∨ j = t ∨ v.ownBlock = some j) wr.drew w3 from s3.mono (fun j hj => .inl hj)); have HL3 := Lib.hid (show Stay (fun j => j = r) wr w3 from (Stay.drew (X := fun j => j = r) (w := wr)).trans s3); clear h3 s3)
        refine hK _ _ HS3.out ?_
        clear hK
        conv => arg 8; simp [Act.put]
        refine wpAnyH_one #[true, true, true, true, true, true, true, true, true, false, false, false, false, false, false] (i := 8) rfl (by kernel_rfl) (by kernel_rfl) (fun K hK => ?_)
        go_simp
        go_wp2_with (go_at_call 28; refine (bytes_off X w3 r pb rest HR3.out HL2.out).mono ?_; rintro y w4 ⟨⟨v4, rfl, o4⟩, h4, s4⟩; have HO4 := Lib.hid o4; have HR4 := Lib.hid h4; have HS4 := Lib.hid (show Stay (fun j => j = r ∨ j = t ∨ v.ownBlock = some j) wr.drew w4 from HS3.out.trans (s4.mono (fun j hj => .inl hj))); have HL4 := Lib.hid (show Stay (fun j => j = r) wr w4 from HL3.out.trans s4); clear h4 s4 o4)
        refine hK _ _ HS4.out ?_
        clear hK
        conv => arg 8; simp [Act.put]
        obtain ⟨a4, c4, hv4⟩ := HO4.out.form
        refine wpAnyH_takeL (i := 9) (v := pcV ⟨ky, pb, v4⟩) #[true, true, true, true, true, true, true, true, true, true, false, false, false, false, false] rfl (by kernel_rfl) (by kernel_rfl) (by kernel_rfl) (fun _ _ _ h => h) (by kernel_rfl) HS4.out (Or.inl ⟨by rfl, fun W hW => ?_⟩) ?_
        · unfold pcV pcC
          go_simp
        conv => arg 8; simp [Act.put]
        refine wpAnyH_one #[true, true, true, true, true, true, true, true, true, true, true, false, false, false, false] (i := 10) rfl (by kernel_rfl) (by kernel_rfl) (fun K hK => ?_)
        refine step_one_pc rfl (.tmp 36) rfl ⟨ky, pb, v4⟩ hv4 rfl ?_
        obtain ⟨w5, hw5⟩ : ∃ w5, w4.alloc (.cells (pcC ⟨ky, pb, v4⟩).toArray 78) = w5 := ⟨_, rfl⟩
        have hs5 : Stay (fun _ => False) w4 w5 := hw5 ▸ Stay.alloc _ _
        have HB5 := Lib.hid (show ∀ j u, (pcC ⟨ky, pb, v4⟩)[j]? = some u → w5.cell? ⟨w4.heap.size, j, none⟩ = some u from fun j u hu => by rw [← hw5, cell_of_row _ w4.heap.size j _ _ _ (heap_alloc_new w4 _)]; simpa using hu)
        have HS5 := Lib.hid (HS4.out.trans (hs5.mono (fun _ x => x.elim)))
        have HL5 := Lib.hid (HL4.out.trans (hs5.mono (fun _ x => x.elim)))
        have HR5 := Lib.hid (HR4.out.stay0 hs5)
        have HSL5 := Lib.hid (HO4.out.slc.stay0 hs5)
        have HPC5 := Lib.hid (HPO.out w5 HL5.out)
        have HZ5 := Lib.hid (show ∀ j, v4.ownBlock = some j → wr.heap.size ≤ j from fun j hj => Nat.le_trans HL3.out.size (HO4.out.lt j hj).1)
        rw [hw5]
        clear hw5 hs5
        refine hK _ _ HS5.out ?_
        clear hK
        conv => arg 8; simp [Act.put]
        refine wpAnyH_one #[true, true, true, true, true, true, true, true, true, true, true, true, false, false, false] (i := 11) rfl (by kernel_rfl) (by kernel_rfl) (fun K hK => ?_)
        refine step_append_pc rfl (.tmp 31) (.tmp 37) rfl rfl w4.heap.size rfl ⟨ky, pb, v4⟩ HPC5.out HB5.out HSL5.out (fun h0 => HNE.out v4 HZ5.out h0 _ HSL5.out) (one_pc _ _ _ _ hv4) HQN.out (by have := HL5.out.size; have := HBW.out; omega) ?_
        intro v6 w6 o6 s6 n6
        obtain ⟨a6, l6, c6, rfl⟩ : ∃ a l c, v6 = .slice a l c := by obtain ⟨a, c, e⟩ := o6.form; exact ⟨a, _, c, e⟩
        have HO6 := Lib.hid o6
        have HS6 := Lib.hid s6
        have HN6 := Lib.hid n6
        have HS6' := Lib.hid (show Stay (fun j => j = r ∨ j = t ∨ v.ownBlock = some j) wr.drew w6 from HS5.out.trans (s6.mono (fun j hj => .inr (.inr hj))))
        clear o6 s6 n6
        refine hK _ _ HS6'.out ?_
        clear hK
        conv => arg 8; simp [Act.put]
        refine wpAnyH_takeL (i := 12) (v := .pointer (some ⟨t, 0, none⟩)) #[true, true, true, true, true, true, true, true, true, true, true, true, true, false, false] rfl (by kernel_rfl) (by kernel_rfl) (by kernel_rfl) (fun _ _ _ h => h) (by kernel_rfl) HS6'.out (Or.inl ⟨by rfl, fun W hW => ?_⟩) ?_
        · go_simp
        conv => arg 8; simp [Act.put]
        refine wpAnyH_takeL (i := 13) (v := .pointer (some ⟨t, 1, none⟩)) #[true, true, true, true, true, true, true, true, true, true, true, true, true, true, false] rfl (by kernel_rfl) (by kernel_rfl) (by kernel_rfl) (fun _ _ _ h => h) (by kernel_rfl) HS6'.out (Or.inl ⟨by rfl, fun W hW => ?_⟩) ?_
        · go_simp
        conv => arg 8; simp [Act.put]
        refine wpAnyH_one #[true, true, true, true, true, true, true, true, true, true, true, true, true, true, true] (i := 14) rfl (by kernel_rfl) (by kernel_rfl) (fun K hK => ?_)
        have ht6 := HTB.out _ w6 HL5.out HS6.out
        have hc6 : w6.cell? ⟨t, 1, none⟩ = some v := by rw [cell_of_row w6 t 1 _ _ _ ht6]; rfl
        have hf6 := frozen_of_row w6 t 1 _ _ ht6
        go_simp
        refine hK _ _ (HS6'.out.trans (Stay.setCell (X := fun j => j = r ∨ j = t ∨ v.ownBlock = some j) w6 ⟨t, 1, none⟩ (.slice a6 l6 c6) (Or.inr (Or.inl rfl)))) ?_
        clear hK
        conv => arg 8; simp [Act.put]
        clear ht6 hc6 hf6
        refine wpAnyH_done (by kernel_rfl) ?_ _
        go_wp2
        go_roundw
        case rel =>
          obtain ⟨k', v', Q', e1, e2, e3, e4, e5, e6, e7, e8, e9, e10⟩ := HREL.out _ _ w6 v4 HO6.out HS6.out HN6.out HR5.out HL5.out HZ5.out
          exact ⟨k', v', Q', e1, by subst e2; go_num, e3, e4, e5, e6, e7, e8, e9, e10⟩
        case measure => simp [intOf]; omega
      refine AllReadyH.cons (o := _) rfl (fun K hK => ?_) ?_
      · go_simp
        go_wp2_with (go_at_call 27; refine (text_off X wr.drew r ky _ HRD.out HL1.out).mono ?_; rintro y w3 ⟨rfl, h3, s3⟩; have HR3 := Lib.hid h3; have HS3 := Lib.hid (show Stay (fun j => j = r ∨ j = t ∨ v.ownBlock = some j) wr.drew w3 from s3.mono (fun j hj => .inl hj)); have HL3 := Lib.hid (show Stay (fun j => j = r) wr w3 from (Stay.drew (X := fun j => j = r) (w := wr)).trans s3); clear h3 s3)
        refine Shut.out hK _ _ HS3.out (fun _ => ?_)
        clear hK
        refine wpAnyH_listedL #[true, true, true, true, false, true, true, true, false, false, false, false, false, false, false] (by kernel_rfl) ?_
        conv => arg 8; simp [Act.put]
        refine wpAnyH_ready (rs := [4, 8]) (by kernel_rfl) (by simp) ?_
        refine AllReadyH.cons (o := _) rfl (fun K hK => ?_) ?_
        · refine Me.step_load_run rfl 71 (.tmp 30) rfl ⟨t, 1, none⟩ rfl v (run_load_pcs (HLD.out w3 HL3.out)) ?_
          refine Shut.out hK _ _ HS3.out (fun _ => ?_)
          clear hK
          refine wpAnyH_listedL #[true, true, true, true, true, true, true, true, false, false, false, false, false, false, false] (by kernel_rfl) ?_
          conv => arg 8; simp [Act.put]
          refine wpAnyH_one #[true, true, true, true, true, true, true, true, true, false, false, false, false, false, false] (i := 8) rfl (by kernel_rfl) (by kernel_rfl) (fun K hK => ?_)
          go_simp
          go_wp2_with (go_at_call 28; refine (bytes_off X w3 r pb rest HR3.out HL2.out).mono ?_; rintro y w4 ⟨⟨v4, rfl, o4⟩, h4, s4⟩; have HO4 := Lib.hid o4; have HR4 := Lib.hid h4; have HS4 := Lib.hid (show Stay (fun j => j = r ∨ j = t ∨ v.ownBlock = some j) wr.drew w4 from HS3.out.trans (s4.mono (fun j hj => .inl hj))); have HL4 := Lib.hid (show Stay (fun j => j = r) wr w4 from HL3.out.trans s4); clear h4 s4 o4)
          refine hK _ _ HS4.out ?_
          clear hK
          conv => arg 8; simp [Act.put]
          obtain ⟨a4, c4, hv4⟩ := HO4.out.form
          refine wpAnyH_takeL (i := 9) (v := pcV ⟨ky, pb, v4⟩) #[true, true, true, true, true, true, true, true, true, true, false, false, false, false, false] rfl (by kernel_rfl) (by kernel_rfl) (by kernel_rfl) (fun _ _ _ h => h) (by kernel_rfl) HS4.out (Or.inl ⟨by rfl, fun W hW => ?_⟩) ?_
          · unfold pcV pcC
            go_simp
          conv => arg 8; simp [Act.put]
          refine wpAnyH_one #[true, true, true, true, true, true, true, true, true, true, true, false, false, false, false] (i := 10) rfl (by kernel_rfl) (by kernel_rfl) (fun K hK => ?_)
          refine step_one_pc rfl (.tmp 36) rfl ⟨ky, pb, v4⟩ hv4 rfl ?_
          obtain ⟨w5, hw5⟩ : ∃ w5, w4.alloc (.cells (pcC ⟨ky, pb, v4⟩).toArray 78) = w5 := ⟨_, rfl⟩
          have hs5 : Stay (fun _ => False) w4 w5 := hw5 ▸ Stay.alloc _ _
          have HB5 := Lib.hid (show ∀ j u, (pcC ⟨ky, pb, v4⟩)[j]? = some u → w5.cell? ⟨w4.heap.size, j, none⟩ = some u from fun j u hu => by rw [← hw5, cell_of_row _ w4.heap.size j _ _ _ (heap_alloc_new w4 _)]; simpa using hu)
          have HS5 := Lib.hid (HS4.out.trans (hs5.mono (fun _ x => x.elim)))
          have HL5 := Lib.hid (HL4.out.trans (hs5.mono (fun _ x => x.elim)))
          have HR5 := Lib.hid (HR4.out.stay0 hs5)
          have HSL5 := Lib.hid (HO4.out.slc.stay0 hs5)
          have HPC5 := Lib.hid (HPO.out w5 HL5.out)
          have HZ5 := Lib.hid (show ∀ j, v4.ownBlock = some j → wr.heap.size ≤ j from fun j hj => Nat.le_trans HL3.out.size (HO4.out.lt j hj).1)
          rw [hw5]
          clear hw5 hs5
          refine hK _ _ HS5.out ?_
          clear hK
          conv => arg 8; simp [Act.put]
          refine wpAnyH_one #[true, true, true, true, true, true, true, true, true, true, true, true, false, false, false] (i := 11) rfl (by kernel_rfl) (by kernel_rfl) (fun K hK => ?_)
          refine step_append_pc rfl (.tmp 31) (.tmp 37) rfl rfl w4.heap.size rfl ⟨ky, pb, v4⟩ HPC5.out HB5.out HSL5.out (fun h0 => HNE.out v4 HZ5.out h0 _ HSL5.out) (one_pc _ _ _ _ hv4) HQN.out (by have := HL5.out.size; have := HBW.out; omega) ?_
          intro v6 w6 o6 s6 n6
          obtain ⟨a6, l6, c6, rfl⟩ : ∃ a l c, v6 = .slice a l c := by obtain ⟨a, c, e⟩ := o6.form; exact ⟨a, _, c, e⟩
          have HO6 := Lib.hid o6
          have HS6 := Lib.hid s6
          have HN6 := Lib.hid n6
          have HS6' := Lib.hid (show Stay (fun j => j = r ∨ j = t ∨ v.ownBlock = some j) wr.drew w6 from HS5.out.trans (s6.mono (fun j hj => .inr (.inr hj))))
          clear o6 s6 n6
          refine hK _ _ HS6'.out ?_
          clear hK
          conv => arg 8; simp [Act.put]
          refine wpAnyH_takeL (i := 12) (v := .pointer (some ⟨t, 0, none⟩)) #[true, true, true, true, true, true, true, true, true, true, true, true, true, false, false] rfl (by kernel_rfl) (by kernel_rfl) (by kernel_rfl) (fun _ _ _ h => h) (by kernel_rfl) HS6'.out (Or.inl ⟨by rfl, fun W hW => ?_⟩) ?_
          · go_simp
          conv => arg 8; simp [Act.put]
          refine wpAnyH_takeL (i := 13) (v := .pointer (some ⟨t, 1, none⟩)) #[true, true, true, true, true, true, true, true, true, true, true, true, true, true, false] rfl (by kernel_rfl) (by kernel_rfl) (by kernel_rfl) (fun _ _ _ h => h) (by kernel_rfl) HS6'.out (Or.inl ⟨by rfl, fun W hW => ?_⟩) ?_
          · go_simp
          conv => arg 8; simp [Act.put]
          refine wpAnyH_one #[true, true, true, true, true, true, true, true, true, true, true, true, true, true, true] (i := 14) rfl (by kernel_rfl) (by kernel_rfl) (fun K hK => ?_)
          have ht6 := HTB.out _ w6 HL5.out HS6.out
          have hc6 : w6.cell? ⟨t, 1, none⟩ = some v := by rw [cell_of_row w6 t 1 _ _ _ ht6]; rfl
          have hf6 := frozen_of_row w6 t 1 _ _ ht6
          go_simp
          refine hK _ _ (HS6'.out.trans (Stay.setCell (X := fun j => j = r ∨ j = t ∨ v.ownBlock = some j) w6 ⟨t, 1, none⟩ (.slice a6 l6 c6) (Or.inr (Or.inl rfl)))) ?_
          clear hK
          conv => arg 8; simp [Act.put]
          clear ht6 hc6 hf6
          refine wpAnyH_done (by kernel_rfl) ?_ _
          go_wp2
          go_roundw
          case rel =>
            obtain ⟨k', v', Q', e1, e2, e3, e4, e5, e6, e7, e8, e9, e10⟩ := HREL.out _ _ w6 v4 HO6.out HS6.out HN6.out HR5.out HL5.out HZ5.out
            exact ⟨k', v', Q', e1, by subst e2; go_num, e3, e4, e5, e6, e7, e8, e9, e10⟩
          case measure => simp [intOf]; omega
        refine AllReadyH.cons (o := _) rfl (fun K hK => ?_) ?_
        · go_simp
          go_wp2_with (go_at_call 28; refine (bytes_off X w3 r pb rest HR3.out HL2.out).mono ?_; rintro y w4 ⟨⟨v4, rfl, o4⟩, h4, s4⟩; have HO4 := Lib.hid o4; have HR4 := Lib.hid h4; have HS4 := Lib.hid (show Stay (fun j => j = r ∨ j = t ∨ v.ownBlock = some j) wr.drew w4 from HS3.out.trans (s4.mono (fun j hj => .inl hj))); have HL4 := Lib.hid (show Stay (fun j => j = r) wr w4 from HL3.out.trans s4); clear h4 s4 o4)
          refine Shut.out hK _ _ HS4.out (fun _ => ?_)
          clear hK
          refine wpAnyH_listedL #[true, true, true, true, false, true, true, true, true, false, false, false, false, false, false] (by kernel_rfl) ?_
          conv => arg 8; simp [Act.put]
          obtain ⟨a4, c4, hv4⟩ := HO4.out.form
          refine wpAnyH_takeL (i := 9) (v := pcV ⟨ky, pb, v4⟩) #[true, true, true, true, false, true, true, true, true, true, false, false, false, false, false] rfl (by kernel_rfl) (by kernel_rfl) (by kernel_rfl) (fun _ _ _ h => h) (by kernel_rfl) HS4.out (Or.inl ⟨by rfl, fun W hW => ?_⟩) ?_
          · unfold pcV pcC
            go_simp
          conv => arg 8; simp [Act.put]
          refine wpAnyH_ready (rs := [4, 10]) (by kernel_rfl) (by simp) ?_
          refine AllReadyH.cons (o := _) rfl (fun K hK => ?_) ?_
          · refine Me.step_load_run rfl 71 (.tmp 30) rfl ⟨t, 1, none⟩ rfl v (run_load_pcs (HLD.out w4 HL4.out)) ?_
            refine Shut.out hK _ _ HS4.out (fun _ => ?_)
            clear hK
            refine wpAnyH_listedL #[true, true, true, true, true, true, true, true, true, true, false, false, false, false, false] (by kernel_rfl) ?_
            conv => arg 8; simp [Act.put]
            refine wpAnyH_one #[true, true, true, true, true, true, true, true, true, true, true, false, false, false, false] (i := 10) rfl (by kernel_rfl) (by kernel_rfl) (fun K hK => ?_)
            refine step_one_pc rfl (.tmp 36) rfl ⟨ky, pb, v4⟩ hv4 rfl ?_
            obtain ⟨w5, hw5⟩ : ∃ w5, w4.alloc (.cells (pcC ⟨ky, pb, v4⟩).toArray 78) = w5 := ⟨_, rfl⟩
            have hs5 : Stay (fun _ => False) w4 w5 := hw5 ▸ Stay.alloc _ _
            have HB5 := Lib.hid (show ∀ j u, (pcC ⟨ky, pb, v4⟩)[j]? = some u → w5.cell? ⟨w4.heap.size, j, none⟩ = some u from fun j u hu => by rw [← hw5, cell_of_row _ w4.heap.size j _ _ _ (heap_alloc_new w4 _)]; simpa using hu)
            have HS5 := Lib.hid (HS4.out.trans (hs5.mono (fun _ x => x.elim)))
            have HL5 := Lib.hid (HL4.out.trans (hs5.mono (fun _ x => x.elim)))
            have HR5 := Lib.hid (HR4.out.stay0 hs5)
            have HSL5 := Lib.hid (HO4.out.slc.stay0 hs5)
            have HPC5 := Lib.hid (HPO.out w5 HL5.out)
            have HZ5 := Lib.hid (show ∀ j, v4.ownBlock = some j → wr.heap.size ≤ j from fun j hj => Nat.le_trans HL3.out.size (HO4.out.lt j hj).1)
            rw [hw5]
            clear hw5 hs5
            refine hK _ _ HS5.out ?_
            clear hK
            conv => arg 8; simp [Act.put]
            refine wpAnyH_one #[true, true, true, true, true, true, true, true, true, true, true, true, false, false, false] (i := 11) rfl (by kernel_rfl) (by kernel_rfl) (fun K hK => ?_)
            refine step_append_pc rfl (.tmp 31) (.tmp 37) rfl rfl w4.heap.size rfl ⟨ky, pb, v4⟩ HPC5.out HB5.out HSL5.out (fun h0 => HNE.out v4 HZ5.out h0 _ HSL5.out) (one_pc _ _ _ _ hv4) HQN.out (by have := HL5.out.size; have := HBW.out; omega) ?_
            intro v6 w6 o6 s6 n6
            obtain ⟨a6, l6, c6, rfl⟩ : ∃ a l c, v6 = .slice a l c := by obtain ⟨a, c, e⟩ := o6.form; exact ⟨a, _, c, e⟩
            have HO6 := Lib.hid o6
            have HS6 := Lib.hid s6
            have HN6 := Lib.hid n6
            have HS6' := Lib.hid (show Stay (fun j => j = r ∨ j = t ∨ v.ownBlock = some j) wr.drew w6 from HS5.out.trans (s6.mono (fun j hj => .inr (.inr hj))))
            clear o6 s6 n6
            refine hK _ _ HS6'.out ?_
            clear hK
            conv => arg 8; simp [Act.put]
            refine wpAnyH_takeL (i := 12) (v := .pointer (some ⟨t, 0, none⟩)) #[true, true, true, true, true, true, true, true, true, true, true, true, true, false, false] rfl (by kernel_rfl) (by kernel_rfl) (by kernel_rfl) (fun _ _ _ h => h) (by kernel_rfl) HS6'.out (Or.inl ⟨by rfl, fun W hW => ?_⟩) ?_
            · go_simp
            conv => arg 8; simp [Act.put]
            refine wpAnyH_takeL (i := 13) (v := .pointer (some ⟨t, 1, none⟩)) #[true, true, true, true, true, true, true, true, true, true, true, true, true, true, false] rfl (by kernel_rfl) (by kernel_rfl) (by kernel_rfl) (fun _ _ _ h => h) (by kernel_rfl) HS6'.out (Or.inl ⟨by rfl, fun W hW => ?_⟩) ?_
            · go_simp
            conv => arg 8; simp [Act.put]
            refine wpAnyH_one #[true, true, true, true, true, true, true, true, true, true, true, true, true, true, true] (i := 14) rfl (by kernel_rfl) (by kernel_rfl) (fun K hK => ?_)
            have ht6 := HTB.out _ w6 HL5.out HS6.out
            have hc6 : w6.cell? ⟨t, 1, none⟩ = some v := by rw [cell_of_row w6 t 1 _ _ _ ht6]; rfl
            have hf6 := frozen_of_row w6 t 1 _ _ ht6
            go_simp
            refine hK _ _ (HS6'.out.trans (Stay.setCell (X := fun j => j = r ∨ j = t ∨ v.ownBlock = some j) w6 ⟨t, 1, none⟩ (.slice a6 l6 c6) (Or.inr (Or.inl rfl)))) ?_
            clear hK
            conv => arg 8; simp [Act.put]
            clear ht6 hc6 hf6
            refine wpAnyH_done (by kernel_rfl) ?_ _
            go_wp2
            go_roundw
            case rel =>
              obtain ⟨k', v', Q', e1, e2, e3, e4, e5, e6, e7, e8, e9, e10⟩ := HREL.out _ _ w6 v4 HO6.out HS6.out HN6.out HR5.out HL5.out HZ5.out
              exact ⟨k', v', Q', e1, by subst e2; go_num, e3, e4, e5, e6, e7, e8, e9, e10⟩
            case measure => simp [intOf]; omega
          refine AllReadyH.cons (o := _) rfl (fun K hK => ?_) ?_
          · refine step_one_pc rfl (.tmp 36) rfl ⟨ky, pb, v4⟩ hv4 rfl ?_
            obtain ⟨w5, hw5⟩ : ∃ w5, w4.alloc (.cells (pcC ⟨ky, pb, v4⟩).toArray 78) = w5 := ⟨_, rfl⟩
            have hs5 : Stay (fun _ => False) w4 w5 := hw5 ▸ Stay.alloc _ _
            have HB5 := Lib.hid (show ∀ j u, (pcC ⟨ky, pb, v4⟩)[j]? = some u → w5.cell? ⟨w4.heap.size, j, none⟩ = some u from fun j u hu => by rw [← hw5, cell_of_row _ w4.heap.size j _ _ _ (heap_alloc_new w4 _)]; simpa using hu)
            have HS5 := Lib.hid (HS4.out.trans (hs5.mono (fun _ x => x.elim)))
            have HL5 := Lib.hid (HL4.out.trans (hs5.mono (fun _ x => x.elim)))
            have HR5 := Lib.hid (HR4.out.stay0 hs5)
            have HSL5 := Lib.hid (HO4.out.slc.stay0 hs5)
            have HPC5 := Lib.hid (HPO.out w5 HL5.out)
            have HZ5 := Lib.hid (show ∀ j, v4.ownBlock = some j → wr.heap.size ≤ j from fun j hj => Nat.le_trans HL3.out.size (HO4.out.lt j hj).1)
            rw [hw5]
            clear hw5 hs5
            refine Shut.out hK _ _ HS5.out (fun _ => ?_)
            clear hK
            refine wpAnyH_listedL #[true, true, true, true, false, true, true, true, true, true, true, false, false, false, false] (by kernel_rfl) ?_
            conv => arg 8; simp [Act.put]
            refine wpAnyH_one #[true, true, true, true, true, true, true, true, true, true, true, false, false, false, false] (i := 4) rfl (by kernel_rfl) (by kernel_rfl) (fun K hK => ?_)
            refine Me.step_load_run rfl 71 (.tmp 30) rfl ⟨t, 1, none⟩ rfl v (run_load_pcs (HLD.out w5 HL5.out)) ?_
            refine hK _ _ HS5.out ?_
            clear hK
            conv => arg 8; simp [Act.put]
            refine wpAnyH_one #[true, true, true, true, true, true, true, true, true, true, true, true, false, false, false] (i := 11) rfl (by kernel_rfl) (by kernel_rfl) (fun K hK => ?_)
            refine step_append_pc rfl (.tmp 31) (.tmp 37) rfl rfl w4.heap.size rfl ⟨ky, pb, v4⟩ HPC5.out HB5.out HSL5.out (fun h0 => HNE.out v4 HZ5.out h0 _ HSL5.out) (one_pc _ _ _ _ hv4) HQN.out (by have := HL5.out.size; have := HBW.out; omega) ?_
            intro v6 w6 o6 s6 n6
            obtain ⟨a6, l6, c6, rfl⟩ : ∃ a l c, v6 = .slice a l c := by obtain ⟨a, c, e⟩ := o6.form; exact ⟨a, _, c, e⟩
            have HO6 := Lib.hid o6
            have HS6 := Lib.hid s6
            have HN6 := Lib.hid n6
            have HS6' := Lib.hid (show Stay (fun j => j = r ∨ j = t ∨ v.ownBlock = some j) wr.drew w6 from HS5.out.trans (s6.mono (fun j hj => .inr (.inr hj))))
            clear o6 s6 n6
            refine hK _ _ HS6'.out ?_
            clear hK
            conv => arg 8; simp [Act.put]
            refine wpAnyH_takeL (i := 12) (v := .pointer (some ⟨t, 0, none⟩)) #[true, true, true, true, true, true, true, true, true, true, true, true, true, false, false] rfl (by kernel_rfl) (by kernel_rfl) (by kernel_rfl) (fun _ _ _ h => h) (by kernel_rfl) HS6'.out (Or.inl ⟨by rfl, fun W hW => ?_⟩) ?_
            · go_simp
            conv => arg 8; simp [Act.put]
            refine wpAnyH_takeL (i := 13) (v := .pointer (some ⟨t, 1, none⟩)) #[true, true, true, true, true, true, true, true, true, true, true, true, true, true, false] rfl (by kernel_rfl) (by kernel_rfl) (by kernel_rfl) (fun _ _ _ h => h) (by kernel_rfl) HS6'.out (Or.inl ⟨by rfl, fun W hW => ?_⟩) ?_
            · go_simp
            conv => arg 8; simp [Act.put]
            refine wpAnyH_one #[true, true, true, true, true, true, true, true, true, true, true, true, true, true, true] (i := 14) rfl (by kernel_rfl) (by kernel_rfl) (fun K hK => ?_)
            have ht6 := HTB.out _ w6 HL5.out HS6.out
            have hc6 : w6.cell? ⟨t, 1, none⟩ = some v := by rw [cell_of_row w6 t 1 _ _ _ ht6]; rfl
            have hf6 := frozen_of_row w6 t 1 _ _ ht6
            go_simp
            refine hK _ _ (HS6'.out.trans (Stay.setCell (X := fun j => j = r ∨ j = t ∨ v.ownBlock = some j) w6 ⟨t, 1, none⟩ (.slice a6 l6 c6) (Or.inr (Or.inl rfl)))) ?_
            clear hK
            conv => arg 8; simp [Act.put]
            clear ht6 hc6 hf6
            refine wpAnyH_done (by kernel_rfl) ?_ _
            go_wp2
            go_roundw
            case rel =>
              obtain ⟨k', v', Q', e1, e2, e3, e4, e5, e6, e7, e8, e9, e10⟩ := HREL.out _ _ w6 v4 HO6.out HS6.out HN6.out HR5.out HL5.out HZ5.out
              exact ⟨k', v', Q', e1, by subst e2; go_num, e3, e4, e5, e6, e7, e8, e9, e10⟩
            case measure => simp [intOf]; omega
          exact AllReadyH.nil
        exact AllReadyH.nil
      exact AllReadyH.nil
    · obtain rfl : k = N := by omega
      obtain ⟨kl, hkl⟩ : ∃ kl, kl = lastK L := ⟨_, rfl⟩
      obtain ⟨en, hen⟩ : ∃ en, en = Bo.encB 3 (filtB L q) := ⟨_, rfl⟩
      have hform : hdN L p k (k - k) ++ tailT L q = bytesB kl ++ (bytesB en ++ []) := by
        rw [Nat.sub_self, hkl, hen]
        unfold tailT
        simp [hdN]
      have hla := len_left_all HG.out (k := k) (by rw [← HNN.out]; omega)
      rw [← HNN.out, hform] at hla
      have hrd' := hrd.out
      rw [hform] at hrd'
      have HRD := Lib.hid hrd'
      have HL1 := Lib.hid hla
      have HL2 := Lib.hid (show (bytesB en ++ []).length ≤ 10000000 by have := HL1.out; rw [List.length_append] at this; omega)
      have HL3 := Lib.hid (show en.length ≤ 10000000 by have := HL2.out; have := (len_bytesB en).1; rw [List.length_append] at *; omega)
      have HKL := Lib.hid hkl
      have hfl := filtB_len L q
      have hqn := HG.out.qn
      have hg1 : 1 ≤ q * L.length := Nat.mul_pos HG.out.q1 HG.out.n1
      have HEG := Lib.hid (show Bo.goodB en = true ∧ Bo.decBits en = filtB L q ∧ (Bo.decK en).1 = 3 from by
        rw [hen]
        exact Bo.enc_good (by omega) (by omega) (by decide) (by decide))
      have HTW4 := Lib.hid hzr
      clear hform hrd' hla hkl hen hrd hfl hqn hg1
      go_wp2_with fail
      refine (text_off X wr r kl _ HRD.out (Nat.le_trans HL1.out (by decide))).mono ?_
      rintro y w6 ⟨rfl, hr6, hs6⟩
      have HR6 := Lib.hid hr6
      have ht6 := (hs6.block t (by omega) (fun h => hrt h.symm)).trans htb.out
      have HT6 := Lib.hid ht6
      have hc6 : w6.cell? ⟨t, 2, none⟩ = some (.string ⟨#[]⟩) := by rw [cell_of_row w6 t 2 _ _ _ ht6]; rfl
      have hf6 := frozen_of_row w6 t 2 _ _ ht6
      have HP6 := Lib.hid (show PcOwn (t + 1) w6 v Q from hpo.out.stay hs6 (fun j hj h => by have := (hpo.out.lt j hj).1; have := (HX1.out r hrX).2; have := HTW.out; omega) (fun z hz h0 j hj h => by have := hqb.out z hz h0 j hj; have := (HX1.out r hrX).2; have := HTW.out; omega))
      have HS6 := Lib.hid (show Stay (fun j => j = r ∨ j = t) wr w6 from hs6.mono (fun j hj => .inl hj))
      clear hr6 hs6 ht6
      go_wp2_with fail
      have hset : Stay (fun j => j = t) w6 (w6.setCell ⟨t, 2, none⟩ (.string ⟨kl.toArray⟩)) := Stay.setCell _ _ _ rfl
      have ht7 := heap_setCell_same w6 t 2 _ _ (.string ⟨kl.toArray⟩) HT6.out
      have HR7 := Lib.hid (HR6.out.stay hset (fun j hj _ h => by have := (HX1.out j hj).2; have := HTW.out; omega))
      have HP7 := Lib.hid (HP6.out.stay hset (fun j hj h => by have := (HP6.out.lt j hj).1; omega) (fun z hz h0 j hj h => by have := hqb.out z hz h0 j hj; omega))
      have HS7 := Lib.hid (HS6.out.trans (hset.mono (fun j hj => .inr hj)))
      obtain ⟨w7, hw7⟩ : ∃ w7, w6.setCell ⟨t, 2, none⟩ (.string ⟨kl.toArray⟩) = w7 := ⟨_, rfl⟩
      rw [hw7] at ht7 HR7 HP7 HS7 ⊢
      have HT7 := Lib.hid (show w7.heap[t]? = some (.cells (tbC n v kl (.pointer none)) 73 (0, 0)) from ht7)
      clear hset hw7 ht7 hc6 hf6 HR6 HP6 HT6
      refine (bytes_off X w7 r en [] HR7.out (Nat.le_trans HL2.out (by decide))).mono ?_
      rintro y w8 ⟨⟨v8, rfl, ho8⟩, hr8, hs8⟩
      have HR8 := Lib.hid hr8
      have HT8 := Lib.hid ((hs8.block t (by have := (Array.getElem?_eq_some_iff.1 HT7.out).1; omega) (fun h => hrt h.symm)).trans HT7.out)
      have HP8 := Lib.hid (show PcOwn (t + 1) w8 v Q from HP7.out.stay hs8 (fun j hj h => by have := (HP7.out.lt j hj).1; have := (HX1.out r hrX).2; have := HTW.out; omega) (fun z hz h0 j hj h => by have := hqb.out z hz h0 j hj; have := (HX1.out r hrX).2; have := HTW.out; omega))
      have HS8 := Lib.hid (HS7.out.trans (hs8.mono (fun j hj => .inl hj)))
      have HSL8 := Lib.hid ho8.slc
      clear hr8 hs8 ho8 HR7 HT7 HP7
      go_wp2_with fail
      refine (Bo.decode_any w8 v8 en HSL8.out (Nat.le_trans HL3.out (by decide))).mono ?_
      rintro y w9 ⟨hret, hs9⟩
      unfold Bo.DecRet at hret
      rw [if_pos HEG.out.1, HEG.out.2.1, HEG.out.2.2] at hret
      obtain ⟨pf, gf, rfl, hpf, hgf, hf9⟩ := hret
      have HF9 := Lib.hid hf9
      have HR9 := Lib.hid (HR8.out.stay0 hs9)
      have ht9 := (hs9.block t (by have := (Array.getElem?_eq_some_iff.1 HT8.out).1; omega) (fun x => x)).trans HT8.out
      have HP9 := Lib.hid (HP8.out.stay0 hs9)
      have HS9 := Lib.hid (HS8.out.trans (hs9.mono (fun _ x => x.elim)))
      have HT9 := Lib.hid ht9
      have hc9 : w9.cell? ⟨t, 3, none⟩ = some (.pointer none) := by rw [cell_of_row w9 t 3 _ _ _ ht9]; rfl
      have hf9' := frozen_of_row w9 t 3 _ _ ht9
      have hz8 := (Array.getElem?_eq_some_iff.1 HT8.out).1
      clear hf9 hs9 ht9 HR8 HT8 HP8
      go_wp2_with fail
      have hset : Stay (fun j => j = t) w9 (w9.setCell ⟨t, 3, none⟩ (.pointer (some ⟨pf, 0, none⟩))) := Stay.setCell _ _ _ rfl
      have ht10 := heap_setCell_same w9 t 3 _ _ (.pointer (some ⟨pf, 0, none⟩)) HT9.out
      have HR10 := Lib.hid (HR9.out.stay hset (fun j hj _ h => by have := (HX1.out j hj).2; have := HTW.out; omega))
      have HP10 := Lib.hid (HP9.out.stay hset (fun j hj h => by have := (HP9.out.lt j hj).1; omega) (fun z hz h0 j hj h => by have := hqb.out z hz h0 j hj; omega))
      have HS10 := Lib.hid (HS9.out.trans (hset.mono (fun j hj => .inr hj)))
      have HF10 := Lib.hid (HF9.out.stay hset (fun h => by omega) (fun h => by omega))
      obtain ⟨w10, hw10⟩ : ∃ w10, w9.setCell ⟨t, 3, none⟩ (.pointer (some ⟨pf, 0, none⟩)) = w10 := ⟨_, rfl⟩
      rw [hw10] at ht10 HR10 HP10 HS10 HF10 ⊢
      have HTA := Lib.hid (show TAt w10 t L p q from ⟨⟨v, pf, gf, by
          have : w10.heap[t]? = some (.cells (tbC n v kl (.pointer (some ⟨pf, 0, none⟩))) 73 (0, 0)) := ht10
          rw [this, HKL.out, HLL.out]
          rfl, HP10.out.at (by rw [hql.out, HNN.out]) (by rw [hql.out]; omega) hqs.out, HF10.out⟩, HG.out.p1, HG.out.q1, HG.out.n1, by have := HG.out.n2; omega, HG.out.srt, HG.out.nrm, by have := HG.out.sz; omega⟩)
      have HFIN := Lib.hid (show Stay (fun _ => False) w w10 from stay_seal (X := fun j => w.heap.size ≤ j) ((HT.out.mono (fun _ x => x.elim)).trans (HS10.out.mono (fun j hj => by have h1 := (HX1.out r hrX).1; have h2 := HTW.out; rcases hj with hj | hj <;> omega))) (fun j hj => hj))
      clear hset hw10 ht10 hc9 hf9' HR9 HP9 HT9 HF9 HF10 HP10 HS10 HS9 HS8 HS7
      refine (done_off X w10 r HR10.out).mono ?_
      rintro y w11 ⟨rfl, rfl⟩
      go_wp2_with fail
      refine (formed_any w10 t p q L HTA.out).mono ?_
      rintro y w12 ⟨rfl, hs12⟩
      have HTA12 := Lib.hid (HTA.out.stay0 hs12)
      have HFIN12 := Lib.hid (HFIN.out.trans hs12)
      clear hs12
      go_wp2
      go_ret2
      exact ⟨⟨t, rfl, by have := HTW.out; omega, HTA12.out⟩, HFIN12.out⟩
end Go.Proofs.YtahfgoafiepioaaGreatDoor.Tb
