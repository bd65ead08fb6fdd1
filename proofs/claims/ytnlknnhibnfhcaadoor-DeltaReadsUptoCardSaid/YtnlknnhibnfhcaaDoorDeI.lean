/-
  delta: the parts of bytes.
-/
import Derived.Test.YtnlknnhibnfhcaaDoorDeH
namespace Go.Proofs.YtnlknnhibnfhcaaDoor.De
open Go.RowKit Pk
set_option maxRecDepth 100000

theorem rd_lt {X : Nat → Prop} {w : World} {p : Nat} {s : RS} (h : RdAt X w p s) : p < w.heap.size := by
  obtain ⟨_, x, hx, _⟩ := h
  exact lt_of_block hx
theorem Slc.form {w : World} {x : Value} {b : List UInt8} (h : Slc w x b) : ∃ a c, x = .slice a b.length c := by
  obtain ⟨a, c, e, _⟩ := h
  exact ⟨a, c, e⟩
theorem takeP_i64 (s : RS) : I64q (takeP s).1 := by
  have h1 := take_num_le (takeB truB false s).2
  have h2 := take_num_le (takeB (numB 64) 0 (takeB truB false s).2).2
  unfold takeP
  split
  · exact ⟨by dsimp only; omega, by dsimp only; omega, by dsimp only; omega, by dsimp only; omega⟩
  · exact I64q.tell _

set_option maxHeartbeats 4000000 in
theorem decode_any (w : World) (x : Value) (b : List UInt8) (hx : Slc w x b) (hlen : b.length ≤ 140737488355328) :
    Calls Tryd.prog 6 #[x] w fun e w' => (∃ v, e = .returned (.tuple #[v, errV (decN b).2]) ∧ ∃ L : List Po, L.map Po.p = (decN b).1 ∧ PsAt w' v L) ∧ Stay (fun _ => False) w w' := by
  obtain ⟨DN, hDN⟩ : ∃ DN, DN = decN b := ⟨_, rfl⟩
  rw [← hDN]
  unfold decN at hDN
  have HDN := Lib.hid hDN
  clear hDN
  go_enter Tryd.func6, Tryd.ntmps6
  go_wp2_with fail
  refine (read_cap w x b hx hlen).mono ?_
  rintro e w1 ⟨p, rfl, hr1, hs1⟩
  have hz1 := hs1.size
  go_wp2_with fail
  refine (rcount_any _ w1 p ⟨b, 0⟩ 64 hr1 hlen (by decide)).mono ?_
  rintro e w2 ⟨rfl, hr2, hs2⟩
  have hcn := take_cnt_le ⟨b, 0⟩
  have hlc := take_len (rule := cntB 64) (zero := 0) (cntB_len 64) ⟨b, 0⟩
  generalize takeB (cntB 64) 0 ⟨b, 0⟩ = C at *
  obtain ⟨ci, s0⟩ := C
  obtain ⟨n, rfl⟩ : ∃ n : Nat, ci = (n : Int) := ⟨ci.toNat, by dsimp only at hcn; omega⟩
  have hn : n ≤ 64 := by dsimp only at hcn; omega
  dsimp only at hlc
  rw [show ((n : Int)).toNat = n by omega] at HDN
  obtain ⟨X, hXd⟩ : ∃ X : Nat → Prop, X = fun k => w.heap.size ≤ k ∧ k < w1.heap.size := ⟨_, rfl⟩
  have HX1 := Lib.hid (show ∀ k, X k → w.heap.size ≤ k ∧ k < w1.heap.size by intro k h; rw [hXd] at h; exact h)
  rw [← hXd] at hr2
  have hpX := hr2.own
  have HR2 := Lib.hid hr2
  have hz2 := hs2.size
  have HS2 := Lib.hid (stay_seal (X := fun k => w.heap.size ≤ k) ((hs1.mono (fun _ x => x.elim)).trans (hs2.mono (fun k hk => by have := (HX1.out p hpX).1; omega))) (fun k hk => hk))
  have HXL := Lib.hid hlen
  clear hr1 hs1 hr2 hs2 hXd hx hlen hcn
  unfold i64V
  go_wp2
  go_loopw [5, 10] (fun v i wr => ∃ k : Nat, k ≤ n ∧ i = .int .i64 (k : Int) ∧ (∃ L : List Po, L.map Po.p = (takesN s0 k).1 ∧ L.length = k ∧ PsOwn 49 w1.heap.size wr v L ∧ ∀ q ∈ L, 0 < q.p.b.length → ∀ j, q.x.ownBlock = some j → w1.heap.size ≤ j) ∧ RdAt X wr p (takesN s0 k).2 ∧ Stay (fun _ => False) w wr ∧ w1.heap.size ≤ wr.heap.size) (fun _ i _ => n - (intOf i).toNat)
  case atStart => exact ⟨0, Nat.zero_le _, rfl, ⟨[], rfl, rfl, PsOwn.nil _ _ _, fun _ hq => (List.not_mem_nil hq).elim⟩, HR2.out, HS2.out, hz2⟩
  case round =>
    obtain ⟨k, hk, rfl, ⟨L, hL, hLk, ho, hbl⟩, hr, hst, hzr⟩ := hrel
    have HT := Lib.hid hst
    have HO := Lib.hid ho
    have HR := Lib.hid hr
    have HL := Lib.hid hL
    have HLK := Lib.hid hLk
    have HBL := Lib.hid hbl
    obtain ⟨va, vc, rfl⟩ := ho.form
    rw [hLk] at HO ⊢
    have hpw := HX1.out p hpX
    clear hst ho hr hL hLk hbl
    by_cases hlt : k < n
    · have HSU := Lib.hid (show takesN s0 (k + 1) = ((takesN s0 k).1 ++ [(takeP (takesN s0 k).2).1], (takeP (takesN s0 k).2).2) from rfl)
      have htl := takes_len s0 k
      have HI := Lib.hid (takeP_i64 (takesN s0 k).2)
      go_wp2_with fail
      refine (takep_any X wr p (takesN s0 k).2 HR.out (fun j hj => by have := HX1.out j hj; omega) (by have := HXL.out; omega)).mono ?_
      rintro e w3 ⟨⟨⟨q, qx⟩, rfl, hq1, hq2, hq3⟩, hr3, hs3⟩
      dsimp only at hq1 hq2 hq3
      obtain ⟨xa, xc, rfl⟩ := Slc.form hq2
      have ho3 := HO.out.stay hs3 (fun j hj e => by have := (HO.out.lt j hj).1; omega) (fun z hz h0 j hj e => by have := HBL.out z hz h0 j hj; omega)
      have hz3 := hs3.size
      have hq4 := fun j u (hu : (poC ⟨q, .slice xa q.b.length xc⟩)[j]? = some u) => show (w3.alloc (.cells (poC ⟨q, .slice xa q.b.length xc⟩).toArray 49)).cell? ⟨w3.heap.size, j, none⟩ = some u by
        rw [cell_of_row _ w3.heap.size j _ _ _ (heap_alloc_new w3 _)]
        simpa using hu
      have hs4 : Stay (fun _ => False) w3 (w3.alloc (.cells (poC ⟨q, .slice xa q.b.length xc⟩).toArray 49)) := Stay.alloc _ _
      obtain ⟨w4, hw4⟩ : ∃ w4, w3.alloc (.cells #[.bool q.cp, .int .i64 q.f, .int .i64 q.n, .slice xa q.b.length xc] 49) = w4 := ⟨_, rfl⟩
      rw [show w3.alloc (.cells (poC ⟨q, .slice xa q.b.length xc⟩).toArray 49) = w4 from hw4] at hs4 hq4
      have hz4 := hs4.size
      have HO4 := Lib.hid (ho3.stay0 hs4)
      have HQ4 := Lib.hid hq4
      have HSL4 := Lib.hid (hq2.stay0 hs4)
      have HR4 := Lib.hid (hr3.stay0 hs4)
      have HS4 := Lib.hid (((HT.out.mono (fun _ x => x.elim)).trans (hs3.mono (Y := fun j => w.heap.size ≤ j) (fun j hj => by omega))).trans (hs4.mono (fun _ x => x.elim)))
      have HQ3 := Lib.hid hq3
      have HQ1 := Lib.hid hq1
      have W4 := Lib.hid hw4
      rw [← hq1] at HI
      clear hq1 hq2 hq3 hr3 hs3 hq4 hs4 ho3 hw4
      unfold poV poC
      have HNE := Lib.hid (show 0 < q.b.length → (Value.slice xa q.b.length xc).ownBlock ≠ (Value.slice va k vc).ownBlock from by
        intro h0 e
        rcases HO.out.row.2 with ⟨e1, _⟩ | ⟨g, cap, cur, e1, _, hg, _⟩
        · rw [e1] at e
          obtain ⟨a9, c9, e9, hr9, _⟩ := HSL4.out
          obtain ⟨ad, e8, _⟩ := hr9 h0
          obtain ⟨e7, _, _⟩ := Value.slice.inj e9
          rw [e7, e8] at e
          cases e
        · have hgl := (Array.getElem?_eq_some_iff.1 hg).1
          rw [e1] at e
          have := HQ3.out g e
          omega)
      go_wp2_with (at_builtin; rw [W4.out]; refine append_po pt_prog Tryd.underlying27 rfl (.tmp 12) (.tmp 15) rfl rfl w3.heap.size rfl ⟨q, .slice xa q.b.length xc⟩ HO4.out HQ4.out HSL4.out HI.out (fun h0 => HNE.out h0) (one_po _ _ _ _ rfl) (by rw [HLK.out]; omega) (by omega) ?_; intro v5 w5 ho5 hs5 hn5; obtain ⟨a5, c5, rfl⟩ := ho5.form; rw [List.length_append, List.length_singleton] at ho5; have HO5 := Lib.hid ho5; have HS5 := Lib.hid hs5; have hz5 := hs5.size; clear ho5 hs5 hn5)
      refine ⟨⟨k + 1, by omega, by go_num, ⟨L ++ [⟨q, .slice xa q.b.length xc⟩], ?_, by rw [List.length_append, List.length_singleton, HLK.out], HO5.out, ?_⟩, ?_, ?_, by omega⟩, by simp [intOf]; omega⟩
      · rw [List.map_append, HL.out, HSU.out, ← HQ1.out]
        rfl
      · intro z hz h0 j hj
        rcases List.mem_append.1 hz with hz | hz
        · exact HBL.out z hz h0 j hj
        · obtain rfl := List.mem_singleton.1 hz
          have := HQ3.out j hj
          omega
      · rw [HSU.out]
        exact HR4.out.stay HS5.out (fun j hj _ e => by have := HX1.out j hj; have := (HO.out.lt j e).1; omega)
      · exact stay_seal (X := fun j => w.heap.size ≤ j) (HS4.out.trans (HS5.out.mono (fun j e => by have := (HO.out.lt j e).1; omega))) (fun j hj => hj)
    · obtain rfl : k = n := by omega
      go_wp2_with fail
      refine (rdone_any _ wr p _ HR.out).mono ?_
      rintro e w5 ⟨rfl, rfl⟩
      by_cases hd : doneB (takesN s0 k).2 = 0
      · rw [if_pos hd] at HDN
        rw [hd, errV_zero]
        go_wp2
        go_ret2
        rw [HDN.out]
        exact ⟨⟨_, rfl, L, HL.out, HO.out.at⟩, HT.out⟩
      · rw [if_neg hd] at HDN
        rw [errV_pos hd]
        unfold errI
        go_wp2
        go_ret2
        rw [HDN.out]
        exact ⟨⟨_, rfl, [], rfl, PsAt.nil _⟩, HT.out⟩
end Go.Proofs.YtnlknnhibnfhcaaDoor.De
