/-
  rs: Join.
-/
import Derived.Test.YtaldpfamgfchoaaDoorRsS
namespace Go.Proofs.YtaldpfamgfchoaaDoor.Rs
open Go.RowKit Gf
set_option maxRecDepth 100000

def sumN (L : Nat → Nat) : Nat → Nat
  | 0 => 0
  | n + 1 => sumN L n + L n
/-- Rows one behind the other. -/
def catF (L : Nat → Nat) (D : Nat → Nat → UInt8) (k : Nat) : List UInt8 := (List.range k).flatMap (fun i => lf (L i) (D i))
theorem cat_succ (L : Nat → Nat) (D : Nat → Nat → UInt8) (k : Nat) : catF L D (k + 1) = catF L D k ++ lf (L k) (D k) := by simp [catF, List.range_succ]
theorem length_cat (L : Nat → Nat) (D : Nat → Nat → UInt8) : ∀ k, (catF L D k).length = sumN L k
  | 0 => rfl
  | k + 1 => by
    rw [cat_succ, List.length_append, length_cat L D k, length_lf]
    rfl
theorem sumN_le (L : Nat → Nat) : ∀ {n t : Nat}, t ≤ n → sumN L t ≤ sumN L n
  | 0, t, h => by
    have e : t = 0 := by omega
    subst e
    exact Nat.le_refl _
  | n + 1, t, h => by
    by_cases e : t = n + 1
    · subst e; exact Nat.le_refl _
    · have := sumN_le L (n := n) (t := t) (by omega)
      show _ ≤ sumN L n + L n
      omega
theorem cat_pre (L : Nat → Nat) (D : Nat → Nat → UInt8) : ∀ {n t : Nat}, t ≤ n → ∃ r, catF L D n = catF L D t ++ r
  | 0, t, h => by
    have e : t = 0 := by omega
    subst e
    exact ⟨[], (List.append_nil _).symm⟩
  | n + 1, t, h => by
    by_cases e : t = n + 1
    · subst e; exact ⟨[], (List.append_nil _).symm⟩
    · obtain ⟨r, hr⟩ := cat_pre L D (n := n) (t := t) (by omega)
      exact ⟨r ++ lf (L n) (D n), by rw [cat_succ, hr, List.append_assoc]⟩
theorem cat_at {L : Nat → Nat} {D : Nat → Nat → UInt8} {t k j : Nat} (ht : t < k) (hj : j < L t) : (catF L D k).getD (sumN L t + j) 0 = D t j := by
  obtain ⟨r, hr⟩ := cat_pre L D (n := k) (t := t + 1) (by omega)
  rw [hr, cat_succ, List.getD_eq_getElem?_getD, List.append_assoc, List.getElem?_append_right (by rw [length_cat]; omega), length_cat, Nat.add_sub_cancel_left, List.getElem?_append_left (by rw [length_lf]; exact hj), lf_get _ hj]
  rfl

theorem join_nil (w : World) (x n : Value) : Calls Tryd.prog 15 #[.pointer none, x, n] w fun e w' => e = .returned (.tuple #[.slice none 0 0, .iface 64 (.int .i64 1)]) ∧ w' = w := by
  go_enter Tryd.func15, Tryd.ntmps15
  go_wp2_with fail
  refine (data_nil w).mono ?_
  rintro e w' ⟨rfl, rfl⟩
  go_wp2
  go_ret2
  exact ⟨rfl, rfl⟩
section
variable {w : World} {c g k m N : Nat} {x : Value} {L : Nat → Nat} {D : Nat → Nat → UInt8}
theorem join_arg (hc : Cd w c g k m) (hx : SM (fun _ => False) w x N L D) (n : Int) (hn : N < k ∨ n < 0) :
    Calls Tryd.prog 15 #[.pointer (some ⟨c, 0, none⟩), x, .int .i64 n] w fun e w' => e = .returned (.tuple #[.slice none 0 0, .iface 64 (.int .i64 1)]) ∧ w' = w := by
  obtain ⟨a0, c0, rfl, _⟩ := hx.form
  have HC := Lib.hid hc
  have k0 := hc.c0
  have q0 : ((k : Int) == 0) = false := by have := hc.k1; simp; omega
  clear hc hx
  by_cases h1 : N < k
  · have q1 : (N : Int) < (k : Int) := by omega
    clear hn h1
    go_enter Tryd.func15, Tryd.ntmps15
    go_wp2_with fail
    refine (data_any HC.out).mono ?_
    rintro e w' ⟨rfl, rfl⟩
    go_wp2
    go_ret2
    exact ⟨rfl, rfl⟩
  · have q1 : ¬ (N : Int) < (k : Int) := by omega
    have q2 : n < 0 := by omega
    clear hn h1
    go_enter Tryd.func15, Tryd.ntmps15
    go_wp2_with fail
    refine (data_any HC.out).mono ?_
    rintro e w' ⟨rfl, rfl⟩
    go_wp2
    go_ret2
    exact ⟨rfl, rfl⟩

set_option maxHeartbeats 4000000 in
theorem join_any (hc : Cd w c g k m) (hx : SM (fun _ => False) w x N L D) (hN : k ≤ N) (n : Nat) (hs : sumN L k ≤ 140737488355328) (hn : n ≤ 9223372036854775807) :
    Calls Tryd.prog 15 #[.pointer (some ⟨c, 0, none⟩), x, .int .i64 (n : Int)] w fun e w' => Stay (fun _ => False) w w' ∧
      ((sumN L k < n ∧ e = .returned (.tuple #[.slice none 0 0, .iface 64 (.int .i64 2)])) ∨
       (n ≤ sumN L k ∧ ∃ v, e = .returned (.tuple #[v, .nilIface]) ∧ SSlc (fun i => i < w.heap.size) w' v (lf n (fun i => (catF L D k).getD i 0)))) := by
  obtain ⟨a0, c0, rfl, h0, _⟩ := hx.form
  have k0 := hc.c0
  have q0 : ((k : Int) == 0) = false := by have := hc.k1; simp; omega
  have q1 : ¬ (N : Int) < (k : Int) := by omega
  have q2 : ¬ (n : Int) < 0 := by omega
  have q3 : (k : Int) ≤ (c0 : Int) := by omega
  have q4 : (k : Int) ≤ 32 := by have := hc.km; omega
  have q5 : (n : Int) ≤ 9223372036854775807 := by omega
  have HC := Lib.hid hc
  have HX := Lib.hid (hx.first hN).up
  have HS := Lib.hid hs
  clear hc hx hN hs hn h0
  go_enter Tryd.func15, Tryd.ntmps15
  go_wp2_with fail
  refine (data_any HC.out).mono ?_
  rintro e w' ⟨rfl, rfl⟩
  go_wp2
  go_loopw [8, 39] (fun v i wr => ∃ t : Nat, t ≤ k ∧ i = .int .i64 (t : Int) ∧ v = .int .i64 (sumN L t : Int) ∧ Stay (fun _ => False) w' wr) (fun _ i _ => k - (intOf i).toNat)
  case atStart => exact ⟨0, by omega, rfl, rfl, Stay.refl _ _⟩
  case round =>
    obtain ⟨t, ht, rfl, rfl, hst⟩ := hrel
    by_cases hlt : t < k
    · have q6 : (t : Int) < (k : Int) := by omega
      obtain ⟨b, o, ak, ck, rfl, cR, sR, _⟩ := HX.out.row hlt
      have k1 := (cR.stay (hst.mono (fun _ x => x.elim))).now
      have hle := sumN_le L (n := k) (t := t + 1) (by omega)
      have e1 : ((sumN L t : Nat) : Int) + ((L t : Nat) : Int) = ((sumN L (t + 1) : Nat) : Int) := by show _ = ((sumN L t + L t : Nat) : Int); omega
      have e2 : ((sumN L (t + 1) : Nat) : Int) ≤ 140737488355328 := by have := HS.out; omega
      obtain ⟨s1, hs1⟩ : ∃ s, s = sumN L (t + 1) := ⟨_, rfl⟩
      rw [← hs1] at e1 e2
      obtain ⟨s0, hs0⟩ : ∃ s, s = sumN L t := ⟨_, rfl⟩
      rw [← hs0] at e1 ⊢
      obtain ⟨lt, hlt'⟩ : ∃ s, s = L t := ⟨_, rfl⟩
      rw [← hlt'] at e1 k1
      have HS1 := Lib.hid hs1
      have HST := Lib.hid hst
      have HLT := Lib.hid hlt
      clear hst hlt cR sR hle hs1 hs0 hlt'
      go_wp2
      have hlt := HLT.out
      first
        | exact ⟨⟨t + 1, by omega, by go_num, by rw [← HS1.out], HST.out⟩, by simp [intOf]; omega⟩
        | (go_round
           case rel => exact ⟨t + 1, by omega, by go_num, by rw [← HS1.out], HST.out⟩
           case measure => simp [intOf]; omega)
    · obtain rfl : t = k := by omega
      obtain ⟨s, hss⟩ : ∃ s, s = sumN L t := ⟨_, rfl⟩
      rw [← hss]
      have HSS := Lib.hid hss
      have HST := Lib.hid hst
      clear hst hss
      by_cases hsn : s < n
      · have q7 : (s : Int) < (n : Int) := by omega
        have HSN := Lib.hid hsn
        clear hsn
        go_wp2
        go_ret2
        exact ⟨HST.out, .inl ⟨by rw [← HSS.out]; exact HSN.out, rfl⟩⟩
      · have q7 : ¬ (s : Int) < (n : Int) := by omega
        have HSN := Lib.hid (show n ≤ s by omega)
        have HNB := Lib.hid (show n ≤ 140737488355328 by have := HS.out; rw [← HSS.out] at this; omega)
        have k1 := (HC.out.stay0 HST.out).c0
        clear hsn
        go_wp2_with (first
          | (with_reducible refine make_b rfl _ _ rfl n rfl rfl (by have := HNB.out; omega) ?_
             intro w2 h2 s2 l2
             have HB2 := Lib.hid h2
             have S2 := Lib.hid (HST.out.trans s2)
             have k2 := (HC.out.stay0 S2.out).c0
             clear h2 s2 l2 k1))
        clear k2
        obtain ⟨hb, hhb⟩ : ∃ hb, hb = wr.heap.size := ⟨_, rfl⟩
        have HGS := Lib.hid (show w'.heap.size ≤ hb by rw [hhb]; exact HST.out.size)
        rw [← hhb] at HB2 ⊢
        clear hhb
        go_loopw [12, 62] (fun v i w3 => ∃ (u : Nat) (ad : Addr), u ≤ t ∧ i = .int .i64 (u : Int) ∧ v = .slice (some ad) (n - min (sumN L u) n) (n - min (sumN L u) n) ∧ (sumN L u < n → ad = ⟨hb, sumN L u, none⟩) ∧
          FB w3 hb n (fun i => if i < sumN L u then (catF L D t).getD i 0 else 0) ∧ Stay (fun i => w'.heap.size ≤ i) w' w3) (fun _ i _ => t - (intOf i).toNat)
        case atStart =>
          refine ⟨0, ⟨hb, 0, none⟩, by omega, rfl, ?_, fun _ => rfl, HB2.out.congr (fun i _ => (if_neg (by show ¬ i < 0; omega)).symm), S2.out.mono (fun _ x => x.elim)⟩
          show _ = Value.slice _ (n - min 0 n) (n - min 0 n)
          rw [Nat.zero_min, Nat.sub_zero]
        case round =>
          obtain ⟨w3, hw3⟩ : ∃ x, x = wr := ⟨_, rfl⟩
          rw [← hw3] at hrel ⊢
          clear hw3
          obtain ⟨u, ad, hu, rfl, rfl, had, hfb, hst⟩ := hrel
          by_cases hlt : u < t
          · have q8 : (u : Int) < (t : Int) := by omega
            obtain ⟨b, o, ak, ck, rfl, cR, sR, _⟩ := HX.out.row hlt
            have k1 := (cR.stay hst).now
            have hle := sumN_le L (n := t) (t := u + 1) (by omega)
            obtain ⟨mm, hmm⟩ : ∃ mm, mm = n - min (sumN L u) n := ⟨_, rfl⟩
            rw [← hmm]
            obtain ⟨lu, hlu⟩ : ∃ lu, lu = L u := ⟨_, rfl⟩
            obtain ⟨d, hd⟩ : ∃ d, d = min mm lu := ⟨_, rfl⟩
            have q9 : (d : Int) ≤ (mm : Int) := by omega
            have hs3 : sumN L (u + 1) = sumN L u + L u := rfl
            rw [← hlu] at k1 sR hs3
            have key : ∃ w4, (Builtin.copy_ #[38, 38] 3 #[.slice (some ad) mm mm, .slice ak lu ck]).run Tryd.prog w3 = .ok (.int .i64 (d : Int)) w4 ∧ FB w4 hb n (fun i => if i < sumN L (u + 1) then (catF L D t).getD i 0 else 0) ∧ Stay (fun i => i = hb) w3 w4 := by
              by_cases hsu : sumN L u < n
              · obtain rfl := had hsu
                obtain ⟨w4, h1, h2, h3⟩ := run_copy_fb w3 3 (g := hb) (o := sumN L u) (m := mm) (c := mm) (N := n) (c2 := ck) hfb (by omega) ((sR.stay hst).now) d hd
                refine ⟨w4, h1, h2.congr (fun i hi => ?_), h3⟩
                unfold cpF
                by_cases h4 : sumN L u ≤ i ∧ i < sumN L u + d
                · rw [if_pos h4, if_pos (by omega)]
                  have := cat_at (L := L) (D := D) (t := u) (k := t) (j := i - sumN L u) hlt (by omega)
                  rw [show sumN L u + (i - sumN L u) = i by omega] at this
                  exact this.symm
                · rw [if_neg h4]
                  by_cases h5 : i < sumN L u
                  · exact (if_pos h5).trans (if_pos (by omega)).symm
                  · exact (if_neg h5).trans (if_neg (by omega)).symm
              · have hd0 : d = 0 := by omega
                refine ⟨w3, ?_, hfb.congr (fun i hi => ?_), Stay.refl _ _⟩
                · rw [hd0]
                  exact run_copy_none (P := Tryd.prog) w3 _ _ 3 5 _ _ mm mm lu ck Tryd.underlying38 info1 (by show min lu mm = 0; omega)
                · exact (if_pos (by omega)).trans (if_pos (by omega)).symm
            obtain ⟨w4, hcp, h4, s4⟩ := key
            have H4 := Lib.hid h4
            have S4 := Lib.hid (hst.trans (s4.mono (fun i (e : i = hb) => by have := HGS.out; omega)))
            have HD := Lib.hid hd
            have HM := Lib.hid hmm
            have HLT := Lib.hid hlt
            have HS3 := Lib.hid hs3
            have HLU := Lib.hid hlu
            have HAD := Lib.hid had
            have HRM := Lib.hid (show mm - d = n - min (sumN L (u + 1)) n by omega)
            clear hfb hst hlt cR sR hle hmm hlu hd hs3 h4 s4 had
            by_cases hmd : mm = d
            · subst hmd
              go_wp2
              have hlt := HLT.out
              have hrm := HRM.out
              have hsu := HS3.out
              have hm := HM.out
              have hdd := HD.out
              have fin : ∃ (u' : Nat) (ad' : Addr), u' ≤ t ∧ Value.int .i64 ((u : Int) + 1) = .int .i64 (u' : Int) ∧ Value.slice (some ad) (mm - mm) 0 = .slice (some ad') (n - min (sumN L u') n) (n - min (sumN L u') n) ∧ (sumN L u' < n → ad' = ⟨hb, sumN L u', none⟩) ∧
                  FB w4 hb n (fun i => if i < sumN L u' then (catF L D t).getD i 0 else 0) ∧ Stay (fun i => w'.heap.size ≤ i) w' w4 :=
                ⟨u + 1, ad, by omega, by go_num, by rw [← hrm, Nat.sub_self], fun h => by omega, H4.out, S4.out⟩
              rw [Nat.sub_self] at fin
              exact ⟨fin, by simp [intOf]; omega⟩
            · have HMD := Lib.hid hmd
              go_wp2
              have hlt := HLT.out
              have hrm := HRM.out
              have hsu := HS3.out
              have hm := HM.out
              have hdd := HD.out
              have hmd := HMD.out
              have hlu := HLU.out
              exact ⟨⟨u + 1, ad.add d, by omega, by go_num, by rw [← hrm], fun h => by rw [HAD.out (by omega), add_at, show sumN L u + d = sumN L (u + 1) by omega], H4.out, S4.out⟩, by simp [intOf]; omega⟩
          · obtain rfl : u = t := by omega
            have HB := Lib.hid hfb
            have ST := Lib.hid hst
            clear hfb hst had
            go_wp2
            go_ret2
            refine ⟨stay_seal ST.out (fun _ h => h), .inr ⟨by rw [← HSS.out]; exact HSN.out, _, rfl, ?_⟩⟩
            have h9 := (HB.out.congr (f' := fun i => (catF L D u).getD i 0) (fun i hi => if_pos (by have := HSN.out; rw [HSS.out] at this; omega))).ss (X := fun i => i < w'.heap.size) (by have := HNB.out; omega) (fun e => by have := HGS.out; omega)
            exact h9
end
end Go.Proofs.YtaldpfamgfchoaaDoor.Rs
