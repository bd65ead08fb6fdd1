/-
  index: a job's end.
-/
import Derived.Test.YtljlfdhjolcnaaaGreatIxUz
namespace Go.Proofs.YtljlfdhjolcnaaaGreat.Ix
open Go.RowKit Go.Maps Me Mg
set_option maxRecDepth 100000
set_option linter.unusedVariables false
set_option linter.unnecessarySimpa false

theorem size_jb : (Tryz.prog.info? 92).map (·.size) = some 6 := by kernel_rfl
/-- A box of a job's six cells. -/
def JB (w : World) (j : Nat) (a b c d e f : Value) : Prop := w.heap[j]? = some (.cells #[a, b, c, d, e, f] 92 (0, 0))
section
variable {w w' : World} {j : Nat} {a b c d e f a' b' c' d' e' f' : Value} {X : Nat → Prop}
theorem JB.lt (h : JB w j a b c d e f) : j < w.heap.size := (Array.getElem?_eq_some_iff.1 h).1
theorem JB.stay (h : JB w j a b c d e f) (hs : Stay X w w') (hx : ¬ X j) : JB w' j a b c d e f := (hs.block j h.lt hx).trans h
theorem JB.stay0 (h : JB w j a b c d e f) (hs : Stay (fun _ => False) w w') : JB w' j a b c d e f := h.stay hs (fun x => x)
theorem JB.cl (h : JB w j a b c d e f) {i : Nat} {u : Value} (hu : [a, b, c, d, e, f][i]? = some u) : w.cell? ⟨j, i, none⟩ = some u := by
  rw [cell_of_row w j i _ _ _ h]
  simpa using hu
theorem JB.fr (h : JB w j a b c d e f) (i : Nat) : w.frozen? ⟨j, i, none⟩ = false := frozen_of_row w j i _ _ h
theorem JB.load (h : JB w j a b c d e f) : (loadVar 92 ⟨j, 0, none⟩).run Tryz.prog w = .ok (.agg #[a, b, c, d, e, f]) w :=
  run_loadVar_at w ⟨j, 0, none⟩ 92 [a, b, c, d, e, f] _ Tryz.underlying92 rfl size_jb (fun i v hv => by
    rw [add_at, Nat.zero_add]
    exact h.cl hv)
theorem JB.store (h : JB w j a b c d e f) {ops : Array Oper} {rest : List Oper} {o : Oper} {ac : Act} {Q : Exit → Act → World → Prop} (hgd : o.guard = none) (x y : Operand) (ho : o.op = .store 92 x y)
    (hx : ac.eval x = .pointer (some ⟨j, 0, none⟩)) (a' b' c' d' e' f' : Value) (hy : ac.eval y = .agg #[a', b', c', d', e', f']) (h1 : ∀ u ∈ [a', b', c', d', e', f'], u.oneCell' = true)
    (hn : ∀ w', JB w' j a' b' c' d' e' f' → Stay (fun k => k = j) w w' → wpList Tryz.prog ops Q rest (ac.put o.dst undef) w') : wpList Tryz.prog ops Q (o :: rest) ac w :=
  wpList_store_mid hgd 92 x y ho j 0 hx 92 [a, b, c, d, e, f] [a', b', c', d', e', f'] hy h size_jb (Nat.le_refl _) h1 (fun w' h1 h2 => hn w' h1 h2)
end
/-- What a job's end leaves of its index. -/
structure EndR (A AJ : Nat → Prop) (w w' : World) (x j : Nat) (I : Im) (J : Jb) (M : List Sh) (k : Nat) (I2 : Im) : Prop where
  jb : JB w' j (.pointer none) (.int .i64 0) (.slice none 0 0) (.pointer none) (.bool false) (.slice none 0 0)
  st : Stay (fun k => A k ∨ AJ k) w w'
  tr : Trim (repL I.LS J.Q M J.lv) k
  ix : IxAt (fun k => A k ∨ w.heap.size ≤ k) w' x (I2.repl J.Q M J.lv k)
  md : (J.K = [] ∧ M = [] ∧ I2 = { I with mg := false }) ∨ (J.K ≠ [] ∧ ∃ s, w.heap.size ≤ s ∧ M = [⟨s, partsL J.K I.p, Tb.tabB J.K I.p I.q⟩] ∧ I2 = ({ I with mg := false } : Im).add ⟨s, partsL J.K I.p, Tb.tabB J.K I.p I.q⟩)
/-- What a job can be ended of. -/
structure EndOk (I : Im) (J : Jb) : Prop where
  lv : J.lv < I.LS.length
  n : I.LS.length ≤ 900
  qt : ∀ q ∈ J.Q, q ∈ I.T
  ql : J.Q.length ≤ 900
  l9 : ∀ l ∈ I.LS, l.length ≤ 900
  qn : (J.Q.map (·.s)).Nodup
  hc : ∀ q ∈ J.Q, 1 ≤ I.hc q.s ∧ I.hc q.s ≤ 900000
  hd : I.hd ≤ 800000
  qd : J.Q.length ≤ I.hd
  kg : J.K ≠ [] → Tb.Good J.K I.p I.q ∧ (Tb.tabB J.K I.p I.q).length ≤ 1048576
-- END
set_option maxHeartbeats 2000000 in
theorem end_job {A AJ : Nat → Prop} (w : World) (x j : Nat) (I : Im) (J : Jb) (h : IxAt A w x I) (hj : JAt AJ w j J) (hx : J.x = x) (hd : ∀ k, k < w.heap.size → A k → ¬ AJ k) (ho : EndOk I J) :
    Calls Tryz.prog 41 #[.pointer (some ⟨j, 0, none⟩)] w fun y w' => y = .returned .nilIface ∧ ∃ M k I2, EndR A AJ w w' x j I J M k I2 := by
  obtain ⟨iv, tv, r, AR, k1, k2, k3, k4, k5, k6, k7, k8, k9⟩ := hj.ex
  obtain ⟨B, F, a, v, vs, hB, hF, hl, h1, h2⟩ := h.ex
  obtain ⟨m, hm⟩ : ∃ m, m = (ptrs (J.Q.map (·.s))).length := ⟨_, rfl⟩
  obtain ⟨kn, hkn⟩ : ∃ kn, kn = J.K.length := ⟨_, rfl⟩
  obtain ⟨ia, ic, hiv⟩ : ∃ a c, iv = .slice a m c := by obtain ⟨p, q, e⟩ := k2.form; exact ⟨p, q, by rw [e, hm]⟩
  obtain ⟨ta, tc, htv⟩ : ∃ a c, tv = .slice a kn c := by obtain ⟨p, q, e⟩ := k4.form; exact ⟨p, q, by rw [e, hkn]⟩
  subst hiv
  subst htv
  have hjb : JB w j (.pointer (some ⟨J.x, 0, none⟩)) (.int .i64 (J.lv : Int)) (.slice ia m ic) (.pointer (some ⟨r, 0, none⟩)) (.bool J.d) (.slice ta kn tc) := k1
  rw [hx] at hjb
  have hs1 : Stay (fun _ => False) w (w.alloc (.cells #[.pointer (some ⟨x, 0, none⟩), .int .i64 (J.lv : Int), .slice ia m ic, .pointer (some ⟨r, 0, none⟩), .bool J.d, .slice ta kn tc] 92)) := Stay.alloc _ _
  have hb1 : JB (w.alloc (.cells #[.pointer (some ⟨x, 0, none⟩), .int .i64 (J.lv : Int), .slice ia m ic, .pointer (some ⟨r, 0, none⟩), .bool J.d, .slice ta kn tc] 92)) w.heap.size (.pointer (some ⟨x, 0, none⟩)) (.int .i64 (J.lv : Int)) (.slice ia m ic) (.pointer (some ⟨r, 0, none⟩)) (.bool J.d) (.slice ta kn tc) := heap_alloc_new w _
  obtain ⟨w1, hw1⟩ : ∃ w1, w.alloc (.cells #[.pointer (some ⟨x, 0, none⟩), .int .i64 (J.lv : Int), .slice ia m ic, .pointer (some ⟨r, 0, none⟩), .bool J.d, .slice ta kn tc] 92) = w1 := ⟨_, rfl⟩
  rw [hw1] at hs1 hb1
  obtain ⟨dn, hdn⟩ : ∃ dn, dn = w.heap.size := ⟨_, rfl⟩
  rw [← hdn] at hb1
  have W1 := Lib.hid hw1
  have HDN := Lib.hid hdn
  have HS1 := Lib.hid hs1
  have HDB := Lib.hid hb1
  have HJB := Lib.hid hjb
  have HJB1 := Lib.hid (hjb.stay0 hs1)
  have HI1 := Lib.hid (h1.stay0 hs1)
  have HM1 := Lib.hid (h2.stay0 hs1)
  have HIV1 := Lib.hid (k2.stay0 hs1)
  have HTV1 := Lib.hid (k4.stay0 hs1)
  have HIVA := Lib.hid (show ∀ k, (Value.slice ia m ic).ownBlock = some k → AJ k ∧ k < w.heap.size from fun k hk => ⟨k7 k hk, (k2.lt k hk).2⟩)
  have HTVA := Lib.hid (show ∀ k, (Value.slice ta kn tc).ownBlock = some k → AJ k ∧ k < w.heap.size from fun k hk => ⟨k8 k hk, (k4.lt k hk).2⟩)
  have HAJ := Lib.hid k6
  have HMM := Lib.hid hm
  have HKN := Lib.hid hkn
  have HCF := Lib.hid h.cfg
  have HNR := Lib.hid h.nrm
  have HBA := Lib.hid hB
  have HFA := Lib.hid hF
  have HLT := Lib.hid hl
  have HD := Lib.hid hd
  have HO := Lib.hid ho
  have HBJ := Lib.hid (show ∀ k, k = j → ¬ B k ∧ ¬ F k from fun k hk => by
    subst hk
    exact ⟨fun hb => hd _ (hl _ (.inl hb)) (hB _ hb) k6, fun hf => hd _ (hl _ (.inr hf)) (hF _ hf) k6⟩)
  clear h hj hx hd ho k1 k2 k3 k4 k5 k6 k7 k8 k9 hB hF hl h1 h2 hjb hs1 hb1 hw1 hdn hm hkn
  by_cases hk0 : kn = 0
  · have HK0 := Lib.hid hk0
    have hk1 : (0 < kn) = False := by simp; omega
    clear hk0
    go_enter Tryz.func41, Tryz.ntmps41
    go_wp2_with (first
      | (refine wpList_load_run (by rfl) 92 (.tmp 8) rfl ⟨j, 0, none⟩ rfl _ HJB.out.load ?_)
      | (rw [W1.out, ← HDN.out]
         refine JB.store HJB1.out rfl (.tmp 12) (.tmp 11) rfl rfl (.pointer none) (.int .i64 0) (.slice none 0 0) (.pointer none) (.bool false) (.slice none 0 0) rfl (by decide) ?_
         intro w2 hb2 hs2
         have HJB2 := Lib.hid hb2
         have HI2 := Lib.hid (HI1.out.away hs2 HBJ.out)
         have HM2 := Lib.hid (HM1.out.stay hs2 (fun k hb hk => (HBJ.out k hk).1 hb))
         have HS2 := Lib.hid ((HS1.out.mono (Y := fun k => k = j) (fun _ x => x.elim)).trans hs2)
         have HTJ := Lib.hid (show Ty w1 j 92 from ⟨_, _, HJB1.out⟩)
         have HIV2 := Lib.hid (HIV1.out.stay hs2 (fun k hk e => absurd (((HIV1.out.ty k hk)).uniq (e ▸ HTJ.out)) (by decide)))
         have HTV2 := Lib.hid (HTV1.out.stay hs2 (fun k hk e => absurd ((show Ty w1 k 42 from (Mg.EnO.ent HTV1.out).2 k hk).uniq (e ▸ HTJ.out)) (by decide)))
         have HDB2 := Lib.hid (HDB.out.stay hs2 (fun e => by have := HJB.out.lt; have := HDN.out; omega))
         have c0 := HDB2.out.cl (i := 0) rfl
         have c1 := HDB2.out.cl (i := 1) rfl
         have c2 := HDB2.out.cl (i := 2) rfl
         have c5 := HDB2.out.cl (i := 5) rfl
         have x7 : w2.cell? ⟨x, 7, none⟩ = some (.bool I.mg) := HI2.out.c rfl
         have f7 : w2.frozen? ⟨x, 7, none⟩ = false := HI2.out.fr 7
         have hxd : dn ≠ x := (by have := HDN.out; have := HLT.out x (.inl HI1.out.bx); omega)
         clear hb2 hs2))
    have hs3 : Stay (fun k => k = x) w2 (w2.setCell ⟨x, 7, none⟩ (.bool false)) := Stay.setCell _ _ _ rfl
    have hi3 := HI2.out.setM false
    have hm3 := MAt.keep HM2.out hs3 (fun k hk => by
      subst hk
      have ht := HI2.out.ty
      exact ⟨fun h2 => absurd (ht.uniq h2) (by decide), fun h2 => absurd (ht.uniq h2) (by decide)⟩)
    have hIV3 := HIV2.out.stay hs3 (fun k hk e => absurd ((HIV2.out.ty k hk).uniq (e ▸ HI2.out.ty)) (by decide))
    have hTV3 := HTV2.out.stay hs3 (fun k hk e => absurd ((show Ty w2 k 42 from (Mg.EnO.ent HTV2.out).2 k hk).uniq (e ▸ HI2.out.ty)) (by decide))
    have hJB3 := HJB2.out.stay hs3 (fun e => absurd ((show Ty w2 j 92 from ⟨_, _, HJB2.out⟩).uniq (e ▸ HI2.out.ty)) (by decide))
    have hDB3 := HDB2.out.stay hs3 hxd
    have HZ2 := Lib.hid (show w.heap.size ≤ (w2.setCell ⟨x, 7, none⟩ (.bool false)).heap.size from Nat.le_trans HS2.out.size hs3.size)
    have HS3 := Lib.hid (show Stay (fun k => A k ∨ AJ k) w (w2.setCell ⟨x, 7, none⟩ (.bool false)) from (HS2.out.mono (fun k hk => .inr (hk ▸ HAJ.out))).trans (hs3.mono (fun k hk => .inl (hk ▸ HBA.out _ HI2.out.bx))))
    obtain ⟨w3, hw3⟩ : ∃ w3, w3 = w2.setCell ⟨x, 7, none⟩ (.bool false) := ⟨_, rfl⟩
    rw [← hw3] at hi3 hm3 hIV3 hTV3 hJB3 hDB3 HZ2 HS3 ⊢
    have HI3 := Lib.hid hi3
    have HM3 := Lib.hid hm3
    have HIV3 := Lib.hid hIV3
    have HTV3 := Lib.hid hTV3
    have HJB3 := Lib.hid hJB3
    have HDB3 := Lib.hid hDB3
    have HCF0 := Lib.hid (show Cfg { I with mg := false } from ⟨HCF.out.m1, HCF.out.m2, HCF.out.f1, HCF.out.f2, HCF.out.p1, HCF.out.p2, HCF.out.q1, HCF.out.q2⟩)
    have HJA := Lib.hid (show ∀ k, (Value.slice ia m ic).ownBlock = some k → ¬ (B k ∨ F k) from fun k hk hb => HD.out k (HIVA.out k hk).2 (hb.elim (HBA.out k) (HFA.out k)) (HIVA.out k hk).1)
    clear hs3 hi3 hm3 hIV3 hTV3 hJB3 hDB3 hw3 c0 c1 c2 c5 x7 f7 hxd HI2 HM2 HIV2 HTV2 HJB2 HDB2 HTJ HJB1 HI1 HM1 HIV1 HTV1 HDB HS1 HS2
    obtain ⟨I2, hI2⟩ : ∃ I2 : Im, I2 = { I with mg := false } := ⟨_, rfl⟩
    rw [← hI2] at HI3 HCF0
    have HI2E := Lib.hid hI2
    have hrp := replace_ix (A := fun k => B k ∨ F k) w3 x J.lv I2 (.slice ia m ic) (.slice none 0 0) J.Q [] ⟨⟨B, F, a, v, vs, fun k h => .inl h, fun k h => .inr h, fun k hk => Nat.lt_of_lt_of_le (HLT.out k hk) HZ2.out, HI3.out, by rw [hI2]; exact HM3.out⟩, by rw [hI2]; exact HNR.out, HCF0.out⟩
      (by rw [hI2]; exact HO.out.lv) (by rw [hI2]; exact HO.out.n) HIV3.out (CO.nil _ _ _) HJA.out (fun k hk => by cases hk) (by rw [hI2]; exact HO.out.qt) (fun q hq => by cases hq) HO.out.ql (by rw [hI2]; exact HO.out.l9) HO.out.qn (by rw [hI2]; exact HO.out.hc) (by rw [hI2]; exact Nat.le_trans HO.out.hd (by decide)) (by rw [hI2]; exact HO.out.qd)
    have HRP := Lib.hid hrp
    clear hrp hI2
    refine HRP.out.mono ?_
    rintro e w6 ⟨rfl, hs6, k6, htr, hix⟩
    have HFIN := Lib.hid (show EndR A AJ w w6 x j I J [] k6 I2 from ⟨HJB3.out.stay hs6 (fun h => h.elim (HBJ.out j rfl).1 (HBJ.out j rfl).2), HS3.out.trans (hs6.mono (fun k hk => .inl (hk.elim (HBA.out k) (HFA.out k)))), by rw [HI2E.out] at htr; exact htr, hix.mono (fun k _ hk => by
      rcases hk with (hk | hk) | hk
      · exact .inl (hk.elim (HBA.out k) (HFA.out k))
      · cases hk
      · exact .inr (Nat.le_trans HZ2.out hk)), .inl ⟨List.eq_nil_of_length_eq_zero (by rw [← HKN.out]; exact HK0.out), rfl, HI2E.out⟩⟩)
    clear hs6 htr hix HRP
    go_wp2
    go_ret
    exact ⟨rfl, _, _, _, HFIN.out⟩
  · have HK0 := Lib.hid hk0
    have hk1 : (0 < kn) = True := by simp; omega
    clear hk0
    go_enter Tryz.func41, Tryz.ntmps41
    go_wp2_with (first
      | (refine wpList_load_run (by rfl) 92 (.tmp 8) rfl ⟨j, 0, none⟩ rfl _ HJB.out.load ?_)
      | (rw [W1.out, ← HDN.out]
         refine JB.store HJB1.out rfl (.tmp 12) (.tmp 11) rfl rfl (.pointer none) (.int .i64 0) (.slice none 0 0) (.pointer none) (.bool false) (.slice none 0 0) rfl (by decide) ?_
         intro w2 hb2 hs2
         have HJB2 := Lib.hid hb2
         have HI2 := Lib.hid (HI1.out.away hs2 HBJ.out)
         have HM2 := Lib.hid (HM1.out.stay hs2 (fun k hb hk => (HBJ.out k hk).1 hb))
         have HS2 := Lib.hid ((HS1.out.mono (Y := fun k => k = j) (fun _ x => x.elim)).trans hs2)
         have HTJ := Lib.hid (show Ty w1 j 92 from ⟨_, _, HJB1.out⟩)
         have HIV2 := Lib.hid (HIV1.out.stay hs2 (fun k hk e => absurd (((HIV1.out.ty k hk)).uniq (e ▸ HTJ.out)) (by decide)))
         have HTV2 := Lib.hid (HTV1.out.stay hs2 (fun k hk e => absurd ((show Ty w1 k 42 from (Mg.EnO.ent HTV1.out).2 k hk).uniq (e ▸ HTJ.out)) (by decide)))
         have HDB2 := Lib.hid (HDB.out.stay hs2 (fun e => by have := HJB.out.lt; have := HDN.out; omega))
         have c0 := HDB2.out.cl (i := 0) rfl
         have c1 := HDB2.out.cl (i := 1) rfl
         have c2 := HDB2.out.cl (i := 2) rfl
         have c5 := HDB2.out.cl (i := 5) rfl
         have x7 : w2.cell? ⟨x, 7, none⟩ = some (.bool I.mg) := HI2.out.c rfl
         have f7 : w2.frozen? ⟨x, 7, none⟩ = false := HI2.out.fr 7
         have hxd : dn ≠ x := (by have := HDN.out; have := HLT.out x (.inl HI1.out.bx); omega)
         clear hb2 hs2))
    have hs3 : Stay (fun k => k = x) w2 (w2.setCell ⟨x, 7, none⟩ (.bool false)) := Stay.setCell _ _ _ rfl
    have hi3 := HI2.out.setM false
    have hm3 := MAt.keep HM2.out hs3 (fun k hk => by
      subst hk
      have ht := HI2.out.ty
      exact ⟨fun h2 => absurd (ht.uniq h2) (by decide), fun h2 => absurd (ht.uniq h2) (by decide)⟩)
    have hIV3 := HIV2.out.stay hs3 (fun k hk e => absurd ((HIV2.out.ty k hk).uniq (e ▸ HI2.out.ty)) (by decide))
    have hTV3 := HTV2.out.stay hs3 (fun k hk e => absurd ((show Ty w2 k 42 from (Mg.EnO.ent HTV2.out).2 k hk).uniq (e ▸ HI2.out.ty)) (by decide))
    have hJB3 := HJB2.out.stay hs3 (fun e => absurd ((show Ty w2 j 92 from ⟨_, _, HJB2.out⟩).uniq (e ▸ HI2.out.ty)) (by decide))
    have hDB3 := HDB2.out.stay hs3 hxd
    have HZ2 := Lib.hid (show w.heap.size ≤ (w2.setCell ⟨x, 7, none⟩ (.bool false)).heap.size from Nat.le_trans HS2.out.size hs3.size)
    have HS3 := Lib.hid (show Stay (fun k => A k ∨ AJ k) w (w2.setCell ⟨x, 7, none⟩ (.bool false)) from (HS2.out.mono (fun k hk => .inr (hk ▸ HAJ.out))).trans (hs3.mono (fun k hk => .inl (hk ▸ HBA.out _ HI2.out.bx))))
    obtain ⟨w3, hw3⟩ : ∃ w3, w3 = w2.setCell ⟨x, 7, none⟩ (.bool false) := ⟨_, rfl⟩
    rw [← hw3] at hi3 hm3 hIV3 hTV3 hJB3 hDB3 HZ2 HS3 ⊢
    have HI3 := Lib.hid hi3
    have HM3 := Lib.hid hm3
    have HIV3 := Lib.hid hIV3
    have HTV3 := Lib.hid hTV3
    have HJB3 := Lib.hid hJB3
    have HDB3 := Lib.hid hDB3
    have HCF0 := Lib.hid (show Cfg { I with mg := false } from ⟨HCF.out.m1, HCF.out.m2, HCF.out.f1, HCF.out.f2, HCF.out.p1, HCF.out.p2, HCF.out.q1, HCF.out.q2⟩)
    have HJA := Lib.hid (show ∀ k, (Value.slice ia m ic).ownBlock = some k → ¬ (B k ∨ F k) from fun k hk hb => HD.out k (HIVA.out k hk).2 (hb.elim (HBA.out k) (HFA.out k)) (HIVA.out k hk).1)
    clear hs3 hi3 hm3 hIV3 hTV3 hJB3 hDB3 hw3 c0 c1 c2 c5 x7 f7 hxd HI2 HM2 HIV2 HTV2 HJB2 HDB2 HTJ HJB1 HI1 HM1 HIV1 HTV1 HDB HS1 HS2
    have hne : J.K ≠ [] := fun e => HK0.out (by rw [HKN.out, e]; rfl)
    obtain ⟨hgd, htb⟩ := HO.out.kg hne
    have HBU := Lib.hid (build_ix w3 x a { I with mg := false } v vs (.slice ta kn tc) J.K HI3.out HM3.out (fun k hk => Nat.lt_of_lt_of_le (HLT.out k hk) HZ2.out) HTV3.out.ens hgd HCF0.out htb (Nat.le_trans HO.out.hd (by decide)))
    have HNE := Lib.hid hne
    clear hne hgd htb
    refine HBU.out.mono ?_
    rintro e w4 ⟨s, rfl, had⟩
    obtain ⟨s9, hs9⟩ : ∃ s9 : Sh, s9 = ⟨s, partsL J.K I.p, Tb.tabB J.K I.p I.q⟩ := ⟨_, rfl⟩
    have hxw : x ≠ dn := fun e => by have := HDN.out; have := HLT.out x (.inl HI3.out.bx); omega
    have hDB4 := HDB3.out.stay had.st (fun e => hxw e.symm)
    have hIV4 := HIV3.out.stay had.st (fun k hk e => absurd ((HIV3.out.ty k hk).uniq (e ▸ HI3.out.ty)) (by decide))
    have hJB4 := HJB3.out.stay had.st (fun e => absurd ((show Ty w3 j 92 from ⟨_, _, HJB3.out⟩).uniq (e ▸ HI3.out.ty)) (by decide))
    have hs5 : Stay (fun _ => False) w4 (w4.alloc (.cells #[.pointer (some ⟨s, 0, none⟩)] 81)) := Stay.alloc _ _
    have hl5 := CO.lit (base := 0) (t := 81) w4 [.pointer (some ⟨s, 0, none⟩)] (Nat.zero_le _) (by simp)
    have HAD := Lib.hid had
    have HS9 := Lib.hid hs9
    have HDB4 := Lib.hid hDB4
    have HIV4 := Lib.hid hIV4
    have HJB4 := Lib.hid hJB4
    have HS5 := Lib.hid hs5
    have HL5 := Lib.hid hl5
    clear had HBU hs9 hxw hDB4 hIV4 hJB4 hs5 hl5 hk1
    go_wp2_with (at_builtin
                 refine wpList_append_co (base := w4.heap.size) rfl (.tmp 32) (.tmp 34) 85 rfl (.pointer none) 8 Tryz.underlying85 info_sh rfl (by decide) rfl rfl (CO.nil _ _ _) HL5.out.cs (fun u hu => by rw [List.mem_singleton.1 hu]; rfl) (by simp) HS5.out.size ?_
                 intro v6 w6 ho6 hs6 hb6
                 have HO6 := Lib.hid ho6
                 have HS6 := Lib.hid (show Stay (fun _ => False) w4 w6 from HS5.out.trans (hs6.mono (fun k hk => by cases hk)))
                 obtain ⟨v6a, v6c, rfl⟩ : ∃ p q, v6 = .slice p 1 q := (by obtain ⟨p, q, e⟩ := ho6.form; exact ⟨p, q, e⟩)
                 have d0 := (HDB4.out.stay0 HS6.out).cl (i := 0) rfl
                 have d1 := (HDB4.out.stay0 HS6.out).cl (i := 1) rfl
                 have d2 := (HDB4.out.stay0 HS6.out).cl (i := 2) rfl
                 clear ho6 hs6 hb6)
    obtain ⟨B4, F4, q1, q2, q3, q4, q5, q6⟩ := HAD.out.ex
    have q2' : ∀ k, B4 k ∨ F4 k → (B k ∨ F k) ∨ w3.heap.size ≤ k := fun k hk => by
      rcases hk with hk | hk
      · exact (q2 k hk).imp .inl id
      · rcases q3 k hk with h | h | h
        · exact .inl (.inr h)
        · exact h.elim
        · exact .inr h
    have q7 := q5
    have q8 := q6
    obtain ⟨I2, hI2⟩ : ∃ I2 : Im, I2 = ({ I with mg := false } : Im).add s9 := ⟨_, rfl⟩
    have hI2b : ({ I with mg := false } : Im).add ⟨s, partsL J.K ({ I with mg := false } : Im).p, Tb.tabB J.K ({ I with mg := false } : Im).p ({ I with mg := false } : Im).q⟩ = I2 := by rw [hI2, HS9.out]
    rw [hI2b] at q7
    have hlt6 : w4.heap.size ≤ w6.heap.size := HS6.out.size
    have hrp := replace_ix (A := fun k => B4 k ∨ F4 k) w6 x J.lv I2 (.slice ia m ic) (.slice v6a 1 v6c) J.Q [s9] ⟨⟨B4, F4, a, v, vs, fun k h => .inl h, fun k h => .inr h, fun k hk => Nat.lt_of_lt_of_le (q4 k hk) hlt6, q7.stay0 HS6.out, by rw [hI2]; exact q8.stay0 HS6.out⟩, by rw [hI2]; exact HNR.out, by rw [hI2]; exact ⟨HCF.out.m1, HCF.out.m2, HCF.out.f1, HCF.out.f2, HCF.out.p1, HCF.out.p2, HCF.out.q1, HCF.out.q2⟩⟩
      (by rw [hI2]; exact HO.out.lv) (by rw [hI2]; exact HO.out.n) (HIV4.out.stay0 HS6.out) (by
        have h1 := HO6.out.zero
        show CO 0 81 w6 _ (ptrs [s9.s])
        rw [HS9.out]
        exact h1) (fun k hk hb => by
        have h1 := HIVA.out k hk
        rcases q2' k hb with h | h
        · exact HJA.out k hk h
        · have := HZ2.out
          omega) (fun k hk hb => by
        have h1 := (HO6.out.lt k hk).1
        have h2 := q4 k hb
        omega) (fun q hq => by rw [hI2]; exact List.mem_append_left _ (HO.out.qt q hq)) (fun q hq => by rw [List.mem_singleton.1 hq, hI2]; exact List.mem_append_right _ (List.mem_singleton.2 rfl)) HO.out.ql (by rw [hI2]; exact HO.out.l9) HO.out.qn (fun q hq => by
        rw [hI2]
        show 1 ≤ (if q.s = s9.s then 1 else I.hc q.s) ∧ (if q.s = s9.s then 1 else I.hc q.s) ≤ 900000
        have h1 := HO.out.hc q hq
        split <;> omega) (by rw [hI2]; show I.hd + 1 ≤ 900000; have := HO.out.hd; omega) (by rw [hI2]; show J.Q.length ≤ I.hd + 1; have := HO.out.qd; omega)
    have HRP := Lib.hid hrp
    have HI2E := Lib.hid hI2
    have HQ2 := Lib.hid q2'
    have HQ4 := Lib.hid q4
    clear hrp hI2 hI2b q1 q2 q3 q4 q5 q6 q7 q8 q2' hlt6 d0 d1 d2
    refine HRP.out.mono ?_
    rintro e w7 ⟨rfl, hs7, k7, htr, hix⟩
    have HFIN := Lib.hid (show EndR A AJ w w7 x j I J [s9] k7 I2 from ⟨(HJB4.out.stay0 HS6.out).stay hs7 (fun h => by
        rcases HQ2.out j h with h | h
        · exact h.elim (HBJ.out j rfl).1 (HBJ.out j rfl).2
        · have := HZ2.out
          have := HJB.out.lt
          omega), (((HS3.out.trans (HAD.out.st.mono (fun k hk => .inl (hk ▸ HBA.out _ HI3.out.bx)))).trans (HS6.out.mono (fun _ x => x.elim))).andThen hs7 (fun k hkw hk => by
        rcases HQ2.out k hk with h | h
        · exact .inl (h.elim (HBA.out k) (HFA.out k))
        · have := HZ2.out
          omega)), by rw [HI2E.out] at htr; exact htr, hix.mono (fun k _ hk => by
        have h9 := HZ2.out
        have h8 := HAD.out.st.size
        rcases hk with (hk | hk) | hk
        · rcases HQ2.out k hk with h | h
          · exact .inl (h.elim (HBA.out k) (HFA.out k))
          · exact .inr (by omega)
        · have := (HO6.out.lt k hk).1
          exact .inr (by omega)
        · have := HS6.out.size
          exact .inr (by omega)), .inr ⟨HNE.out, s, Nat.le_trans HZ2.out HAD.out.lo, by rw [HS9.out], by rw [HI2E.out, HS9.out]⟩⟩)
    clear hs7 htr hix HRP
    go_wp2
    go_ret
    exact ⟨rfl, _, _, _, HFIN.out⟩
end Go.Proofs.YtljlfdhjolcnaaaGreat.Ix
