/-
  rs: Decode.
-/
import Derived.Test.YtaldpfamgfchoabRsL
namespace Go.Proofs.Ytaldpfamgfchoab.Rs
open Go.RowKit Gf
set_option maxRecDepth 100000

/-- Those that are there. -/
def sel (fl : Nat → Bool) (n : Nat) : List Nat := (List.range n).filter fl
theorem sel_succ (fl : Nat → Bool) (n : Nat) : sel fl (n + 1) = sel fl n ++ (if fl n then [n] else []) := by
  unfold sel
  rw [List.range_succ, List.filter_append]
  by_cases h : fl n = true <;> simp [h]
theorem sel_pre (fl : Nat → Bool) : ∀ {n t : Nat}, t ≤ n → ∃ r, sel fl n = sel fl t ++ r
  | 0, t, h => by
    have e : t = 0 := by omega
    subst e
    exact ⟨[], (List.append_nil _).symm⟩
  | n + 1, t, h => by
    by_cases e : t = n + 1
    · subst e; exact ⟨[], (List.append_nil _).symm⟩
    · obtain ⟨r, hr⟩ := sel_pre fl (n := n) (t := t) (by omega)
      exact ⟨r ++ (if fl n then [n] else []), by rw [sel_succ, hr, List.append_assoc]⟩
theorem sel_at {fl : Nat → Bool} {t N : Nat} (ht : t < N) (hf : fl t = true) : (sel fl N).getD (sel fl t).length 0 = t := by
  obtain ⟨r, hr⟩ := sel_pre fl (n := N) (t := t + 1) (by omega)
  rw [hr, sel_succ, if_pos hf, List.getD_eq_getElem?_getD, List.append_assoc, List.getElem?_append_right (Nat.le_refl _), Nat.sub_self]
  rfl
theorem sel_true {fl : Nat → Bool} {t : Nat} (hf : fl t = true) : (sel fl (t + 1)).length = (sel fl t).length + 1 := by rw [sel_succ, if_pos hf]; simp
theorem sel_false {fl : Nat → Bool} {t : Nat} (hf : fl t = false) : (sel fl (t + 1)).length = (sel fl t).length := by rw [sel_succ, hf]; simp
theorem sel_le (fl : Nat → Bool) (n : Nat) : (sel fl n).length ≤ n := by
  have := List.length_filter_le fl (List.range n)
  rwa [List.length_range] at this
theorem sel_lt {fl : Nat → Bool} {n i : Nat} (h : i < (sel fl n).length) : (sel fl n).getD i 0 < n ∧ fl ((sel fl n).getD i 0) = true := by
  have hm : (sel fl n).getD i 0 ∈ sel fl n := by rw [List.getD_eq_getElem?_getD, List.getElem?_eq_getElem h]; exact List.getElem_mem h
  obtain ⟨h1, h2⟩ := List.mem_filter.1 hm
  exact ⟨List.mem_range.1 h1, h2⟩
theorem sel_nodup (fl : Nat → Bool) (n : Nat) : (sel fl n).Nodup := List.nodup_range.filter _

/-- inverse, its results by name. -/
theorem inverse_two (w : World) (g n : Nat) (x : Value) (M : Nat → Nat → UInt8) (hf : Fld w g) (hx : SM (· = g) w x n (fun _ => n) M) (h1 : 1 ≤ n) (hn : n ≤ 1073741824) :
    Calls Try.prog 17 #[.pointer (some ⟨g, 0, none⟩), x] w fun e w' => ∃ v ev, e = .returned (.tuple #[v, ev]) ∧ Fld w' g ∧ Stay (· = g) w w' ∧
      ((runR n (augR n M) n = none ∧ v = .slice none 0 0 ∧ ev = .iface 42 (.int .i64 14)) ∨
       (∃ R, runR n (augR n M) n = some R ∧ ev = .nilIface ∧ SM (fun i => i < w.heap.size) w' v n (fun _ => n) (backR n R))) :=
  (inverse_any w g n x M hf hx h1 hn).mono fun _ _ ⟨h1, h2, h3⟩ => by
    rcases h3 with ⟨h3, rfl⟩ | ⟨R, v, h3, rfl, h4⟩
    · exact ⟨_, _, rfl, h1, h2, .inl ⟨h3, rfl, rfl⟩⟩
    · exact ⟨_, _, rfl, h1, h2, .inr ⟨R, h3, rfl, h4⟩⟩

theorem decode_nil (w : World) (x y : Value) : Calls Try.prog 8 #[.pointer none, x, y] w fun e w' => e = .returned (.tuple #[.slice none 0 0, .iface 42 (.int .i64 1)]) ∧ w' = w := by
  go_enter Try.func8, Try.ntmps8
  go_wp2_with fail
  refine (data_nil w).mono ?_
  rintro e w' ⟨rfl, rfl⟩
  go_wp2
  go_ret2
  exact ⟨rfl, rfl⟩
section
variable {w : World} {c g k m n nb : Nat} {x y : Value} {L : Nat → Nat} {D : Nat → Nat → UInt8} {fl : Nat → Bool}
theorem decode_count (hc : Cd w c g k m) (hx : SM (· = g) w x n L D) (hy : SB (· = g) w y nb fl) (hn : n ≠ k + m ∨ nb ≠ k + m) :
    Calls Try.prog 8 #[.pointer (some ⟨c, 0, none⟩), x, y] w fun e w' => e = .returned (.tuple #[.slice none 0 0, .iface 42 (.int .i64 1)]) ∧ w' = w := by
  obtain ⟨a0, c0, rfl, _⟩ := hx.form
  obtain ⟨a1, c1, rfl, _⟩ := hy.form
  have HC := Lib.hid hc
  have q0 : ((k : Int) == 0) = false := by have := hc.k1; simp; omega
  have HN := Lib.hid hn
  obtain ⟨N, hN⟩ : ∃ N, N = k + m := ⟨_, rfl⟩
  have HNN := Lib.hid hN
  clear hc hx hy hn hN
  by_cases h1 : n = N
  · have q1 : ((n : Int) != (N : Int)) = false := by rw [h1]; simp
    have q2 : ((nb : Int) != (N : Int)) = true := by have := HN.out; have := HNN.out; simp; omega
    clear h1
    go_enter Try.func8, Try.ntmps8
    go_wp2_with fail
    refine (data_any HC.out).mono ?_
    rintro e w' ⟨rfl, rfl⟩
    go_wp2_with fail
    refine (parts_any HC.out).mono ?_
    rintro e w' ⟨rfl, rfl⟩
    rw [← HNN.out]
    go_wp2_with fail
    refine (parts_any HC.out).mono ?_
    rintro e w' ⟨rfl, rfl⟩
    rw [← HNN.out]
    go_wp2
    go_ret2
    exact ⟨rfl, rfl⟩
  · have q1 : ((n : Int) != (N : Int)) = true := by simp; omega
    clear h1
    go_enter Try.func8, Try.ntmps8
    go_wp2_with fail
    refine (data_any HC.out).mono ?_
    rintro e w' ⟨rfl, rfl⟩
    go_wp2_with fail
    refine (parts_any HC.out).mono ?_
    rintro e w' ⟨rfl, rfl⟩
    rw [← HNN.out]
    go_wp2
    go_ret2
    exact ⟨rfl, rfl⟩

set_option maxHeartbeats 8000000 in
theorem decode_any (hc : Cd w c g k m) (hx : SM (· = g) w x (k + m) L D) (hy : SB (· = g) w y (k + m) fl) (hl : ∀ i, i < k + m → fl i = true → L i ≤ 281474976710656) :
    Calls Try.prog 8 #[.pointer (some ⟨c, 0, none⟩), x, y] w fun e w' => Cd w' c g k m ∧ Stay (· = g) w w' ∧
      ((evenB (sel fl (k + m)).length (fun i => L ((sel fl (k + m)).getD i 0)) = false ∧ e = .returned (.tuple #[.slice none 0 0, .iface 42 (.int .i64 2)])) ∨
       (evenB (sel fl (k + m)).length (fun i => L ((sel fl (k + m)).getD i 0)) = true ∧ (sel fl (k + m)).length < k ∧ e = .returned (.tuple #[.slice none 0 0, .iface 42 (.int .i64 20)])) ∨
       (evenB (sel fl (k + m)).length (fun i => L ((sel fl (k + m)).getD i 0)) = true ∧ k ≤ (sel fl (k + m)).length ∧
         ((runR k (augR k (fun i => rowF k ((sel fl (k + m)).getD i 0))) k = none ∧ e = .returned (.tuple #[.slice none 0 0, .iface 42 (.int .i64 14)])) ∨
          (∃ R v, runR k (augR k (fun i => rowF k ((sel fl (k + m)).getD i 0))) k = some R ∧ e = .returned (.tuple #[v, .nilIface]) ∧
            SM (fun i => i < w.heap.size) w' v (k + m) (fun _ => L ((sel fl (k + m)).getD 0 0)) (prodF k (rowF k) (prodF k (backR k R) (fun i => D ((sel fl (k + m)).getD i 0)))))))) := by
  obtain ⟨a0, c0, rfl, _⟩ := hx.form
  obtain ⟨a1, c1, rfl, _⟩ := hy.form
  have HC := Lib.hid hc
  have HX := Lib.hid hx
  have HY := Lib.hid hy
  have HL := Lib.hid hl
  have q0 : ((k : Int) == 0) = false := by have := hc.k1; simp; omega
  obtain ⟨N, hN⟩ : ∃ N, N = k + m := ⟨_, rfl⟩
  rw [← hN] at HX HY HL ⊢
  have q1 : (N : Int) ≤ 32 := by have := hc.km; omega
  have q2 : (k : Int) ≤ 32 := by have := hc.km; omega
  have q3 : ((N : Int) != (N : Int)) = false := by simp
  have HNN := Lib.hid hN
  obtain ⟨T, hT⟩ : ∃ T, T = sel fl N := ⟨_, rfl⟩
  rw [← hT]
  have HT := Lib.hid hT
  have HG := Lib.hid (show g < w.heap.size from hc.f.lt)
  clear hc hx hy hl hN hT
  go_enter Try.func8, Try.ntmps8
  go_wp2_with fail
  refine (data_any HC.out).mono ?_
  rintro e w' ⟨rfl, rfl⟩
  go_wp2_with fail
  refine (parts_any HC.out).mono ?_
  rintro e w' ⟨rfl, rfl⟩
  rw [← HNN.out]
  go_wp2_with fail
  refine (parts_any HC.out).mono ?_
  rintro e w' ⟨rfl, rfl⟩
  rw [← HNN.out]
  go_wp2
  go_loopw [8, 9, 34] (fun v8 v9 i wr => ∃ t : Nat, t ≤ N ∧ i = .int .i64 (t : Int) ∧ AL (fun i => i = g ∨ v9.ownBlock = some i) w'.heap.size wr v8 (sel fl t).length (fun _ => k) (fun i => rowF k (T.getD i 0)) ∧
    AL (fun i => i = g ∨ v8.ownBlock = some i) w'.heap.size wr v9 (sel fl t).length (fun i => L (T.getD i 0)) (fun i => D (T.getD i 0)) ∧ Cd wr c g k m ∧ Stay (· = g) w' wr) (fun _ _ i _ => N - (intOf i).toNat)
  case atStart => exact ⟨0, by omega, rfl, AL.nil _ _ _ _ _, AL.nil _ _ _ _ _, HC.out, Stay.refl _ _⟩
  case round =>
    obtain ⟨t, ht, rfl, hr, hlf, hcd, hst⟩ := hrel
    by_cases hlt : t < N
    · have q4 : (t : Int) < (N : Int) := by omega
      obtain ⟨bx, ox, ak, ck, rfl, cR, sR, _⟩ := HX.out.row hlt
      obtain ⟨by_, oy, rfl, cF⟩ := HY.out.at hlt
      have k1 := (cR.stay hst).now
      have k2 := (cF.stay hst).now
      have HR := Lib.hid hr
      have HLF := Lib.hid hlf
      have HCD := Lib.hid hcd
      have HST := Lib.hid hst
      have HLT := Lib.hid hlt
      have SR := Lib.hid sR
      clear hr hlf hcd hst hlt cR sR cF
      cases hfl : fl t with
      | false =>
        rw [hfl] at k2
        have HF := Lib.hid hfl
        clear hfl
        go_wp2
        have hlt := HLT.out
        go_round
        case rel => exact ⟨t + 1, by omega, by go_num, by rw [sel_false HF.out]; exact HR.out, by rw [sel_false HF.out]; exact HLF.out, HCD.out, HST.out⟩
        case measure => simp [intOf]; omega
      | true =>
        rw [hfl] at k2
        have HF := Lib.hid hfl
        have HSA := Lib.hid (show T.getD (sel fl t).length 0 = t by rw [HT.out]; exact sel_at HLT.out hfl)
        clear hfl
        go_wp2_with fail
        refine (row_any wr c g k m t HCD.out (by have := HLT.out; have := HNN.out; omega)).mono ?_
        rintro e w2 ⟨rfl, b2, c2, s2⟩
        have B2 := Lib.hid b2
        have C2 := Lib.hid c2
        have S2 := Lib.hid (HST.out.trans s2)
        have R2 := Lib.hid (HR.out.stay (s2.mono (fun _ e => .inl e)))
        have LF2 := Lib.hid (HLF.out.stay (s2.mono (fun _ e => .inl e)))
        have HW := Lib.hid (show w'.heap.size ≤ wr.heap.size from HST.out.size)
        have HW2 := Lib.hid (show wr.heap.size < w2.heap.size from b2.lt)
        have HO8 := Lib.hid HR.out.lt
        have HO9 := Lib.hid HLF.out.lt
        have HCN := Lib.hid (show (sel fl t).length ≤ 65535 by have := sel_le fl t; have := HLT.out; omega)
        clear b2 c2 s2 k1 k2
        go_wp2_with (first
          | (at_builtin
             refine append_l (w := w2) rfl (.tmp 43) (.tmp 47) rfl (x1 := .slice (some ⟨wr.heap.size, 0, none⟩) k k) rfl rfl R2.out ⟨_, _, _, rfl⟩ (show SSlc _ w2 _ (lf k (rowF k (T.getD (sel fl t).length 0))) from by
               rw [HSA.out]
               exact B2.out.ss (by omega) (fun e => by
                 rcases e with (e | e) | e
                 · have := HG.out; have := HW.out; omega
                 · have := (HO9.out _ e).2; omega
                 · have := (HO8.out _ e).2; omega)) (fun i e => by
               rcases e with e | e
               · have := HG.out; have := HW.out; have := HW2.out; omega
               · have := (HO9.out _ e).2; have := HW2.out; omega) (by have := HW.out; have := HW2.out; omega) HCN.out ?_
             intro v8' w3 r3 s3 o3
             have R3 := Lib.hid r3
             have S3 := Lib.hid (S2.out.andThen s3 (fun i hi e => by have := (HO8.out _ e).1; omega))
             have C3 := Lib.hid (C2.out.stayb s3 (fun e => by have := (HO8.out _ e).1; have := HC.out.lt; omega) (fun e => by have := (HO8.out _ e).1; have := HG.out; omega))
             have LF3 := Lib.hid (LF2.out.push (Y := fun i => i = g ∨ v8'.ownBlock = some i) (s3.mono (fun _ e => .inr e)) (fun i hi e => by
               rcases e with e | e
               · exact .inl e
               · rcases o3 with o | o
                 · exact .inr (o ▸ e)
                 · rw [o] at e
                   have : i = w2.heap.size + 1 := by simpa using e.symm
                   omega))
             have HW3 := Lib.hid s3.size
             clear r3 s3 o3)
          | (at_builtin
             refine append_l (w := w3) rfl (.tmp 49) (.tmp 51) rfl (x1 := .slice ak (L t) ck) rfl rfl LF3.out ⟨_, _, _, rfl⟩ (show SSlc _ w3 _ (lf (L (T.getD (sel fl t).length 0)) (D (T.getD (sel fl t).length 0))) from by
               rw [HSA.out]
               exact SR.out.push S3.out (fun i hi e => by
                 rcases e with (e | e) | e
                 · exact e
                 · have := (R3.out.lt _ e).1; omega
                 · have := (HO9.out _ e).1; omega)) (fun i e => by
               rcases e with e | e
               · have := HG.out; have := HW.out; have := HW2.out; have := HW3.out; omega
               · have := (R3.out.lt _ e).2; omega) (by have := HW.out; have := HW2.out; have := HW3.out; omega) HCN.out ?_
             intro v9' w4 l4 s4 o4
             have L4 := Lib.hid l4
             have S4 := Lib.hid (S3.out.andThen s4 (fun i hi e => by have := (HO9.out _ e).1; omega))
             have C4 := Lib.hid (C3.out.stayb s4 (fun e => by have := (HO9.out _ e).1; have := HC.out.lt; omega) (fun e => by have := (HO9.out _ e).1; have := HG.out; omega))
             have R4 := Lib.hid (R3.out.push (Y := fun i => i = g ∨ v9'.ownBlock = some i) (s4.mono (fun _ e => .inr e)) (fun i hi e => by
               rcases e with e | e
               · exact .inl e
               · rcases o4 with o | o
                 · exact .inr (o ▸ e)
                 · rw [o] at e
                   have : i = w3.heap.size + 1 := by simpa using e.symm
                   omega))
             clear l4 s4 o4))
        have hlt := HLT.out
        first
          | exact ⟨⟨t + 1, by omega, by go_num, by rw [sel_true HF.out]; exact R4.out, by rw [sel_true HF.out]; exact L4.out, C4.out, S4.out⟩, by simp [intOf]; omega⟩
          | (go_round
             case rel => exact ⟨t + 1, by omega, by go_num, by rw [sel_true HF.out]; exact R4.out, by rw [sel_true HF.out]; exact L4.out, C4.out, S4.out⟩
             case measure => simp [intOf]; omega)
    · obtain rfl : t = N := by omega
      rw [← HT.out] at hr hlf
      obtain ⟨a8, c8, rfl, _⟩ := hr.form
      obtain ⟨a9, c9, rfl, _⟩ := hlf.form
      have HR := Lib.hid hr.read
      have HLF := Lib.hid hlf.read
      have HCD := Lib.hid hcd
      have HST := Lib.hid hst
      have HTL := Lib.hid (show T.length ≤ 32 by have := sel_le fl t; rw [HT.out]; omega)
      clear hr hlf hcd hst
      go_wp2_with fail
      refine (even_any wr _ T.length (fun i => L (T.getD i 0)) (fun i => D (T.getD i 0)) (HLF.out.mono (fun _ x => x.elim))).mono ?_
      rintro e w2 ⟨rfl, s2⟩
      have S2 := Lib.hid (HST.out.trans (s2.mono (fun _ x => x.elim)))
      have C2 := Lib.hid (HCD.out.stay0 s2)
      have R2 := Lib.hid (HR.out.stay (s2.mono (fun _ x => x.elim)) |>.mono (Y := (· = g)) (fun _ e => .inl e))
      have L2 := Lib.hid (HLF.out.stay (s2.mono (fun _ x => x.elim)) |>.mono (Y := (· = g)) (fun _ e => .inl e))
      clear s2 HR HLF HCD HST
      have tl : (T.length : Int) ≤ 32 := by have := HTL.out; omega
      cases hev : evenB T.length (fun i => L (T.getD i 0)) with
      | false =>
        have HE := Lib.hid hev
        clear hev
        go_wp2
        go_ret2
        exact ⟨C2.out, S2.out, .inl ⟨HE.out, rfl⟩⟩
      | true =>
        have HE := Lib.hid hev
        clear hev
        have kc := C2.out.c0
        have kc2 := C2.out.c2
        by_cases hlk : T.length < k
        · have q4 : (T.length : Int) < (k : Int) := by omega
          have HK := Lib.hid hlk
          clear hlk
          go_wp2
          go_ret2
          exact ⟨C2.out, S2.out, .inr (.inl ⟨HE.out, HK.out, rfl⟩)⟩
        · have q4 : ¬ (T.length : Int) < (k : Int) := by omega
          have q5 : (k : Int) ≤ (c8 : Int) := by obtain ⟨_, _, e, h, _⟩ := R2.out; cases e; omega
          have q6 : (k : Int) ≤ (c9 : Int) := by obtain ⟨_, _, e, h, _⟩ := L2.out; cases e; omega
          have HK := Lib.hid (show k ≤ T.length by omega)
          clear hlk
          go_wp2
          go_region_held3 (fun W => W.cell? ⟨c, 2, none⟩ = some (.pointer (some ⟨g, 0, none⟩)) ∧ W.cell? ⟨c, 0, none⟩ = some (.int .i64 (k : Int))) (first | go_keep | exact ⟨kd2, kd0⟩)
            ((go_at_call 17
              refine (inverse_two _ g k _ _ (C2.out.f.stay (Stay.drew (X := fun _ => False)) (fun x => x)) (((R2.out.first HK.out)).stay Stay.drew) C2.out.k1 (by have := C2.out.km; omega)).mono ?_
              rintro e w5 ⟨v5, ev5, rfl, f5, s5, r5⟩
              have C5 := Lib.hid ((C2.out.stay (Stay.drew.trans s5) f5))
              have kd2 := C5.out.c2
              have kd0 := C5.out.c0
              have S5 := Lib.hid (S2.out.trans ((Stay.drew (X := (· = g)) (w := w2)).trans s5))
              have S25 := Lib.hid ((Stay.drew (X := (· = g)) (w := w2)).trans s5)
              have HZ := Lib.hid (show w'.heap.size ≤ w5.heap.size from S5.out.size)
              have HZ2 := Lib.hid (show w'.heap.size ≤ (World.drew w2).heap.size from S2.out.size)
              have RR5 := Lib.hid r5
              clear f5 s5 r5))
          have k2 := kd2
          have k0 := kd0
          clear kd2 kd0 kc kc2
          rcases RR5.out with ⟨hr, rfl, rfl⟩ | ⟨R, hr, rfl, hv⟩
          · have HR := Lib.hid hr
            clear hr RR5
            go_wp2
            go_ret2
            exact ⟨C5.out, S5.out, .inr (.inr ⟨HE.out, HK.out, .inl ⟨HR.out, rfl⟩⟩)⟩
          · obtain ⟨a5, c5, rfl, _⟩ := hv.form
            have HR := Lib.hid hr
            have HV := Lib.hid (hv.mono (Y := (· = g)) (fun i (e : i = g) => by have := HG.out; have := HZ2.out; omega))
            have L5 := Lib.hid (((L2.out.first HK.out).congr (L' := fun _ => L (T.getD 0 0)) (fun i hi => evenB_true.1 HE.out i (Nat.lt_of_lt_of_le hi HK.out)) (fun _ _ _ _ => rfl)).stay S25.out)
            have HL0 := Lib.hid (show L (T.getD 0 0) ≤ 281474976710656 by
              have h0 : 0 < (sel fl t).length := by rw [← HT.out]; have := HK.out; have := C5.out.k1; omega
              have h1 := sel_lt h0
              rw [← HT.out] at h1
              exact HL.out _ h1.1 h1.2)
            clear hr hv RR5
            go_wp2
            go_region_held3 (fun W => W.cell? ⟨c, 2, none⟩ = some (.pointer (some ⟨g, 0, none⟩)) ∧ W.cell? ⟨c, 0, none⟩ = some (.int .i64 (k : Int))) (first | go_keep | exact ⟨k2', k0'⟩ | exact ⟨k2'', k0''⟩)
              (first
                | (go_at_call 18
                   refine (product_any _ g k k (L (T.getD 0 0)) _ _ (backR k R) (fun i => D (T.getD i 0)) (C5.out.f.stay (Stay.drew (X := fun _ => False)) (fun x => x)) (HV.out.stay Stay.drew) (L5.out.stay Stay.drew) C5.out.k1 (by have := C5.out.km; omega) (by have := C5.out.km; omega) HL0.out).mono ?_
                   rintro e w6 ⟨v6, rfl, h6, f6, s6⟩
                   have C6 := Lib.hid (C5.out.stay (Stay.drew.trans s6) f6)
                   have k2' := C6.out.c2
                   have k0' := C6.out.c0
                   have S6 := Lib.hid (S5.out.trans ((Stay.drew (X := (· = g)) (w := w5)).trans s6))
                   have H6 := Lib.hid (h6.mono (Y := (· = g)) (fun i (e : i = g) => by have := HG.out; have := HZ.out; show i < (World.drew w5).heap.size; exact Nat.lt_of_lt_of_le (by omega) (show w5.heap.size ≤ (World.drew w5).heap.size from Nat.le_refl _)))
                   clear f6 s6 h6)
                | (go_at_call 14
                   refine (all_any _ c g k m (L (T.getD 0 0)) _ _ C6.out H6.out HL0.out).mono ?_
                   rintro e w7 ⟨v7, rfl, h7, c7, s7⟩
                   have k2'' := c7.c2
                   have k0'' := c7.c0
                   have C7 := Lib.hid c7
                   have S7 := Lib.hid (S6.out.trans s7)
                   have H7 := Lib.hid (h7.mono (Y := fun i => i < w'.heap.size) (fun i hi => Nat.lt_of_lt_of_le hi S6.out.size))
                   clear c7 s7 h7))
            clear k2 k0
            go_wp2
            go_ret2
            exact ⟨C7.out, S7.out, .inr (.inr ⟨HE.out, HK.out, .inr ⟨R, _, HR.out, rfl, by rw [HNN.out]; exact H7.out⟩⟩)⟩
end
end Go.Proofs.Ytaldpfamgfchoab.Rs
