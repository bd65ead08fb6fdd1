/-
  rs: copied bytes; inverse.
-/
import Derived.Test.YtaldpfamgfchoabRsJ
namespace Go.Proofs.Ytaldpfamgfchoab.Rs
open Go.RowKit Gf
set_option maxRecDepth 100000

/-- k bytes copied to a place. -/
def cpF (f : Nat → UInt8) (o k : Nat) (q : Nat → UInt8) : Nat → UInt8 := fun i => if o ≤ i ∧ i < o + k then q (i - o) else f i
theorem info1 : (Try.prog.info? 5).map (·.size) = some 1 := by kernel_rfl
theorem run_copy_fb (w : World) (ty : TypeId) {g o m c N : Nat} {f : Nat → UInt8} {a0 : Option Addr} {l c2 : Nat} {q : Nat → UInt8} (h : FB w g N f) (ho : o + m ≤ N) (hs : Slc w (.slice a0 l c2) (lf l q)) (k : Nat) (hk : k = min m l) :
    ∃ w2, (Builtin.copy_ #[24, 24] ty #[.slice (some ⟨g, o, none⟩) m c, .slice a0 l c2]).run Try.prog w = .ok (.int .i64 (k : Int)) w2 ∧ FB w2 g N (cpF f o k q) ∧ Stay (· = g) w w2 := by
  by_cases h0 : k = 0
  · subst h0
    refine ⟨w, run_copy_none (P := Try.prog) w _ _ ty 5 _ _ m c l c2 Try.underlying24 info1 (by show min l m = 0; omega), h.congr (fun i _ => ?_), Stay.refl _ _⟩
    unfold cpF
    rw [if_neg (by omega)]
  · obtain ⟨a1, c1, e, hr, _⟩ := hs
    rw [length_lf] at e
    cases e
    obtain ⟨ad, rfl, hc⟩ := hr (by rw [length_lf]; omega)
    have hcs : (cellsB (lf k q)).length = Nat.min l m := by rw [length_cellsB, length_lf, hk]; show min m l = min l m; omega
    have hrun := run_copy_row (P := Try.prog) w 24 24 ty 5 g o m c ad l c2 (cellsB (lf N f)).toArray 5 (cellsB (lf k q)) Try.underlying24 info1 h hcs (fun j v hv => by
      have hj : j < k := by
        have := (List.getElem?_eq_some_iff.1 hv).1
        rwa [length_cellsB, length_lf] at this
      rw [cells_lf _ hj] at hv
      exact hc j v (by rw [cells_lf _ (by omega)]; exact hv)) (by rw [hcs]; have h1 : Nat.min l m ≤ m := Nat.min_le_right l m; simp [length_cellsB, length_lf]; omega) (oneCell_cellsB _)
    have hlk : (cellsB (lf k q)).length = k := by rw [length_cellsB, length_lf]
    rw [hlk] at hrun
    refine ⟨_, hrun.trans rfl, ?_, Stay.setRow w g _ rfl⟩
    unfold FB
    rw [setRow_heap w g _ _ _ _ h]
    congr 2
    apply congrArg
    apply List.ext_getElem?
    intro i
    have l1 : ((cellsB (lf N f)).take o).length = o := by rw [List.length_take, length_cellsB, length_lf]; omega
    by_cases hi : i < N
    · rw [cells_lf _ hi]
      unfold cpF
      by_cases h1 : i < o
      · rw [List.append_assoc, List.getElem?_append_left (by have e : ((cellsB (lf N f)).toArray.toList.take o).length = o := l1; rw [e]; exact h1), List.getElem?_take, if_pos h1, if_neg (by omega)]
        exact cells_lf f hi
      · by_cases h2 : i < o + k
        · rw [List.getElem?_append_left (by have e : ((cellsB (lf N f)).toArray.toList.take o).length = o := l1; rw [List.length_append, e, hlk]; omega), List.getElem?_append_right (by simp [length_cellsB, length_lf]; omega), if_pos ⟨by omega, h2⟩]
          have e : ((cellsB (lf N f)).toArray.toList.take o).length = o := l1
          rw [e]
          exact cells_lf q (by omega)
        · rw [List.getElem?_append_right (by have e : ((cellsB (lf N f)).toArray.toList.take o).length = o := l1; rw [List.length_append, e, hlk]; omega), if_neg (by omega)]
          have e : ((cellsB (lf N f)).toArray.toList.take o ++ cellsB (lf k q)).length = o + k := by rw [List.length_append, hlk]; exact congrArg (· + k) l1
          rw [e, List.getElem?_drop, show o + k + (i - (o + k)) = i by omega]
          exact cells_lf f hi
    · rw [List.getElem?_eq_none (by simp [length_cellsB, length_lf]; omega), List.getElem?_eq_none (by simp [length_cellsB, length_lf]; omega)]
theorem copy_b {ops : Array Oper} {rest : List Oper} {o : Oper} {a : Act} {w : World} {Q : Exit → Act → World → Prop} (hgd : o.guard = none) (d s : Operand)
    (ho : o.op = .call { callee := .builtin .copy, args := #[d, s], argTypes := #[24, 24] }) {g off m c N : Nat} {f : Nat → UInt8} {a0 : Option Addr} {l c2 : Nat} {q : Nat → UInt8} (k : Nat)
    (hd : a.eval d = .slice (some ⟨g, off, none⟩) m c) (hs : a.eval s = .slice a0 l c2) (h : FB w g N f) (hom : off + m ≤ N) (hsl : Slc w (.slice a0 l c2) (lf l q)) (hk : k = min m l)
    (hn : ∀ w', FB w' g N (cpF f off k q) → Stay (· = g) w w' → wpList Try.prog ops Q rest (a.put o.dst (.int .i64 (k : Int))) w') : wpList Try.prog ops Q (o :: rest) a w := by
  refine wpList_plain hgd fun K hK => ?_
  obtain ⟨w2, hrun, h1, h2⟩ := run_copy_fb w o.type (c := c) h hom hsl k hk
  unfold Oper.wp
  simp [execOp, ho, resolve, invoke, builtin, hd, hs, hrun, Result.andThen]
  exact hK _ _ (hn w2 h1 h2)

/-- What inverse tells. -/
def resI : Option (Nat → Nat → UInt8) → Value
  | none => .iface 42 (.int .i64 14)
  | some _ => .nilIface

theorem run_succ {n t : Nat} {R0 R : Nat → Nat → UInt8} (h : runR n R0 t = some R) : runR n R0 (t + 1) = settleR n R t := by
  show (match runR n R0 t with | none => none | some R' => settleR n R' t) = _
  rw [h]
theorem run_none {n : Nat} {R0 : Nat → Nat → UInt8} : ∀ {t s : Nat}, runR n R0 t = none → t ≤ s → runR n R0 s = none
  | t, 0, h, hs => by
    have e : t = 0 := by omega
    subst e
    exact h
  | t, s + 1, h, hs => by
    by_cases e : t = s + 1
    · subst e; exact h
    · show (match runR n R0 s with | none => none | some R' => settleR n R' s) = none
      rw [run_none h (by omega)]

set_option maxHeartbeats 8000000 in
theorem inverse_any (w : World) (g n : Nat) (x : Value) (M : Nat → Nat → UInt8) (hf : Fld w g) (hx : SM (· = g) w x n (fun _ => n) M) (h1 : 1 ≤ n) (hn : n ≤ 1073741824) :
    Calls Try.prog 17 #[.pointer (some ⟨g, 0, none⟩), x] w fun e w' => Fld w' g ∧ Stay (· = g) w w' ∧
      ((runR n (augR n M) n = none ∧ e = .returned (.tuple #[.slice none 0 0, .iface 42 (.int .i64 14)])) ∨
       (∃ R v, runR n (augR n M) n = some R ∧ e = .returned (.tuple #[v, .nilIface]) ∧ SM (fun i => i < w.heap.size) w' v n (fun _ => n) (backR n R))) := by
  obtain ⟨ax, cx, rfl, _⟩ := hx.form
  obtain ⟨W, hW⟩ : ∃ W, W = n + n := ⟨_, rfl⟩
  have q1 : (n : Int) ≤ 1073741824 := by omega
  have q3 : (W : Int) ≤ 2147483648 := by omega
  have e1 : 2 * (n : Int) = (W : Int) := by omega
  have e2 : IntKind.i64.wrap (W : Int) = (W : Int) := by rw [IntKind.wrap_i64]; omega
  have HF := Lib.hid hf
  have HX := Lib.hid hx
  have H1 := Lib.hid h1
  have HN := Lib.hid hn
  have HW := Lib.hid hW
  have HG := Lib.hid (show g < w.heap.size from hf.lt)
  clear hf hx h1 hn hW
  go_enter Try.func17, Try.ntmps17
  go_wp2_with (first
    | (with_reducible refine make_l rfl _ _ rfl n rfl rfl (by have := HN.out; omega) ?_
       intro w1 h1 s1 l1
       have HB := Lib.hid h1
       have S1 := Lib.hid s1
       clear h1 s1 l1))
  obtain ⟨gb, hgb⟩ : ∃ gb, gb = w.heap.size := ⟨_, rfl⟩
  rw [← hgb] at HB
  rw [← hgb]
  have HGB := Lib.hid hgb
  clear hgb
  go_loopw [20] (fun i wr => ∃ (t : Nat) (h : Nat → Nat), t ≤ n ∧ i = .int .i64 (t : Int) ∧ PM wr gb gb n W t h (augR n M) ∧ Fld wr g ∧ Stay (· = g) w wr) (fun i _ => n - (intOf i).toNat)
  case atStart => exact ⟨0, fun _ => 0, by omega, rfl, PM.start HB.out (Nat.le_refl _), HF.out.stay S1.out (fun x => x), S1.out.mono (fun _ x => x.elim)⟩
  case round =>
    obtain ⟨wr0, hwr0⟩ : ∃ x, x = wr := ⟨_, rfl⟩
    rw [← hwr0] at hrel ⊢
    clear hwr0 wr
    obtain ⟨t, h, ht, rfl, hp, hf, hst⟩ := hrel
    by_cases hlt : t < n
    · have q4 : (t : Int) < (n : Int) := by omega
      obtain ⟨bx, ox, ak, ck, rfl, cR, sR, _⟩ := HX.out.row hlt
      have k1 := (cR.stay hst).now
      obtain ⟨z, hz⟩ : ∃ z, z = n + t := ⟨_, rfl⟩
      have z1 : IntKind.i64.wrap ((n : Int) + (t : Int)) = (z : Int) := by rw [IntKind.wrap_i64]; omega
      have z2 : (z : Int) < (W : Int) := by have := HW.out; omega
      have HZ := Lib.hid hz
      have HP := Lib.hid hp
      have HFF := Lib.hid hf
      have HST := Lib.hid hst
      have HT := Lib.hid hlt
      have SR := Lib.hid sR
      have HGS := Lib.hid (show w.heap.size ≤ wr0.heap.size from hst.size)
      have HGT := Lib.hid (show gb < wr0.heap.size from hp.lb.lt)
      clear hp hf hst hlt cR sR hz
      go_wp2_with (first
        | (with_reducible refine make_b rfl _ _ rfl W rfl rfl (by omega) ?_
           intro w2 h2 s2 l2
           have HB2 := Lib.hid h2
           have S2 := Lib.hid s2
           have P2 := Lib.hid (HP.out.stay0 s2)
           clear h2 s2 l2)
        | (with_reducible refine store_l rfl (.tmp 30) (.tmp 29) rfl t (some ⟨wr0.heap.size, 0, none⟩) W W rfl rfl P2.out.lb HT.out ?_
           intro w3 h3 s3
           have P3 := Lib.hid (P2.out.push h3 rfl rfl s3 HB2.out (by have := HGS.out; have := HGB.out; omega) (by have := HGT.out; omega) (fun i hi e => by have := HP.out.lt i hi; omega))
           have S3 := Lib.hid s3
           have kt := P3.out.cell (i := t) (Nat.lt_succ_self _) HT.out
           rw [if_pos rfl] at kt
           have B3 := Lib.hid (P3.out.row t (Nat.lt_succ_self _))
           simp only [if_true] at B3
           obtain ⟨w4, hcp, h4, s4⟩ := run_copy_fb w3 3 (g := wr0.heap.size) (o := 0) (m := W) (c := W) (N := W) (c2 := ck) B3.out (by omega) (SR.out w3 ((HST.out.trans (S2.out.mono (fun _ x => x.elim))).andThen S3.out (fun i hi e => by have := HGB.out; omega))) n (by have := HW.out; omega)
           have B4 := Lib.hid h4
           have S4 := Lib.hid s4
           have kt4 := s4.cell kt (show ¬ gb = wr0.heap.size by have := HGT.out; omega)
           clear h3 s3 h4 s4)
        | (with_reducible refine store_b rfl (.tmp 44) (.const (.int .u8 1)) rfl z 1 rfl rfl B4.out (by have := HZ.out; have := HW.out; have := HT.out; omega) ?_
           intro w5 h5 s5
           have B5 := Lib.hid h5
           have S5 := Lib.hid s5
           clear h5 s5))
      have ht := HT.out
      have hz := HZ.out
      have hw := HW.out
      have hgb := HGB.out
      have p5 := P3.out.upd (w' := w5) (g := g) (f := putB (cpF (fun _ => 0) 0 n (M t)) z 1) (Nat.lt_succ_self t) (by simp only [if_true]; exact B5.out) (by simp only [if_true]; exact (S4.out.mono (fun _ e => .inr e)).trans (S5.out.mono (fun _ e => .inr e))) (by have := HG.out; omega)
      have s5 : Stay (fun i => i = g) w w5 := ((HST.out.trans (S2.out.mono (fun _ x => x.elim))).andThen S3.out (fun i hi (e : i = gb) => by omega)).andThen ((S4.out.mono (Y := fun i => i = wr0.heap.size) (fun _ e => e)).trans S5.out) (fun i hi (e : i = wr0.heap.size) => by have := HGS.out; omega)
      have f5 : Fld w5 g := (((HFF.out.stay S2.out (fun x => x)).stay S3.out (fun (e : g = gb) => by have := HG.out; omega)).stay S4.out (fun (e : g = wr0.heap.size) => by have := HG.out; have := HGS.out; omega)).stay S5.out (fun (e : g = wr0.heap.size) => by have := HG.out; have := HGS.out; omega)
      exact ⟨⟨t + 1, _, by omega, by go_num, p5.congr (fun i _ b hb => by
        by_cases e : i = t
        · subst e
          simp only [if_true]
          unfold putB cpF augR
          by_cases e1 : b = z
          · rw [if_pos e1, if_neg (by omega), if_pos (by omega)]
          · rw [if_neg e1]
            by_cases e2 : b < n
            · rw [if_pos (by omega), if_pos e2, Nat.sub_zero]
            · rw [if_neg (by omega), if_neg e2, if_neg (by omega)]
        · simp only [e, if_false]), f5, s5⟩, by simp [intOf]; omega⟩
    · obtain rfl : t = n := by omega
      have P1 := Lib.hid hp
      have F1 := Lib.hid hf
      have T1 := Lib.hid hst
      clear hp hf hst
      go_wp2
      go_loopw [48] (fun i wr => ∃ (s : Nat) (h : Nat → Nat) (R : Nat → Nat → UInt8), s ≤ t ∧ i = .int .i64 (s : Int) ∧ runR t (augR t M) s = some R ∧ PM wr gb gb t W t h R ∧ Fld wr g ∧ Stay (· = g) w wr) (fun i _ => t - (intOf i).toNat)
      case atStart => exact ⟨0, h, _, by omega, rfl, rfl, P1.out, F1.out, T1.out⟩
      case round =>
        obtain ⟨s, h, R, hs, rfl, hr, hp, hf, hst⟩ := hrel
        by_cases hlt : s < t
        · have q4 : (s : Int) < (t : Int) := by omega
          have PP := Lib.hid hp
          have FF := Lib.hid hf
          have ST := Lib.hid hst
          have HR := Lib.hid hr
          have HT := Lib.hid hlt
          clear hp hf hst hr hlt
          go_wp2_with fail
          refine (settle_any wr g gb gb t W s h R FF.out PP.out HT.out (by have := HT.out; have := HW.out; omega) (by have := HG.out; have := HGB.out; omega) (by have := HN.out; omega) (by have := HN.out; have := HW.out; omega)).mono ?_
          rintro e w2 ⟨rfl, f2, p2, s2⟩
          have S2 := Lib.hid (ST.out.andThen s2 (fun i hi e => by have := HGB.out; omega))
          have F2 := Lib.hid f2
          clear f2 s2
          cases hres : settleR t R s with
          | none =>
            have HE := Lib.hid hres
            clear hres p2
            unfold resS
            go_wp2
            go_ret2
            exact ⟨F2.out, S2.out, .inl ⟨run_none (t := s + 1) (by rw [run_succ HR.out]; exact HE.out) (by have := HT.out; omega), rfl⟩⟩
          | some R' =>
            obtain ⟨h', p3⟩ := p2 R' hres
            have P3 := Lib.hid p3
            have HE := Lib.hid hres
            clear hres p2 p3
            unfold resS
            go_wp2
            have ht := HT.out
            go_round
            case rel => exact ⟨s + 1, h', R', by omega, by go_num, by rw [run_succ HR.out]; exact HE.out, P3.out, F2.out, S2.out⟩
            case measure => simp [intOf]; omega
        · obtain rfl : s = t := by omega
          have PP := Lib.hid hp
          have FF := Lib.hid hf
          have ST := Lib.hid hst
          have HR := Lib.hid hr
          clear hp hf hst hr P1 F1 T1
          have hL : LB wr gb s (fun i => if i < 0 then .slice (some ⟨h i, s, none⟩) s s else .slice (some ⟨h i, 0, none⟩) W W) := PP.out.lb.congr (fun i hi => by rw [if_pos hi, if_neg (by omega)])
          have HL := Lib.hid hL
          have HRW := Lib.hid (show ∀ i, i < s → FB wr (h i) W (R i) from PP.out.row)
          clear hL
          go_wp2
          go_loopw [61] (fun i wr => ∃ u : Nat, u ≤ s ∧ i = .int .i64 (u : Int) ∧ LB wr gb s (fun i => if i < u then .slice (some ⟨h i, s, none⟩) s s else .slice (some ⟨h i, 0, none⟩) W W) ∧ (∀ i, i < s → FB wr (h i) W (R i)) ∧ Fld wr g ∧ Stay (· = g) w wr) (fun i _ => s - (intOf i).toNat)
          case atStart => exact ⟨0, by omega, rfl, HL.out, HRW.out, FF.out, ST.out⟩
          case round =>
            obtain ⟨u, hu, rfl, hl, hrow, hf, hst⟩ := hrel
            by_cases hlt : u < s
            · have q4 : (u : Int) < (s : Int) := by omega
              have cu := hl.c hlt
              rw [if_neg (by omega)] at cu
              have q5 : (s : Int) ≤ (W : Int) := by have := HW.out; omega
              have LL := Lib.hid hl
              have RW := Lib.hid hrow
              have F2 := Lib.hid hf
              have T2 := Lib.hid hst
              have HT := Lib.hid hlt
              have hws : W - s = s := by have := HW.out; omega
              have fu := hl.fr u
              have hwn : ¬ W = s := by have := HW.out; have := H1.out; omega
              clear hl hrow hf hst hlt
              go_wp2
              have hl2 := LL.out.set HT.out (.slice (some ⟨h u, s, none⟩) s s)
              have s2 : Stay (fun i => i = gb) wr (wr.setCell ⟨gb, u, none⟩ (.slice (some ⟨h u, s, none⟩) s s)) := Stay.setCell _ _ _ rfl
              generalize wr.setCell ⟨gb, u, none⟩ (.slice (some ⟨h u, s, none⟩) s s) = w2 at hl2 s2 ⊢
              have hu := HT.out
              have hgb := HGB.out
              exact ⟨⟨u + 1, by omega, by go_num, hl2.congr (fun i hi => by
                unfold putV
                by_cases e : i = u
                · subst e; rw [if_pos rfl, if_pos (by omega)]
                · rw [if_neg e]
                  by_cases e3 : i < u
                  · exact (if_pos e3).trans (if_pos (by omega)).symm
                  · exact (if_neg e3).trans (if_neg (by omega)).symm), fun i hi => (RW.out i hi).stay s2 (PP.out.ne i hi), F2.out.stay s2 (fun e => by have := HG.out; omega), T2.out.andThen s2 (fun i hi e => by omega)⟩, by simp [intOf]; omega⟩
            · obtain rfl : u = s := by omega
              have LL := Lib.hid hl
              have RW := Lib.hid hrow
              have F2 := Lib.hid hf
              have T2 := Lib.hid hst
              clear hl hrow hf hst
              go_wp2
              go_ret2
              have hgb := HGB.out
              have hw := HW.out
              have hn := HN.out
              refine ⟨F2.out, T2.out, .inr ⟨R, _, HR.out, rfl, _, _, rfl, Nat.le_refl _, by omega, fun _ => ⟨gb, 0, rfl, fun k hk => ⟨_, SCell.of (by rw [Nat.zero_add]; exact LL.out.c hk) (fun e => by have h1 : gb < w.heap.size := e; omega), ?_⟩⟩⟩⟩
              rw [if_pos hk]
              refine SSlc.of ?_ (fun _ i hi e => by
                have h1 := PP.out.lr k hk
                have h2 : i = h k := by simpa [Value.ownBlock] using hi.symm
                omega)
              exact (RW.out k hk).slc (o := u) (c := u) u (by omega) (Nat.le_refl _) (by omega)
end Go.Proofs.Ytaldpfamgfchoab.Rs
