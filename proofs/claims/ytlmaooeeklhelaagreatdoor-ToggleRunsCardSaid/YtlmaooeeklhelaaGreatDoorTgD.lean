/-
  toggle: write's walk: a range over a function, whose body writes the device.
-/
import Derived.Test.YtlmaooeeklhelaaGreatDoorTgC
namespace Go.Proofs.YtlmaooeeklhelaaGreatDoor.Tg
open Go.RowKit Go.Shelf Pk
set_option maxRecDepth 100000
attribute [local go_sem] Oper.semAt_some

set_option maxHeartbeats 2000000 in
theorem write_any (w : World) (pd ps pm : Nat) (d : DS) (i : Int) (x : Value) (l : List UInt8) (h : DevAt w pd ps pm d) (hok : DOk d 4611686018426387903) (hx : Arg w pd ps pm x l) (hsl : Slc w x l)
    (hi0 : 0 ≤ i) (hi1 : i ≤ 1048576) (hl : l.length ≤ 1048576) :
    Calls Tryz.prog 36 #[.pointer (some ⟨pd, 0, none⟩), .int .i64 i, x] w fun e w' => e = .returned (errV (wrAllD d i l).2) ∧ DevAt w' pd ps pm (wrAllD d i l).1 ∧ Stay (own pd ps pm) w w' := by
  obtain ⟨a0, c, rfl, _, _, hnc, _⟩ := hsl
  refine (callsIn_wide (n := 4)).1 ?_
  refine callsIn_of_wp_marks Tryz.func36 rfl trivial ?_ rfl
  simp only [Tryz.ntmps36, List.size_toArray, List.length_cons, List.length_nil, Nat.reduceAdd, Nat.reduceSub, Array.replicate_succ, Array.replicate_zero, List.push_toArray, List.append_toArray, List.nil_append, List.cons_append]
  gi_wp2_with (refine ⟨trivial, ?_⟩; gi_at_call 54; refine (chunk_any _ a0 _ c _).mono ?_; rintro e w' ⟨rfl, rfl⟩)
  obtain ⟨w0, hw0⟩ : ∃ w0, ((w.alloc (.cells #[.pointer (some ⟨pd, 0, none⟩)] 25)).alloc (.cells #[.int .i64 i] 3)).alloc (.cells #[.nilIface] 27) = w0 := ⟨_, rfl⟩
  have hz0 : w0.heap.size = w.heap.size + 1 + 1 + 1 := by subst hw0; simp
  obtain ⟨w1, hw1⟩ : ∃ w1, (w0.alloc (.cells #[.slice a0 l.length c] 37)).alloc (.cells #[.int .i64 64] 3) = w1 := ⟨_, rfl⟩
  have hz1 : w1.heap.size = w.heap.size + 1 + 1 + 1 + 1 + 1 := by subst hw1; simp; omega
  have B3 : Boxed w1 w.heap.size 25 (.pointer (some ⟨pd, 0, none⟩)) := by
    subst hw1; subst hw0
    exact ((((Boxed.new w _ _).alloc _).alloc _).alloc _).alloc _
  have B4 : Boxed w1 (w.heap.size + 1) 3 (.int .i64 i) := by
    subst hw1; subst hw0
    have := Boxed.new (w.alloc (.cells #[.pointer (some ⟨pd, 0, none⟩)] 25)) 3 (.int .i64 i)
    rw [World.size_alloc] at this
    exact ((this.alloc _).alloc _).alloc _
  have B6 : Boxed w1 (w.heap.size + 1 + 1) 27 .nilIface := by
    subst hw1; subst hw0
    have := Boxed.new ((w.alloc (.cells #[.pointer (some ⟨pd, 0, none⟩)] 25)).alloc (.cells #[.int .i64 i] 3)) 27 .nilIface
    rw [World.size_alloc, World.size_alloc] at this
    exact (this.alloc _).alloc _
  have C1 : Boxed w1 (w.heap.size + 1 + 1 + 1) 37 (.slice a0 l.length c) := by
    subst hw1
    have := Boxed.new w0 37 (.slice a0 l.length c)
    rw [hz0] at this
    exact this.alloc _
  have C2 : Boxed w1 (w.heap.size + 1 + 1 + 1 + 1) 3 (.int .i64 64) := by
    subst hw1
    have := Boxed.new (w0.alloc (.cells #[.slice a0 l.length c] 37)) 3 (.int .i64 64)
    rw [World.size_alloc, hz0] at this
    exact this
  have S01 : Stay (fun _ => False) w w1 := by
    subst hw1; subst hw0
    exact ((((Stay.alloc _ _).trans (Stay.alloc _ _)).trans (Stay.alloc _ _)).trans (Stay.alloc _ _)).trans (Stay.alloc _ _)
  have h1 : DevAt w1 pd ps pm d := h.stay S01 (fun x => x) (fun x => x) (fun x => x)
  have hx1 : Arg w1 pd ps pm (.slice a0 l.length c) l := hx.stay S01 (fun _ _ x => x.elim)
  have lt1 := h.lt1
  have lt2 := h.lt2
  have lt3 := h.lt3
  have hob : ∀ k, own pd ps pm k → k < w.heap.size := by rintro k (rfl | rfl | rfl) <;> assumption
  rw [hw0, hw1]
  refine wpIn_rangeFunc_ownG rfl (by omega) (gf := 76) (lb := #[.pointer (some ⟨w.heap.size + 1 + 1 + 1, 0, none⟩), .pointer (some ⟨w.heap.size + 1 + 1 + 1 + 1, 0, none⟩)]) rfl trivial (enters_of Tryz.func76 (by kernel_rfl) rfl)
    (S := fun ys => ys = List.range (parts l.length)) (Sp := fun pre => ∃ k, k ≤ parts l.length ∧ pre = List.range k) (N := parts l.length) (encs := fun k => #[partV a0 l.length k])
    (Kp := fun W W' => W'.heap[w.heap.size + 1 + 1 + 1]? = W.heap[w.heap.size + 1 + 1 + 1]? ∧ W'.heap[w.heap.size + 1 + 1 + 1 + 1]? = W.heap[w.heap.size + 1 + 1 + 1 + 1]?) (w0 := w1)
    (fun l' J Jx W hW hJ hJx hY h0 => chunk1_in l' (w.heap.size + 1 + 1 + 1) (w.heap.size + 1 + 1 + 1 + 1) l.length c a0 hnc (by omega) J Jx (fun pre wx hj => hJ _ _ _ none hj ⟨rfl, rfl, rfl, Nat.le_refl _, fun _ _ _ => rfl⟩ (fun r e => by cases e)) hY W
      ((hW.block _ C1.lt).trans C1) ((hW.block _ C2.lt).trans C2) h0)
    (fun h k => ⟨k.1.trans h.1, k.2.trans h.2⟩)
    (fun W l' o o' hl' hW _ _ => ⟨World.putObj_heap_other (by omega), World.putObj_heap_other (by omega)⟩)
    (Below.refl _ _) (fun _ => rfl)
    (fun pre W => (writesD l d i pre).2 = 0 ∧ DevAt W pd ps pm (writesD l d i pre).1 ∧ Boxed W (w.heap.size + 1) 3 (.int .i64 (i + (pre.length : Int))) ∧ Stay (fun k => own pd ps pm k ∨ k = w.heap.size + 1) w1 W)
    (fun cd pre W => cd = .ret ∧ (writesD l d i pre).2 ≠ 0 ∧ DevAt W pd ps pm (writesD l d i pre).1 ∧ Boxed W (w.heap.size + 1 + 1) 27 (errV (writesD l d i pre).2) ∧ Stay (fun k => own pd ps pm k ∨ k = w.heap.size + 1 ∨ k = w.heap.size + 1 + 1) w1 W)
    ?ownI ?ownX ?start
    (fun x => { tmps := #[.pointer (some ⟨pd, 0, none⟩), .int .i64 i, .slice a0 l.length c, .pointer (some ⟨w.heap.size, 0, none⟩), .pointer (some ⟨w.heap.size + 1, 0, none⟩), undef, .pointer (some ⟨w.heap.size + 1 + 1, 0, none⟩), partV a0 l.length x, undef, .slice a0 l.length c,
      .func (.func 76) #[] #[.pointer (some ⟨w.heap.size + 1 + 1 + 1, 0, none⟩), .pointer (some ⟨w.heap.size + 1 + 1 + 1 + 1, 0, none⟩)], partV a0 l.length x, undef, undef, undef, undef, undef, undef, undef, undef, undef, undef, undef], defers := [] }) ?assign ?body ?done ?stop
  case ownI =>
    rintro pre A B row ⟨hz, hD, hb, hS⟩ hg hr
    have hs : Stay (fun k => w1.heap.size ≤ k) A B := Stay.grown hg (fun k e => (hr k e).1)
    refine ⟨hz, hD.stay hs (by omega) (by omega) (by omega), hb.kept hg (fun e => by have := (hr _ e.symm).1; omega), hS.andThen hs (fun k hk hk' => by omega)⟩
  case ownX =>
    rintro cd pre A B row ⟨hcd, hz, hD, hb, hS⟩ hg hr
    have hs : Stay (fun k => w1.heap.size ≤ k) A B := Stay.grown hg (fun k e => (hr k e).1)
    refine ⟨hcd, hz, hD.stay hs (by omega) (by omega) (by omega), hb.kept hg (fun e => by have := (hr _ e.symm).1; omega), hS.andThen hs (fun k hk hk' => by omega)⟩
  case start =>
    refine ⟨rfl, h1, ?_, Stay.refl _ _⟩
    have e : i + ((([] : List Nat).length : Nat) : Int) = i := by simp
    rw [e]; exact B4
  case assign =>
    intro l' x W K hK
    gi_wp2
    exact hK
  case body =>
    rintro l' pre k W ⟨hz, hD, hb, hS⟩ hlen
    have hp1 : parts l.length ≤ 16384 := by unfold parts; omega
    have d3 : W.cell? ⟨w.heap.size, 0, none⟩ = some (.pointer (some ⟨pd, 0, none⟩)) := Boxed.cell (t := 25) ((hS.block _ B3.lt (by rintro (hq | hq); exact absurd (hob _ hq) (by omega); omega)).trans B3)
    have d4 := hb.cell
    have f4 := hb.frozen
    have H6 : W.heap[w.heap.size + 1 + 1]? = some (.cells #[.nilIface] 27 (0, 0)) := (hS.block _ B6.lt (by rintro (hq | hq); exact absurd (hob _ hq) (by omega); omega)).trans B6
    have S0W : Stay (own pd ps pm) w W := (S01.mono (fun _ x => x.elim)).andThen hS (fun q hq hy => hy.elim id (fun e => by omega))
    have hxW : Arg W pd ps pm (.slice a0 l.length c) l := hx.stay S0W (fun _ _ hX => hX)
    have hokW : DOk (writesD l d i pre).1 4611686018427387903 := (writesD_ok l pre d i _ hok).mono (by omega)
    have hs1 : 0 ≤ i + (pre.length : Int) := by omega
    have hs2 : i + (pre.length : Int) ≤ 2000000 := by omega
    have hcall := write_all W pd ps pm _ (i + (pre.length : Int)) _ _ hD hokW (arg_part hxW k)
    rw [← writesD_snoc l pre d i k hz] at hcall
    by_cases hc : (writesD l d i (pre ++ [k])).2 = 0
    · rw [hc, errV_zero] at hcall
      have HC := Lib.hid hcall
      clear hcall
      gi_wp2_with (
          refine ⟨trivial, ?_⟩
          gi_at_call 7
          refine (CallsIn.inRound l' (callsIn_wide.2 HC.out)).mono ?_
          rintro e W2 ⟨rfl, hD2, hS2⟩
          have B4' : Boxed W2 (w.heap.size + 1) 3 (.int .i64 (i + (pre.length : Int))) := (hS2.block _ hb.lt (fun hq => absurd (hob _ hq) (by omega))).trans hb
          have d4' := B4'.cell
          have f4' := B4'.frozen)
      have hS3 : Stay (fun q => own pd ps pm q ∨ q = w.heap.size + 1) W (W2.setCell ⟨w.heap.size + 1, 0, none⟩ (.int .i64 (i + (pre.length : Int) + 1))) :=
        (hS2.mono (fun _ hq => Or.inl hq)).trans (Stay.setCell _ _ _ (Or.inr rfl))
      refine ⟨keepsFrom_stay hS3 (by rintro q (hq | hq) <;> first | (have := hob _ hq; omega) | omega),
        ⟨hS3.block _ (by have := hS.size; omega) (by rintro (hq | hq); exact absurd (hob _ hq) (by omega); omega), hS3.block _ (by have := hS.size; omega) (by rintro (hq | hq); exact absurd (hob _ hq) (by omega); omega)⟩,
        hc, hD2.stay (Stay.setCell (X := fun q => q = w.heap.size + 1) _ _ _ rfl) (by omega) (by omega) (by omega), ?_, hS.trans hS3⟩
      have hlen1 : i + (pre.length : Int) + 1 = i + ((pre ++ [k]).length : Int) := by simp; omega
      rw [← hlen1]
      exact B4'.set _
    · have he : errV (writesD l d i (pre ++ [k])).2 = .iface 65 (.int .i64 ((writesD l d i (pre ++ [k])).2 : Int)) := errV_pos hc
      rw [he] at hcall
      have HC := Lib.hid hcall
      clear hcall
      gi_wp2_with (
          refine ⟨trivial, ?_⟩
          gi_at_call 7
          refine (CallsIn.inRound l' (callsIn_wide.2 HC.out)).mono ?_
          rintro e W2 ⟨rfl, hD2, hS2⟩
          have B6' : Boxed W2 (w.heap.size + 1 + 1) 27 .nilIface := (hS2.block _ (Boxed.lt (t := 27) H6) (fun hq => absurd (hob _ hq) (by omega))).trans H6
          have d6' := B6'.cell
          have f6' := B6'.frozen)
      have hS3 : Stay (fun q => own pd ps pm q ∨ q = w.heap.size + 1 ∨ q = w.heap.size + 1 + 1) W (W2.setCell ⟨w.heap.size + 1 + 1, 0, none⟩ (.iface 65 (.int .i64 ((writesD l d i (pre ++ [k])).2 : Int)))) :=
        (hS2.mono (fun _ hq => Or.inl hq)).trans (Stay.setCell _ _ _ (Or.inr (Or.inr rfl)))
      refine ⟨keepsFrom_stay hS3 (by rintro q (hq | hq) <;> first | (have := hob _ hq; omega) | omega), rfl, hc,
        hD2.stay (Stay.setCell (X := fun q => q = w.heap.size + 1 + 1) _ _ _ rfl) (by omega) (by omega) (by omega), ?_, (hS.mono (fun _ hq => hq.elim Or.inl (fun e => Or.inr (Or.inl e)))).trans hS3⟩
      rw [he]
      exact B6'.set _
  case done =>
    rintro D ys W hDl rfl ⟨hz, hD, hb, hS⟩ hK
    have d3 : W.cell? ⟨w.heap.size, 0, none⟩ = some (.pointer (some ⟨pd, 0, none⟩)) := Boxed.cell (t := 25) ((hS.block _ B3.lt (by rintro (hq | hq); exact absurd (hob _ hq) (by omega); omega)).trans B3)
    have H6 : Boxed W (w.heap.size + 1 + 1) 27 .nilIface := (hS.block _ B6.lt (by rintro (hq | hq); exact absurd (hob _ hq) (by omega); omega)).trans B6
    have hcall := flush_all W pd ps pm _ hD
    have e1 : wrAllD d i l = flushD (writesD l d i (List.range (parts l.length))).1 := if_pos hz
    rw [← e1] at hcall
    have hev : errV (wrAllD d i l).2 = .nilIface ∨ ∃ c : Int, errV (wrAllD d i l).2 = .iface 65 (.int .i64 c) := by
      by_cases h0 : (wrAllD d i l).2 = 0
      · exact .inl (by rw [h0]; rfl)
      · exact .inr ⟨_, errV_pos h0⟩
    have key : ∀ v, errV (wrAllD d i l).2 = v → (v = .nilIface ∨ ∃ c : Int, v = .iface 65 (.int .i64 c)) → ∀ W2 : World, DevAt W2 pd ps pm (wrAllD d i l).1 → Stay (own pd ps pm) W W2 →
        ∀ (a : Act), a.tmps.getD 6 undef = .pointer (some ⟨w.heap.size + 1 + 1, 0, none⟩) → a.defers = [{ target := Target.collected D, args := #[] }] →
        bodyPostM Fence.wide 4 Tryz.prog Tryz.f36 (fun e w' => e = .returned (errV (wrAllD d i l).2) ∧ DevAt w' pd ps pm (wrAllD d i l).1 ∧ Stay (own pd ps pm) w w') Exit.ret a (W2.setCell ⟨w.heap.size + 1 + 1, 0, none⟩ v) := by
      rintro v hv hf W2 hD2 hS2 ⟨tm, df⟩ ha hdf
      dsimp only at ha hdf
      rw [Array.getD_eq_getD_getElem?] at ha
      subst hdf
      have B6 : Boxed (W2.setCell ⟨w.heap.size + 1 + 1, 0, none⟩ v) (w.heap.size + 1 + 1) 27 v := Boxed.set v ((hS2.block _ H6.lt (fun hq => absurd (hob _ hq) (by omega))).trans H6)
      have hKD : (W2.setCell ⟨w.heap.size + 1 + 1, 0, none⟩ v).heap[D]? = some (.deferred (some [])) := (KeepsOthers.setCell W2 _ _).same D _ ((hS2.block _ (Array.getElem?_eq_some_iff.1 hK).1 (fun hq => absurd (hob _ hq) (by omega))).trans hK) rfl
      have hs : Stay (fun q => q = D) (W2.setCell ⟨w.heap.size + 1 + 1, 0, none⟩ v) ((W2.setCell ⟨w.heap.size + 1 + 1, 0, none⟩ v).putObj D (.deferred none)) := Stay.grown (grownBy_putObj' _ D _) (fun q e => by cases e; rfl)
      refine ⟨by simp, .inl ⟨_, _, rfl, run_takeDeferred hKD, ?_⟩⟩
      have hb2 : Boxed ((W2.setCell ⟨w.heap.size + 1 + 1, 0, none⟩ v).putObj D (.deferred none)) (w.heap.size + 1 + 1) 27 v := B6.kept (grownBy_putObj' _ D _) (fun e => by cases e; omega)
      have d6' := hb2.cell
      have hS3 : Stay (fun q => q = w.heap.size + 1 + 1) W2 (W2.setCell ⟨w.heap.size + 1 + 1, 0, none⟩ v) := Stay.setCell _ _ _ rfl
      refine ⟨v, ?_, by rw [hv], (hD2.stay hS3 (by omega) (by omega) (by omega)).stay hs (by omega) (by omega) (by omega), ?_⟩
      · rcases hf with rfl | ⟨c1, rfl⟩ <;> simp [results, Tryz.results36, go_sem, ha, d6']
      · refine (S01.mono (fun _ x => x.elim)).andThen (((hS.mono (Y := fun q => own pd ps pm q ∨ w.heap.size ≤ q) (fun q hq => hq.elim Or.inl (fun e => Or.inr (by omega)))).trans (hS2.mono (fun _ hq => Or.inl hq))).trans ((hS3.mono (Y := fun q => own pd ps pm q ∨ w.heap.size ≤ q) (fun q e => Or.inr (by omega))).trans (hs.mono (fun q e => Or.inr (by omega))))) (fun q hq hy => hy.elim id (fun e => by omega))
    rcases hev with hv | ⟨c1, hv⟩
    all_goals
      rw [hv] at hcall
      have HC := Lib.hid hcall
      clear hcall
      gi_wp2_with (
        refine ⟨trivial, ?_⟩
        gi_at_call 55
        refine (callsIn_wide.2 HC.out).mono ?_
        rintro e W2 ⟨rfl, hD2, hS2⟩
        have B6' : Boxed W2 (w.heap.size + 1 + 1) 27 .nilIface := (hS2.block _ H6.lt (fun hq => absurd (hob _ hq) (by omega))).trans H6
        have d6' := B6'.cell
        have f6' := B6'.frozen)
      refine key _ hv ?_ W2 hD2 hS2 _ rfl rfl
      first | exact .inl rfl | exact .inr ⟨_, rfl⟩
  case stop =>
    rintro D cd pre W hDl ⟨k, hk, rfl⟩ ⟨rfl, hz, hD, hb, hS⟩ hK
    have d6 := hb.cell
    have e1 : wrAllD d i l = writesD l d i (List.range k) := by
      obtain ⟨m, hm⟩ : ∃ m, parts l.length = k + m := ⟨parts l.length - k, by omega⟩
      have hst := writesD_stop l (List.range k) d i ((List.range m).map (k + ·)) hz
      rw [← List.range_add, ← hm] at hst
      unfold wrAllD
      rw [hst, if_neg hz]
    have hev : errV (writesD l d i (List.range k)).2 = .iface 65 (.int .i64 ((writesD l d i (List.range k)).2 : Int)) := errV_pos hz
    have hs : Stay (fun q => q = D) W (W.putObj D (.deferred none)) := Stay.grown (grownBy_putObj' W D _) (fun q e => by cases e; rfl)
    gi_wp2
    refine ⟨by simp, .inl ⟨_, _, rfl, run_takeDeferred hK, ?_⟩⟩
    have hb2 : Boxed (W.putObj D (.deferred none)) (w.heap.size + 1 + 1) 27 (errV (writesD l d i (List.range k)).2) := hb.kept (grownBy_putObj' W D _) (fun e => by cases e; omega)
    have d6' := hb2.cell
    refine ⟨errV (writesD l d i (List.range k)).2, by rw [hev] at d6' ⊢; simp [results, Tryz.results36, go_sem, d6'], by rw [e1], by rw [e1]; exact hD.stay hs (by omega) (by omega) (by omega), ?_⟩
    exact (S01.mono (fun _ x => x.elim)).andThen (hS.andThen hs (fun q hq hq' => by omega)) (fun q hq hy => by rcases hy with hy | hy | hy; exact hy; omega; omega)

end Go.Proofs.YtlmaooeeklhelaaGreatDoor.Tg
