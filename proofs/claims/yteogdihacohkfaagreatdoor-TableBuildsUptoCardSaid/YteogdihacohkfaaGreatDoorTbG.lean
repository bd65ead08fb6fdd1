/-
  table: a table as bytes: the parts of entries, each with its first key, and what is behind them.
-/
import Derived.Test.YteogdihacohkfaaGreatDoorTbE
import Derived.Test.YteogdihacohkfaaGreatDoorTbF
import Derived.Test.YteogdihacohkfaaGreatDoorGaB
namespace Go.Proofs.YteogdihacohkfaaGreatDoor.Tb
open Go.RowKit Go.Shelf
open Pk (stay_seal)
open Me (En EnS EnO Box enC enV norm ltB Sorted getL posN hasB sizeL)
open Pk (spellB bytesB boolB Slc Owns WrAt Cl)
open Bo (FAt)
set_option maxRecDepth 100000
set_option linter.unusedVariables false
attribute [local go_sem] Oper.semAt_some

theorem hdN_flat (L : List En) (p : Nat) : ∀ m, hdN L p 0 m = (List.range m).flatMap (headB L p)
  | 0 => rfl
  | m + 1 => by rw [hdN_succ, hdN_flat L p m, List.range_succ, Nat.zero_add]; simp
/-- Just the blocks that a writer has: they are cells. -/
theorem wr_cells {X : Nat → Prop} {w : World} {p : Nat} {l : List UInt8} (h : WrAt X w p l) : ∃ Z : Nat → Prop, WrAt Z w p l ∧ (∀ k, Z k → X k) ∧ ∀ k, Z k → ∃ cs t fr, w.heap[k]? = some (.cells cs t fr) := by
  obtain ⟨hp, v, hv, ho, hk⟩ := h
  refine ⟨fun k => k = p ∨ v.ownBlock = some k, ⟨.inl rfl, v, hv, ho, fun k e => ⟨.inr e, (hk k e).2⟩⟩, fun k h => ?_, fun k h => ?_⟩
  · rcases h with rfl | h
    · exact hp
    · exact (hk k h).1
  · rcases h with rfl | h
    · exact ⟨_, _, _, hv⟩
    · rcases ho.2 with ⟨e, _⟩ | ⟨g, cap, cur, rfl, _, hg, _⟩
      · rw [e] at h; cases h
      · cases h; exact ⟨_, _, _, hg⟩
theorem wr_kept {X : Nat → Prop} {A B : World} {row : Option Nat} {p : Nat} {l : List UInt8} (h : WrAt X A p l) (hg : A.grownBy B row) (hr : ∀ r, row = some r → ∃ o : Obj, A.heap[r]? = some o ∧ o.isCells = false) : WrAt X B p l := by
  obtain ⟨Z, hz, h1, h2⟩ := wr_cells h
  refine (hz.stay (Y := fun k => row = some k) (Stay.grown hg (fun k e => e)) (fun k hk _ e => ?_)).mono h1
  obtain ⟨cs, t, fr, h3⟩ := h2 k hk
  obtain ⟨o, h4, h5⟩ := hr k e
  rw [h3] at h4
  cases h4
  cases h5
theorem keeps_wr {B : Nat} {Z : Nat → Prop} {W W' : World} (hz : ∀ k, Z k → ∃ cs t fr, W.heap[k]? = some (.cells cs t fr)) (hs : Stay (fun k => Z k ∨ W.heap.size ≤ k) W W') : KeepsFrom B W W' :=
  ⟨hs.size, fun k o _ hk ho => (hs.block k (Array.getElem?_eq_some_iff.1 hk).1 (fun h => by
    rcases h with h | h
    · obtain ⟨cs, t, fr, h3⟩ := hz k h
      rw [hk] at h3
      cases h3
      cases ho
    · have := (Array.getElem?_eq_some_iff.1 hk).1
      omega)).trans hk⟩

theorem flat_le {α β : Type} (l : List α) (f : α → List β) (M : Nat) (h : ∀ x, (f x).length ≤ M) : (l.flatMap f).length ≤ l.length * M := by
  induction l with
  | nil => simp
  | cons a r ih =>
    have := h a
    rw [List.flatMap_cons, List.length_append, List.length_cons, Nat.add_mul]
    omega
theorem len_headB (L : List En) (p k : Nat) : (headB L p k).length ≤ 2 * sizeL L + 19 * L.length + 40 := by
  have h1 := len_bytesB (keyAt L (k * p))
  have h2 := len_bytesB (partB (chunk L p k))
  have h3 := length_partB (chunk L p k)
  have h4 := keyAt_le L (k * p)
  have h5 := size_chunk L p k
  have h6 := length_chunk L p k
  unfold headB
  rw [List.length_append]
  omega

set_option maxHeartbeats 4000000 in
theorem lay_any (w : World) (x : Value) (L : List En) (p pf gf q : Nat) (hx : EnS w x L) (hf : FAt w pf gf 3 (filtB L q)) (hp : 1 ≤ p) (hp2 : p ≤ 1000000) (hn : 1 ≤ L.length) (hl : L.length ≤ 1000) (hz : sizeL L ≤ 1000000000) (hqn : q * L.length ≤ 1048576) :
    Calls Tryz.prog 26 #[x, .int .i64 (p : Int), .pointer (some ⟨pf, 0, none⟩)] w fun e w' => ∃ v, e = .returned v ∧ Owns w.heap.size w' v (tabB L p q) ∧ Stay (fun _ => False) w w' := by
  have HX := Lib.hid hx
  have HF := Lib.hid hf
  obtain ⟨a0, c, rfl⟩ := hx.form
  obtain ⟨g, o, rfl, hgl, _⟩ := hx.at (by omega)
  have hcc : L.length ≤ c := by
    obtain ⟨_, c1, e, h1, _⟩ := hx
    cases e
    exact h1
  have hcm : (L.length : Int) ≤ 1000000 := by omega
  have hpm : (p : Int) ≤ 1000000 := by omega
  have hp1 : (1 : Int) ≤ p := by omega
  have HHL := Lib.hid (show ∀ pre : List (Fin (cN L.length p)), pre.length ≤ cN L.length p → (pre.flatMap (fun k => headB L p k.val)).length ≤ 3000000000000 by
    intro pre hm
    have h1 := flat_le pre (fun k => headB L p k.val) 2000020040 (fun k => by have h9 := len_headB L p k.val; show (headB L p k.val).length ≤ _; omega)
    have h4 := cN_le (n := L.length) hp
    have h5 : pre.length * 2000020040 ≤ 1000 * 2000020040 := Nat.mul_le_mul_right _ (by omega)
    omega)
  have HPL := Lib.hid (show ∀ k, (partB (chunk L p k)).length ≤ 1000020000 by
    intro k
    have h1 := length_partB (chunk L p k)
    have h2 := size_chunk L p k
    have h3 := length_chunk L p k
    omega)
  have hcl := cN_le (n := L.length) hp
  have hcp := cN_pos hp hn
  have hcn : ((L.length : Int) + p - 1) / p = (cN L.length p : Int) := by
    unfold cN
    have : ((L.length : Int) + p - 1) = ((L.length + p - 1 : Nat) : Int) := by omega
    rw [this, Int.natCast_ediv]
  have HCN := Lib.hid hcn
  have HW := Lib.hid (Pk.WrAt.new w)
  have HA := Lib.hid (show Stay (fun _ => False) w (w.alloc (.cells #[.slice none 0 0] 177)) from Stay.alloc _ _)
  clear hx hf hcn
  refine (callsIn_wide (n := 4)).1 ?_
  refine callsIn_of_wp_marks Tryz.func26 rfl trivial ?_ rfl
  simp only [Tryz.ntmps26, List.size_toArray, List.length_cons, List.length_nil, Nat.reduceAdd, Nat.reduceSub, Array.replicate_succ, Array.replicate_zero, List.push_toArray, List.append_toArray, List.nil_append, List.cons_append]
  gi_wp2_with fail
  rw [HCN.out]
  refine ⟨trivial, (callsIn_wide.2 (Pk.new_any w)).mono ?_⟩
  rintro e w1 ⟨rfl, hw1⟩
  have HW1 := Lib.hid (show WrAt (fun k => w.heap.size ≤ k) w1 w.heap.size [] from hw1 ▸ HW.out)
  have HA1 := Lib.hid (show Stay (fun _ => False) w w1 from hw1 ▸ HA.out)
  clear HW HA hw1
  gi_wp2_with fail
  refine ⟨trivial, (callsIn_wide.2 (Pk.uint_at' w.heap.size w1 w.heap.size [] L.length _ (by omega) HW1.out (by omega) (by simp))).mono ?_⟩
  rintro e w2 ⟨rfl, hw2, hs2⟩
  rw [List.nil_append] at hw2
  have HW2 := Lib.hid hw2
  have HS2 := Lib.hid (show Stay (fun _ => False) w w2 from stay_seal (X := fun k => w.heap.size ≤ k) ((HA1.out.mono (fun _ x => x.elim)).trans hs2) (fun k hk => hk))
  clear hw2 hs2 HW1 HA1
  gi_wp2_with fail
  refine ⟨trivial, (callsIn_wide.2 (Pk.uint_at' w.heap.size w2 w.heap.size (spellB L.length) (cN L.length p) _ (by omega) HW2.out (by omega) (by have := (len_spellB L.length).2; omega))).mono ?_⟩
  rintro e w3 ⟨rfl, hw3, hs3⟩
  obtain ⟨T0, hT0⟩ : ∃ T0, T0 = spellB L.length ++ spellB (cN L.length p) := ⟨_, rfl⟩
  rw [← hT0] at hw3
  have HT0 := Lib.hid hT0
  have HW3 := Lib.hid hw3
  have HS3 := Lib.hid (show Stay (fun _ => False) w w3 from stay_seal (X := fun k => w.heap.size ≤ k) ((HS2.out.mono (fun _ x => x.elim)).trans hs3) (fun k hk => hk))
  clear hw3 hs3 HW2 HS2 hT0
  gi_wp2_with (refine ⟨trivial, ?_⟩; gi_at_call 62; refine (chunk_any _ _ p hp hpm ⟨_, _, _, rfl⟩ _).mono ?_; rintro e w' ⟨rfl, rfl⟩)
  obtain ⟨B, hB⟩ : ∃ B, B = w3.heap.size := ⟨_, rfl⟩
  obtain ⟨w4, hw4⟩ : ∃ w4, w3.alloc (.cells #[.pointer (some ⟨w.heap.size, 0, none⟩)] 118) = w4 := ⟨_, rfl⟩
  have hz4 : w4.heap.size = B + 1 := by subst hw4; simp [hB]
  obtain ⟨w6, hw6⟩ : ∃ w6, (w4.alloc (.cells #[.slice (some ⟨g, o, none⟩) L.length c] 22)).alloc (.cells #[.int .i64 (p : Int)] 3) = w6 := ⟨_, rfl⟩
  have hz6 : w6.heap.size = B + 1 + 1 + 1 := by subst hw6; simp [hz4]
  have B8 : Boxed w6 B 118 (.pointer (some ⟨w.heap.size, 0, none⟩)) := by
    subst hw6; subst hw4; subst hB
    exact ((Boxed.new w3 _ _).alloc _).alloc _
  have B1 : Boxed w6 (B + 1) 22 (.slice (some ⟨g, o, none⟩) L.length c) := by
    subst hw6
    have := Boxed.new w4 22 (.slice (some ⟨g, o, none⟩) L.length c)
    rw [hz4] at this
    exact this.alloc _
  have B2 : Boxed w6 (B + 1 + 1) 3 (.int .i64 (p : Int)) := by
    subst hw6
    have := Boxed.new (w4.alloc (.cells #[.slice (some ⟨g, o, none⟩) L.length c] 22)) 3 (.int .i64 (p : Int))
    rw [World.size_alloc, hz4] at this
    exact this
  have S36 : Stay (fun _ => False) w3 w6 := by
    subst hw6; subst hw4
    exact ((Stay.alloc _ _).trans (Stay.alloc _ _)).trans (Stay.alloc _ _)
  have hzw := HS3.out.size
  have HS6 := Lib.hid (HS3.out.trans S36)
  obtain ⟨X, hX⟩ : ∃ X : Nat → Prop, X = fun k => w.heap.size ≤ k ∧ k ≠ B ∧ k ≠ B + 1 ∧ k ≠ B + 1 + 1 := ⟨_, rfl⟩
  have HXE := Lib.hid (show ∀ k, X k → w.heap.size ≤ k ∧ k ≠ B ∧ k ≠ B + 1 ∧ k ≠ B + 1 + 1 by intro k h; rw [hX] at h; exact h)
  have HXI := Lib.hid (show ∀ k, w.heap.size ≤ k → k ≠ B → k ≠ B + 1 → k ≠ B + 1 + 1 → X k by intro k h1 h2 h3 h4; rw [hX]; exact ⟨h1, h2, h3, h4⟩)
  clear hX
  have HW6 := Lib.hid (show WrAt X w6 w.heap.size T0 from (HW3.out.tight.mono (fun k hk => HXI.out k hk.1 (by have := hk.2; omega) (by have := hk.2; omega) (by have := hk.2; omega))).stay0 S36)
  have HLH := Lib.hid (HX.out.stay0 HS6.out)
  have HFW := Lib.hid (HF.out.stay0 HS6.out)
  have HBW := Lib.hid (show w.heap.size ≤ B by omega)
  have hbw := HBW.out
  rw [← hB, hw4, hw6]
  clear hw4 hw6 S36 HW3 hB
  refine wpIn_rangeFunc_ownG rfl (by omega) (gf := 105) (lb := #[.pointer (some ⟨B + 1, 0, none⟩), .pointer (some ⟨B + 1 + 1, 0, none⟩)]) rfl trivial (enters_of Tryz.func105 (by kernel_rfl) rfl)
    (S := fun ys : List (Fin (cN L.length p)) => ys.map Fin.val = List.range (cN L.length p)) (Sp := fun pre => ∃ k, k ≤ cN L.length p ∧ pre.map Fin.val = List.range k) (N := cN L.length p) (encs := fun k => #[partV g o L.length p k.val])
    (Kp := fun W W' => W'.heap[B + 1]? = W.heap[B + 1]? ∧ W'.heap[B + 1 + 1]? = W.heap[B + 1 + 1]?) (w0 := w6)
    (fun l' J Jx W hW hJ hJx hY h0 => chunk1_in l' (B + 1) (B + 1 + 1) L.length c p g o hcc hcm hp hpm J Jx (fun pre wx hj => hJ _ _ _ none hj ⟨rfl, rfl, rfl, Nat.le_refl _, fun _ _ _ => rfl⟩ (fun r e => by cases e)) hY W
      ((hW.block _ B1.lt).trans B1) ((hW.block _ B2.lt).trans B2) h0)
    (fun h k => ⟨k.1.trans h.1, k.2.trans h.2⟩)
    (fun W l' o o' hl' hW _ _ => ⟨World.putObj_heap_other (by omega), World.putObj_heap_other (by omega)⟩)
    (Below.refl _ _) (fun _ => rfl)
    (fun pre W => WrAt X W w.heap.size (T0 ++ pre.flatMap (fun k => headB L p k.val)) ∧ Stay X w6 W)
    (fun _ _ _ => False)
    ?ownI (fun _ _ _ _ _ hs _ _ => hs) ?start
    (fun x => { tmps := #[.slice (some ⟨g, o, none⟩) L.length c, .int .i64 (p : Int), .pointer (some ⟨pf, 0, none⟩), undef, undef, undef, .slice none 0 0, .int .i64 (cN L.length p : Nat), .pointer (some ⟨B, 0, none⟩), partV g o L.length p x.val,
      .slice (some ⟨g, o, none⟩) L.length c, .int .i64 (L.length : Int), .int .i64 (p : Int), .int .i64 ((L.length : Int) + p), .int .i64 ((L.length : Int) + p - 1), .int .i64 (p : Int), .int .i64 (cN L.length p : Nat), .pointer (some ⟨w.heap.size, 0, none⟩),
      .slice (some ⟨g, o, none⟩) L.length c, .int .i64 (L.length : Int), .int .u64 (L.length : Int), .pointer (some ⟨w.heap.size, 0, none⟩), .int .i64 (cN L.length p : Nat), .int .u64 (cN L.length p : Nat), .pointer (some ⟨w.heap.size, 0, none⟩), .slice (some ⟨g, o, none⟩) L.length c, .int .i64 (p : Int),
      .func (.func 105) #[] #[.pointer (some ⟨B + 1, 0, none⟩), .pointer (some ⟨B + 1 + 1, 0, none⟩)], partV g o L.length p x.val,
      undef, undef, undef, undef, undef, undef, undef, undef, undef, undef, undef, undef, undef, undef, undef, undef, undef, undef, undef, undef, undef, undef, undef, undef], defers := [] }) ?assign ?body ?done ?stop
  case ownI =>
    rintro pre A C row ⟨hw, hS⟩ hg hr
    have hs : Stay (fun k => w6.heap.size ≤ k) A C := Stay.grown hg (fun k e => (hr k e).1)
    exact ⟨wr_kept hw hg (fun r e => (hr r e).2), (hS.mono (fun k hk => hk)).trans (hs.mono (fun k hk => HXI.out k (by omega) (by omega) (by omega) (by omega)))⟩
  case start => exact ⟨by simpa using HW6.out, Stay.refl _ _⟩
  case assign =>
    intro l' x W K hK
    gi_wp2
    exact hK
  case body =>
    rintro l' pre ⟨k, hk⟩ W ⟨hw, hS⟩ hlen
    obtain ⟨Z, hwz, hZX, hZc⟩ := wr_cells hw
    have hkn := (cN_lt hp).1 hk
    have d8 := Boxed.cell (t := 118) ((hS.block _ B8.lt (fun h => (HXE.out _ h).2.1 rfl)).trans B8)
    have hm0 : 1 ≤ min p (L.length - k * p) := by omega
    have hsl := EnS.part (HLH.out.stay hS (fun j hj h => by have h1 := (HXE.out j h).1; have hj' : g = j := (by simpa [Value.ownBlock] using hj); omega)) hp hkn
    obtain ⟨ch, hch⟩ : ∃ ch, ch = chunk L p k := ⟨_, rfl⟩
    have hcl2 : ch.length = min p (L.length - k * p) := by rw [hch]; exact length_chunk L p k
    obtain ⟨e0, he0, hk0⟩ := at_of (L := ch) (i := 0) (by omega)
    have HKY := Lib.hid (show e0.k = keyAt L (k * p) by rw [← hk0, hch]; exact chunk_key hp hkn)
    rw [← hch] at hsl
    have HHB := Lib.hid (show headB L p k = bytesB e0.k ++ bytesB (partB ch) by rw [HKY.out, hch]; rfl)
    unfold partV at hsl ⊢
    rw [← hcl2] at hsl hm0 ⊢
    obtain ⟨o', ho'⟩ : ∃ o', o' = o + k * p * 3 := ⟨_, rfl⟩
    rw [← ho'] at hsl ⊢
    have HSL := Lib.hid hsl
    obtain ⟨g2, o2, e2, _, hcc2⟩ := hsl.at (by omega)
    cases e2
    have c0 := (hcc2 0 e0 he0).1
    rw [Nat.zero_mul, Nat.add_zero] at c0
    have hcm2 : (ch.length : Int) ≤ 1000000 := by omega
    have hm1 : (1 : Int) ≤ ch.length := by omega
    have HCZ := Lib.hid (show sizeL ch ≤ 1000000000 by rw [hch]; exact Nat.le_trans (size_chunk _ _ _) hz)
    have HPC := Lib.hid (show (partB ch).length ≤ 1000020000 by rw [hch]; exact HPL.out k)
    clear hcc2 hch hk0 he0 hcl2 ho' hsl
    obtain ⟨R, hR⟩ : ∃ R, R = T0 ++ pre.flatMap (fun k => headB L p k.val) := ⟨_, rfl⟩
    have HRL := Lib.hid (show R.length ≤ 4000000000000 by
      have h1 := HHL.out pre (by omega)
      have h2 := (len_spellB L.length).2
      have h3 := (len_spellB (cN L.length p)).2
      rw [hR, HT0.out, List.length_append, List.length_append]
      omega)
    have HKL := Lib.hid (show e0.k.length ≤ 1000000000 by rw [HKY.out]; exact Nat.le_trans (keyAt_le _ _) hz)
    have HCS := Lib.hid (show sizeL ch ≤ 1000000000 from HCZ.out)
    have HPB := Lib.hid (show (partB ch).length ≤ 1000020000 from HPC.out)
    rw [← hR] at hwz
    obtain ⟨Y, hY⟩ : ∃ Y : Nat → Prop, Y = fun j => Z j ∨ W.heap.size ≤ j := ⟨_, rfl⟩
    have HYE := Lib.hid (show ∀ j, Y j → Z j ∨ W.heap.size ≤ j by intro j h; rw [hY] at h; exact h)
    have HYI := Lib.hid (show ∀ j, Z j ∨ W.heap.size ≤ j → Y j by intro j h; rw [hY]; exact h)
    have hgW : ¬ Y g := fun h => by
      have h6 := HS6.out.size
      have h7 := hS.size
      rcases HYE.out g h with h | h
      · have := (HXE.out g (hZX g h)).1; omega
      · omega
    have HYX := Lib.hid (show ∀ j, Y j → X j by
      intro j h
      have h7 := hS.size
      rcases HYE.out j h with h | h
      · exact hZX j h
      · exact HXI.out j (by omega) (by omega) (by omega) (by omega))
    have H1 := Lib.hid (show ∀ W', Stay (fun _ => False) W W' → Calls Tryz.prog 63 #[.pointer (some ⟨w.heap.size, 0, none⟩), Me.strV e0.k] W' fun e w1 => e = .returned (.pointer (some ⟨w.heap.size, 0, none⟩)) ∧ WrAt Y w1 w.heap.size (R ++ bytesB e0.k) ∧ Stay Y W w1 from fun W' hW' =>
      (Pk.wtextY Y W' w.heap.size R e0.k ((hwz.mono (fun j hj => HYI.out j (.inl hj))).stay0 hW') (fun j hj => HYI.out j (.inr (Nat.le_trans hW'.size hj))) (by have := HRL.out; have := HKL.out; omega)).mono fun e w1 ⟨h1, h2, h3⟩ => ⟨h1, h2, (hW'.mono (fun _ x => x.elim)).trans h3⟩)
    have H2 := Lib.hid (show ∀ w1, Stay Y W w1 → Calls Tryz.prog 65 #[.slice (some ⟨g, o', none⟩) ch.length ch.length] w1 fun e w2 => ∃ v, e = .returned v ∧ Owns w1.heap.size w2 v (partB ch) ∧ Stay (fun _ => False) w1 w2 from fun w1 h1 =>
      layPart_any w1 _ ch (HSL.out.stay h1 (fun j hj h => by cases hj; exact hgW h)) (by omega) (by have := HCS.out; omega))
    have H3 := Lib.hid (show ∀ w1 w2 v2, WrAt Y w1 w.heap.size (R ++ bytesB e0.k) → Stay Y W w1 → Owns w1.heap.size w2 v2 (partB ch) → Stay (fun _ => False) w1 w2 → Calls Tryz.prog 64 #[.pointer (some ⟨w.heap.size, 0, none⟩), v2] w2 fun e w5 => e = .returned (.pointer (some ⟨w.heap.size, 0, none⟩)) ∧ WrAt X w5 w.heap.size (R ++ bytesB e0.k ++ bytesB (partB ch)) ∧ Stay Y W w5 from fun w1 w2 v2 h1 h2 h3 h4 => by
      obtain ⟨Z1, hz1, hzY, hz2⟩ := wr_cells h1
      have hl1 : ∀ j, Z1 j → j < w1.heap.size := fun j hj => by
        obtain ⟨_, _, _, h⟩ := hz2 j hj
        exact (Array.getElem?_eq_some_iff.1 h).1
      have hsz1 := h2.size
      have hsz2 := h4.size
      refine (Pk.wbytes_any Z1 w2 w.heap.size _ (partB ch) v2 (hz1.stay0 h4) h3.slc (fun _ j hj hz => by have := hl1 j hz; have := (h3.lt j hj).1; omega) (by have := HRL.out; have := HKL.out; have := HPB.out; have := (len_bytesB e0.k).2; rw [List.length_append]; omega)).mono ?_
      rintro e w5 ⟨h5, h6, h7⟩
      refine ⟨h5, h6.mono (fun j hj => HYX.out j ?_), (h2.trans (h4.mono (fun _ x => x.elim))).trans (h7.mono (fun j hj => hzY j hj))⟩
      rcases hj with hj | hj
      · exact hzY j hj
      · exact HYI.out j (.inr (by omega)))
    have HEND := Lib.hid (show T0 ++ (pre ++ [(⟨k, hk⟩ : Fin (cN L.length p))]).flatMap (fun k => headB L p k.val) = R ++ bytesB e0.k ++ bytesB (partB ch) by
      rw [hR, List.flatMap_append]
      simp [HHB.out])
    clear hR hY
    gi_wp2
    have hmx : Tryz.prog.follows .mixedOrders = true := by kernel_rfl
    gi_region_with_o (first
      | (refine ⟨trivial, ?_⟩
         gi_at_call 63
         refine (CallsIn.inRound l' (callsIn_wide.2 (H1.out _ Stay.drew))).mono ?_
         rintro e w1 ⟨rfl, hw1, hs1⟩
         have HW1 := Lib.hid hw1
         have HS1 := Lib.hid hs1
         clear hw1 hs1)
      | (refine ⟨trivial, ?_⟩
         gi_at_call 65
         refine (CallsIn.inRound l' (callsIn_wide.2 (H2.out w1 HS1.out))).mono ?_
         rintro e w2 ⟨v2, rfl, ho2, hs2⟩
         have HO2 := Lib.hid ho2
         have HS2 := Lib.hid hs2
         clear ho2 hs2)
      | (refine ⟨trivial, ?_⟩
         gi_at_call 64
         refine (CallsIn.inRound l' (callsIn_wide.2 (H3.out w1 w2 v2 HW1.out HS1.out HO2.out HS2.out))).mono ?_
         rintro e w5 ⟨rfl, hw5, hs5⟩
         have HW5 := Lib.hid hw5
         have HS5 := Lib.hid hs5
         clear hw5 hs5))
    all_goals gi_wp2
    all_goals
      have hz5 := HS5.out
      exact ⟨keeps_wr hZc (hz5.mono (fun j hj => HYE.out j hj)),
        ⟨hz5.block _ (by have := hS.size; omega) (fun h => (HXE.out _ (HYX.out _ h)).2.2.1 rfl), hz5.block _ (by have := hS.size; omega) (fun h => (HXE.out _ (HYX.out _ h)).2.2.2 rfl)⟩,
        by rw [HEND.out]; exact HW5.out, hS.trans (hz5.mono (fun j hj => HYX.out j hj))⟩
  case done =>
    rintro D ys W hD hys ⟨hw, hS⟩ hK
    have d8 := Boxed.cell (t := 118) ((hS.block _ B8.lt (fun h => (HXE.out _ h).2.1 rfl)).trans B8)
    have hyl : ys.length = cN L.length p := by have := congrArg List.length hys; rw [List.length_map, List.length_range] at this; exact this
    have hR : T0 ++ ys.flatMap (fun k => headB L p k.val) = T0 ++ hdN L p 0 (cN L.length p) := by
      rw [hdN_flat, ← hys, List.flatMap_map]
    obtain ⟨R, hRd⟩ : ∃ R, R = T0 ++ ys.flatMap (fun k => headB L p k.val) := ⟨_, rfl⟩
    have HRL := Lib.hid (show R.length ≤ 4000000000000 by
      have h1 := HHL.out ys (by omega)
      have h2 := (len_spellB L.length).2
      have h3 := (len_spellB (cN L.length p)).2
      rw [hRd, HT0.out, List.length_append, List.length_append]
      omega)
    rw [← hRd] at hw hR
    have HRR := Lib.hid (show R ++ bytesB (lastK L) ++ bytesB (Bo.encB 3 (filtB L q)) = textT L p q by
      rw [hR, HT0.out]; unfold textT tailT; simp only [List.append_assoc])
    obtain ⟨e0, he0, hk0⟩ := at_of (L := L) (i := L.length - 1) (by omega)
    have HKY := Lib.hid (show e0.k = lastK L from hk0.symm)
    have HKL := Lib.hid (show e0.k.length ≤ 1000000000 by rw [HKY.out]; exact Nat.le_trans (keyAt_le _ _) hz)
    have hLW := HLH.out.stay hS (fun j hj h => by have h1 := (HXE.out j h).1; have hj' : g = j := (by simpa [Value.ownBlock] using hj); omega)
    obtain ⟨g2, o2, e2, _, hcc2⟩ := hLW.at (by omega)
    cases e2
    have c0 := (hcc2 _ e0 he0).1
    obtain ⟨Z, hwz, hZX, hZc⟩ := wr_cells hw
    obtain ⟨Y, hY⟩ : ∃ Y : Nat → Prop, Y = fun j => Z j ∨ W.heap.size ≤ j := ⟨_, rfl⟩
    have HYE := Lib.hid (show ∀ j, Y j → Z j ∨ W.heap.size ≤ j by intro j h; rw [hY] at h; exact h)
    have HYI := Lib.hid (show ∀ j, Z j ∨ W.heap.size ≤ j → Y j by intro j h; rw [hY]; exact h)
    have HYX := Lib.hid (show ∀ j, Y j → X j by
      intro j h
      have h7 := hS.size
      rcases HYE.out j h with h | h
      · exact hZX j h
      · exact HXI.out j (by omega) (by omega) (by omega) (by omega))
    have hFW := HFW.out.stay hS (fun h => by have := (HXE.out _ h).1; have := HF.out.plt; omega) (fun h => by have := (HXE.out _ h).1; have := HF.out.glt; omega)
    have H1 := Lib.hid (show ∀ W', Stay (fun _ => False) W W' → Calls Tryz.prog 63 #[.pointer (some ⟨w.heap.size, 0, none⟩), Me.strV e0.k] W' fun e w1 => e = .returned (.pointer (some ⟨w.heap.size, 0, none⟩)) ∧ WrAt Y w1 w.heap.size (R ++ bytesB e0.k) ∧ Stay Y W w1 from fun W' hW' =>
      (Pk.wtextY Y W' w.heap.size R e0.k ((hwz.mono (fun j hj => HYI.out j (.inl hj))).stay0 hW') (fun j hj => HYI.out j (.inr (Nat.le_trans hW'.size hj))) (by have := HRL.out; have := HKL.out; omega)).mono fun e w1 ⟨h1, h2, h3⟩ => ⟨h1, h2, (hW'.mono (fun _ x => x.elim)).trans h3⟩)
    have H2 := Lib.hid (show ∀ w1, Stay Y W w1 → Calls Tryz.prog 66 #[.pointer (some ⟨pf, 0, none⟩)] w1 fun e w2 => ∃ v, e = .returned v ∧ Owns w1.heap.size w2 v (Bo.encB 3 (filtB L q)) ∧ Stay (fun _ => False) w1 w2 from fun w1 h1 =>
      Bo.encode_any w1 pf gf 3 (filtB L q) (hFW.stay h1 (fun h => by have := (HXE.out _ (HYX.out _ h)).1; have := HF.out.plt; omega) (fun h => by have := (HXE.out _ (HYX.out _ h)).1; have := HF.out.glt; omega)))
    have HEL := Lib.hid (show (Bo.encB 3 (filtB L q)).length ≤ 1000000 by
      have h1 := len_encB (B := filtB L q) (by rw [filtB_len]; exact hqn) 3
      rw [filtB_len] at h1
      omega)
    have H3 := Lib.hid (show ∀ w1 w2 v2, WrAt Y w1 w.heap.size (R ++ bytesB e0.k) → Stay Y W w1 → Owns w1.heap.size w2 v2 (Bo.encB 3 (filtB L q)) → Stay (fun _ => False) w1 w2 → Calls Tryz.prog 64 #[.pointer (some ⟨w.heap.size, 0, none⟩), v2] w2 fun e w5 => e = .returned (.pointer (some ⟨w.heap.size, 0, none⟩)) ∧ WrAt X w5 w.heap.size (textT L p q) ∧ Stay Y W w5 from fun w1 w2 v2 h1 h2 h3 h4 => by
      obtain ⟨Z1, hz1, hzY, hz2⟩ := wr_cells h1
      have hl1 : ∀ j, Z1 j → j < w1.heap.size := fun j hj => by
        obtain ⟨_, _, _, h⟩ := hz2 j hj
        exact (Array.getElem?_eq_some_iff.1 h).1
      have hsz1 := h2.size
      have hsz2 := h4.size
      refine (Pk.wbytes_any Z1 w2 w.heap.size _ (Bo.encB 3 (filtB L q)) v2 (hz1.stay0 h4) h3.slc (fun _ j hj hz => by have := hl1 j hz; have := (h3.lt j hj).1; omega) (by have := HRL.out; have := HKL.out; have := HEL.out; have := (len_bytesB e0.k).2; rw [List.length_append]; omega)).mono ?_
      rintro e w5 ⟨h5, h6, h7⟩
      rw [← HRR.out, ← HKY.out]
      refine ⟨h5, h6.mono (fun j hj => HYX.out j ?_), (h2.trans (h4.mono (fun _ x => x.elim))).trans (h7.mono (fun j hj => hzY j hj))⟩
      rcases hj with hj | hj
      · exact hzY j hj
      · exact HYI.out j (.inr (by omega)))
    have HTL := Lib.hid (show (textT L p q).length ≤ 5000000000000 by
      have := HRL.out
      have := HKL.out
      have := HEL.out
      have := (len_bytesB e0.k).2
      have := (len_bytesB (Bo.encB 3 (filtB L q))).2
      rw [← HRR.out, ← HKY.out, List.length_append, List.length_append]
      omega)
    have HB8 := Lib.hid (show ∀ W5, Stay Y W W5 → W5.cell? ⟨B, 0, none⟩ = some (.pointer (some ⟨w.heap.size, 0, none⟩)) from fun W5 h => h.cell d8 (fun h => (HXE.out _ (HYX.out _ h)).2.1 rfl))
    obtain ⟨T, hT⟩ : ∃ T, T = textT L p q := ⟨_, rfl⟩
    have HTT := Lib.hid (show tabB L p q = Hn.sealB T by rw [hT]; rfl)
    rw [← hT] at H3 HTL
    have hl1 : (1 : Int) ≤ L.length := by omega
    have HS0 := Lib.hid (show ∀ W7, Stay (fun k => w.heap.size ≤ k) W W7 → Stay (fun _ => False) w W7 from fun W7 h => stay_seal (X := fun k => w.heap.size ≤ k) ((HS6.out.mono (fun _ x => x.elim)).trans ((hS.mono (fun k hk => (HXE.out k hk).1)).trans h)) (fun k hk => hk))
    have HKD := Lib.hid (show ∀ W7, Stay Y W W7 → ∀ W8, Stay (fun _ => False) W7 W8 → W8.heap[D]? = some (.deferred (some [])) from fun W7 h7 W8 h8 =>
      (h8.block _ (by have := (Array.getElem?_eq_some_iff.1 hK).1; have := h7.size; omega) (fun x => x)).trans ((h7.block _ (Array.getElem?_eq_some_iff.1 hK).1 (fun h => by
        rcases HYE.out _ h with h | h
        · obtain ⟨_, _, _, h9⟩ := hZc _ h
          rw [hK] at h9
          cases h9
        · have := (Array.getElem?_eq_some_iff.1 hK).1; omega)).trans hK))
    clear hcc2 hk0 he0 hT hY hR hRd hys hK
    obtain ⟨n1, hn1⟩ : ∃ n1, L.length = n1 + 1 := ⟨L.length - 1, by omega⟩
    have hn1m : (n1 : Int) ≤ 1000000 := by omega
    rw [hn1, Nat.add_sub_cancel] at c0
    rw [hn1]
    have hwn : IntKind.i64.wrap (n1 : Int) = (n1 : Int) := IntWalk.i64_in _ (by omega)
    clear hn1 hl1 hcm
    gi_wp2
    have hmx : Tryz.prog.follows .mixedOrders = true := by kernel_rfl
    obtain ⟨PP, hPP⟩ : ∃ PP : Act → World → Prop, PP = fun a' W' => ∃ u7 u10 u11 u12 u13 u14 u15 u16 u17 u18 u19 u20 u21 u22 u23 u24 u25 u26 u27 u38 u39 u40 u41 u42 u43 u44 u45 u46 u47 u48 u49 : Value, a' = { tmps := #[.slice (some ⟨g, o, none⟩) (n1 + 1) c, .int .i64 (p : Int), .pointer (some ⟨pf, 0, none⟩), undef, undef, undef, .slice none 0 0, u7, .pointer (some ⟨B, 0, none⟩), undef, u10, u11, u12, u13, u14, u15, u16, u17, u18, u19, u20, u21, u22, u23, u24, u25, u26, u27, undef, undef, undef, undef, undef, undef, undef, undef, undef, undef, u38, u39, u40, u41, u42, u43, u44, u45, u46, u47, u48, u49, undef, undef, undef], defers := [{ target := Target.collected D, args := #[] }] } ∧ Hid (WrAt X W' w.heap.size T) ∧ Hid (Stay Y W W') := ⟨_, rfl⟩
    have HPO := Lib.hid (show ∀ a' W', PP a' W' → ∃ u7 u10 u11 u12 u13 u14 u15 u16 u17 u18 u19 u20 u21 u22 u23 u24 u25 u26 u27 u38 u39 u40 u41 u42 u43 u44 u45 u46 u47 u48 u49 : Value, a' = { tmps := #[.slice (some ⟨g, o, none⟩) (n1 + 1) c, .int .i64 (p : Int), .pointer (some ⟨pf, 0, none⟩), undef, undef, undef, .slice none 0 0, u7, .pointer (some ⟨B, 0, none⟩), undef, u10, u11, u12, u13, u14, u15, u16, u17, u18, u19, u20, u21, u22, u23, u24, u25, u26, u27, undef, undef, undef, undef, undef, undef, undef, undef, undef, undef, u38, u39, u40, u41, u42, u43, u44, u45, u46, u47, u48, u49, undef, undef, undef], defers := [{ target := Target.collected D, args := #[] }] } ∧ Hid (WrAt X W' w.heap.size T) ∧ Hid (Stay Y W W') by intro a' W' h; rw [hPP] at h; exact h)
    have HPI := Lib.hid (show ∀ (u7 u10 u11 u12 u13 u14 u15 u16 u17 u18 u19 u20 u21 u22 u23 u24 u25 u26 u27 u38 u39 u40 u41 u42 u43 u44 u45 u46 u47 u48 u49 : Value) W', Hid (WrAt X W' w.heap.size T) → Hid (Stay Y W W') → PP { tmps := #[.slice (some ⟨g, o, none⟩) (n1 + 1) c, .int .i64 (p : Int), .pointer (some ⟨pf, 0, none⟩), undef, undef, undef, .slice none 0 0, u7, .pointer (some ⟨B, 0, none⟩), undef, u10, u11, u12, u13, u14, u15, u16, u17, u18, u19, u20, u21, u22, u23, u24, u25, u26, u27, undef, undef, undef, undef, undef, undef, undef, undef, undef, undef, u38, u39, u40, u41, u42, u43, u44, u45, u46, u47, u48, u49, undef, undef, undef], defers := [{ target := Target.collected D, args := #[] }] } W' by
      intro u7 u10 u11 u12 u13 u14 u15 u16 u17 u18 u19 u20 u21 u22 u23 u24 u25 u26 u27 u38 u39 u40 u41 u42 u43 u44 u45 u46 u47 u48 u49 W' h1 h2
      rw [hPP]
      exact ⟨u7, u10, u11, u12, u13, u14, u15, u16, u17, u18, u19, u20, u21, u22, u23, u24, u25, u26, u27, u38, u39, u40, u41, u42, u43, u44, u45, u46, u47, u48, u49, rfl, h1, h2⟩)
    clear hPP
    refine Code.wpIn_mono (Q := fun e a' W' => match e with
      | .normal => PP a' W'
      | _ => False) ?next ?region
    case region =>
     gi_region_with (first
       | (refine ⟨trivial, ?_⟩
          gi_at_call 63
          refine (callsIn_wide.2 (H1.out _ Stay.drew)).mono ?_
          rintro e w1 ⟨rfl, hw1, hs1⟩
          have HW1 := Lib.hid hw1
          have HS1 := Lib.hid hs1
          clear hw1 hs1)
       | (refine ⟨trivial, ?_⟩
          gi_at_call 66
          refine (callsIn_wide.2 (H2.out w1 HS1.out)).mono ?_
          rintro e w2 ⟨v2, rfl, ho2, hs2⟩
          have HO2 := Lib.hid ho2
          have HS2 := Lib.hid hs2
          clear ho2 hs2)
       | (refine ⟨trivial, ?_⟩
          gi_at_call 64
          refine (callsIn_wide.2 (H3.out w1 w2 v2 HW1.out HS1.out HO2.out HS2.out)).mono ?_
          rintro e w5 ⟨rfl, hw5, hs5⟩
          have HW5 := Lib.hid hw5
          have HS5 := Lib.hid hs5
          have d85 := HB8.out w5 hs5
          clear hw5 hs5))
     all_goals exact HPI.out _ _ _ _ _ _ _ _ _ _ _ _ _ _ _ _ _ _ _ _ _ _ _ _ _ _ _ _ _ _ _ _ HW5 HS5
    intro e a' W' h
    cases e with
    | normal =>
      obtain ⟨u7, u10, u11, u12, u13, u14, u15, u16, u17, u18, u19, u20, u21, u22, u23, u24, u25, u26, u27, u38, u39, u40, u41, u42, u43, u44, u45, u46, u47, u48, u49, rfl, HW5, HS5⟩ := HPO.out _ _ h
      have d85 := HB8.out W' HS5.out
      gi_wp2_with fail
      refine ⟨trivial, ?_⟩
      refine (callsIn_wide.2 (Pk.done_any X W' w.heap.size T HW5.out (by have := HTL.out; omega))).mono ?_
      rintro e w6' ⟨v6, rfl, ho6, hs6⟩
      have HSL6 := Lib.hid ho6.slc
      have HS6' := Lib.hid hs6
      obtain ⟨a6, c6, rfl⟩ := ho6.form
      clear ho6 hs6
      gi_wp2_with fail
      refine ⟨trivial, ?_⟩
      refine (callsIn_wide.2 (Hn.seal_any _ T w6' HSL6.out (by have := HTL.out; omega))).mono ?_
      rintro e w7 ⟨v7, rfl, ho7, hs7⟩
      have HKF := Lib.hid (HKD.out W' HS5.out w7 (HS6'.out.trans hs7))
      have HSF := Lib.hid (HS0.out w7 ((HS5.out.mono (fun j hj => (HXE.out j (HYX.out j hj)).1)).trans ((HS6'.out.trans hs7).mono (fun _ x => x.elim))))
      have HO7 := Lib.hid ho7
      have HZ7 := Lib.hid (show w.heap.size ≤ w6'.heap.size by have := HS5.out.size; have := HS6'.out.size; have := hS.size; omega)
      have HDW := Lib.hid (show ∀ j, v7.ownBlock = some j → j ≠ D by
        intro j hj hd
        subst hd
        have h1 := (Array.getElem?_eq_some_iff.1 (HKD.out W' HS5.out w6' HS6'.out)).1
        have := (ho7.lt j hj).1
        omega)
      clear ho7 hs7
      gi_wp2
      refine ⟨by simp, .inl ⟨_, _, rfl, run_takeDeferred HKF.out, ?_⟩⟩
      have hs8 : Stay (fun q => q = D) w7 (w7.putObj D (.deferred none)) := Stay.grown (grownBy_putObj' _ D _) (fun q e => by cases e; rfl)
      refine ⟨_, results_tmp rfl _ _ _, v7, rfl, ?_, ?_⟩
      · rw [HTT.out]
        exact (HO7.out.base (base' := w.heap.size) (fun j hj => Nat.le_trans HZ7.out (HO7.out.lt j hj).1)).stay hs8 (fun j hj h => HDW.out j hj h)
      · exact stay_seal (X := fun k => w.heap.size ≤ k) ((HSF.out.mono (fun _ x => x.elim)).trans (hs8.mono (fun k hk => by have hk' : k = D := hk; omega))) (fun k hk => hk)
    | _ => exact h.elim
  case stop =>
    rintro D cd pre W _ _ h _
    exact h.elim
end Go.Proofs.YteogdihacohkfaaGreatDoor.Tb
