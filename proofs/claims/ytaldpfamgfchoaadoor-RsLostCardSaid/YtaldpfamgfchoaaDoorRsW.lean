/-
  rs, the document's: square; what Invert's rows are at first.
-/
import Derived.Test.YtaldpfamgfchoaaDoorRsV
namespace Go.Proofs.YtaldpfamgfchoaaDoor.Rs
open Go.RowKit Gf
set_option maxRecDepth 100000

set_option maxHeartbeats 1000000 in
theorem rsquare_any (w : World) (x : Value) (n : Nat) (L : Nat → Nat) (M : Nat → Nat → UInt8) (hx : SM (fun _ => False) w x n L M) :
    Calls Tryd.prog 41 #[x] w fun e w' => e = .returned (.bool (sqB n L)) ∧ Stay (fun _ => False) w w' := by
  obtain ⟨a0, c, rfl, hnc, hc⟩ := hx.form
  have q0 : (n : Int) ≤ 9223372036854775807 := by omega
  have HX := Lib.hid hx
  clear hx hnc hc
  go_enter Tryd.func41, Tryd.ntmps41
  go_wp2
  go_loopw [3] (fun i wr => ∃ j : Nat, j ≤ n ∧ i = .int .i64 (j : Int) ∧ (∀ l, l < j → L l = n) ∧ Stay (fun _ => False) w wr) (fun i _ => n - (intOf i).toNat)
  case atStart => exact ⟨0, by omega, rfl, fun l hl => by omega, Stay.refl _ _⟩
  case round =>
    obtain ⟨j, hj, rfl, he, hst⟩ := hrel
    by_cases hlt : j < n
    · have q3 : (j : Int) < (n : Int) := by omega
      obtain ⟨b, o, ak, ck, rfl, cR, _, _⟩ := HX.out.row hlt
      have k1 := (cR.stay hst).now
      have HST := Lib.hid hst
      have HE := Lib.hid he
      have HJ := Lib.hid hlt
      clear hst he hlt cR
      by_cases hne : L j = n
      · have q4 : ((L j : Int) != (n : Int)) = false := by rw [hne]; simp
        have HNE := Lib.hid hne
        obtain ⟨lj, hlj⟩ : ∃ lj, lj = L j := ⟨_, rfl⟩
        rw [← hlj] at k1 q4
        clear hne hlj
        go_wp2
        have hj := HJ.out
        first
          | exact ⟨⟨j + 1, by omega, by go_num, fun l hl => by
              by_cases e : l = j
              · rw [e]; exact HNE.out
              · exact HE.out l (by omega), HST.out⟩, by simp [intOf]; omega⟩
          | (go_round
             case rel => exact ⟨j + 1, by omega, by go_num, fun l hl => by
              by_cases e : l = j
              · rw [e]; exact HNE.out
              · exact HE.out l (by omega), HST.out⟩
             case measure => simp [intOf]; omega)
      · have q4 : ((L j : Int) != (n : Int)) = true := by simp; omega
        have HNE := Lib.hid hne
        obtain ⟨lj, hlj⟩ : ∃ lj, lj = L j := ⟨_, rfl⟩
        rw [← hlj] at k1 q4
        clear hne hlj
        go_wp2
        go_ret
        refine ⟨?_, HST.out⟩
        have hj := HJ.out
        cases hev : sqB n L with
        | false => rfl
        | true => exact absurd ((sqB_true.1 hev).2.2 j hj) HNE.out
    · obtain rfl : j = n := by omega
      have HE := Lib.hid he
      have HST := Lib.hid hst
      clear hst he
      by_cases h0 : 0 < j
      · have q5 : (0 : Int) < (j : Int) := by omega
        by_cases h1 : j ≤ 32
        · have q6 : (j : Int) ≤ 32 := by omega
          have HS := Lib.hid (show sqB j L = true from sqB_true.2 ⟨h0, h1, HE.out⟩)
          clear h0 h1
          go_wp2
          go_ret
          exact ⟨by rw [HS.out]; rfl, HST.out⟩
        · have q6 : ¬ (j : Int) ≤ 32 := by omega
          have HS := Lib.hid (show sqB j L = false by cases hev : sqB j L with
            | false => rfl
            | true => exact absurd (sqB_true.1 hev).2.1 h1)
          clear h0 h1
          go_wp2
          go_ret
          exact ⟨by rw [HS.out]; rfl, HST.out⟩
      · have q5 : ¬ (0 : Int) < (j : Int) := by omega
        have HS := Lib.hid (show sqB j L = false by cases hev : sqB j L with
          | false => rfl
          | true => exact absurd (sqB_true.1 hev).1 h0)
        clear h0
        go_wp2
        go_ret
        exact ⟨by rw [HS.out]; rfl, HST.out⟩

section
variable {X : Nat → Prop} {base : Nat} {w w' : World} {n g c : Nat} {L L' : Nat → Nat} {M M' : Nat → Nat → UInt8}
theorem AL.at {v : Value} (h : AL X base w v n L M) (h0 : 0 < n) : ∃ g c, v = .slice (some ⟨g, 0, none⟩) n c ∧ n ≤ c := by
  obtain ⟨val, h1, _⟩ := h
  rcases h1.2 with ⟨e, hn⟩ | ⟨g, cap, cur, e, _, _, h2, h3, _⟩
  · omega
  · exact ⟨g, cap, e, h2⟩
theorem own_eq {g n c j : Nat} (e : (Value.slice (some ⟨g, 0, none⟩) n c).ownBlock = some j) : j = g := by simpa [Value.ownBlock] using e.symm
/-- One row of a list. -/
theorem AL.row (h : AL X base w (.slice (some ⟨g, 0, none⟩) n c) n L M) {k : Nat} (hk : k < n) :
    ∃ ak ck, w.cell? ⟨g, k, none⟩ = some (.slice ak (L k) ck) ∧ SSlc (fun i => X i ∨ i = g) w (.slice ak (L k) ck) (lf (L k) (M k)) ∧ L k ≤ ck ∧ ck ≤ 9223372036854775807 := by
  obtain ⟨val, h1, _, h3⟩ := h
  have hcell := World.ownsRow.cells (g := g) h1 rfl k (val k) (cellsV_get val hk)
  rw [add_at, Nat.zero_add] at hcell
  have hs : SSlc (fun i => X i ∨ i = g) w (val k) (lf (L k) (M k)) := (h3 k hk).2.mono (fun j e => by
    rcases e with e | e
    · exact .inl e
    · exact .inr (by rw [e]; rfl))
  obtain ⟨ak, ck, e, h7, h8⟩ := hs.form
  rw [length_lf] at e h7
  rw [e] at hcell hs
  exact ⟨ak, ck, hcell, hs, h7, h8⟩
/-- A row of a list changed for another one. -/
theorem AL.set (h : AL X base w (.slice (some ⟨g, 0, none⟩) n c) n L M) {i : Nat} (hi : i < n) {a1 : Option Addr} {l1 c1 : Nat} (hrow : SSlc (fun j => X j ∨ (Value.slice (some ⟨g, 0, none⟩) n c).ownBlock = some j) w (.slice a1 l1 c1) (lf (L' i) (M' i)))
    (hL : ∀ k, k < n → k ≠ i → L' k = L k) (hM : ∀ k, k < n → k ≠ i → M' k = M k) :
    ∃ w', (storeVar 38 ⟨g, i, none⟩ (.slice a1 l1 c1)).run Tryd.prog w = .ok () w' ∧ AL X base w' (.slice (some ⟨g, 0, none⟩) n c) n L' M' ∧ Stay (· = g) w w' := by
  obtain ⟨val, h1, h2, h3⟩ := h
  rcases h1.2 with ⟨e, hn⟩ | ⟨g', cap, cur, e, hb, hg, hnc, hcm, hcs, htk⟩
  · cases e
  · cases e
    rw [Nat.mul_one] at hcs htk
    have hlen : i < cur.toList.length := by simp; omega
    have hst := run_storeCells_at Tryd.prog g i 38 [.slice a1 l1 c1] 0 cur w hg (by simp at hlen ⊢; omega) (fun u hu => by
      rw [List.mem_singleton.1 hu]
      rfl)
    have hs : (sizeOf 38).run Tryd.prog w = .ok 1 w := by kernel_rfl
    have hsp : splice cur.toList i [.slice a1 l1 c1] = cur.toList.set i (.slice a1 l1 c1) := splice_one _ _ _ hlen
    have hrun : (storeVar 38 ⟨g, i, none⟩ (.slice a1 l1 c1)).run Tryd.prog w = .ok () (w.setRow g (splice cur.toList i [.slice a1 l1 c1]).toArray) := by
      simp [storeVar, Value.cells, Sem.run_bind, hs, hst, splice]
    have hsw : Stay (· = g) w (w.setRow g (splice cur.toList i [.slice a1 l1 c1]).toArray) := Stay.setRow w g _ rfl
    refine ⟨_, hrun, ⟨putV val i (.slice a1 l1 c1), ⟨?_, .inr ⟨g, c, (cur.toList.set i (.slice a1 l1 c1)).toArray, rfl, hb, ?_, hnc, hcm, ?_, ?_⟩⟩, h2, fun k hk => ?_⟩, hsw⟩
    · rw [length_cellsV, Nat.mul_one]
    · rw [setRow_heap w g _ _ _ _ hg, hsp]
    · simpa using hcs
    · rw [Nat.mul_one]
      show (cur.toList.set i _).take n = _
      rw [List.take_set, htk, cellsV_put val hi]
    · by_cases e : k = i
      · subst e
        have : putV val k (.slice a1 l1 c1) k = .slice a1 l1 c1 := by unfold putV; rw [if_pos rfl]
        rw [this]
        exact ⟨⟨_, _, _, rfl⟩, hrow.stay (hsw.mono (fun j e => .inr (by rw [e]; rfl)))⟩
      · have : putV val i (.slice a1 l1 c1) k = val k := by unfold putV; rw [if_neg e]
        rw [this, hL k hk e, hM k hk e]
        exact ⟨(h3 k hk).1, (h3 k hk).2.stay (hsw.mono (fun j e => .inr (by rw [e]; rfl)))⟩
theorem store_al {ops : Array Oper} {rest : List Oper} {o : Oper} {a : Act} {Q : Exit → Act → World → Prop} (hgd : o.guard = none) (x y : Operand) (ho : o.op = .store 38 x y) (i : Nat) {a1 : Option Addr} {l1 c1 : Nat}
    (hx : a.eval x = .pointer (some ⟨g, i, none⟩)) (hy : a.eval y = .slice a1 l1 c1) (h : AL X base w (.slice (some ⟨g, 0, none⟩) n c) n L M) (hi : i < n) (hrow : SSlc (fun j => X j ∨ (Value.slice (some ⟨g, 0, none⟩) n c).ownBlock = some j) w (.slice a1 l1 c1) (lf (L' i) (M' i)))
    (hL : ∀ k, k < n → k ≠ i → L' k = L k) (hM : ∀ k, k < n → k ≠ i → M' k = M k)
    (hn : ∀ w', AL X base w' (.slice (some ⟨g, 0, none⟩) n c) n L' M' → Stay (· = g) w w' → wpList Tryd.prog ops Q rest (a.put o.dst undef) w') : wpList Tryd.prog ops Q (o :: rest) a w :=
  wpList_plain hgd fun _ hK => by
    obtain ⟨w', hr, h1, h2⟩ := h.set hi hrow hL hM
    unfold Oper.wp execOp
    simp only [ho, hx, hy, Instr.storeAt, Instr.sureAddr, Sem.run_bind, Sem.run_pure, Result.andThen_ok, hr]
    exact hK _ _ (hn w' h1 h2)
end
/-- A byte appended, as one step of a region that draws. -/
theorem step_append_1 {ops : Array Oper} {o : Oper} {a : Act} {w : World} {K : Act → World → Prop} {Q : Exit → Act → World → Prop} {E : Prop} (hgd : o.guard = none) (s x : Operand)
    (ho : o.op = .call { callee := .builtin .append, args := #[s, x], argTypes := #[38, 38] }) {base n : Nat} {v : Value} {f : Nat → UInt8} {x1 : Int} (hs : a.eval s = v) (hx : a.eval x = .slice (some ⟨w.heap.size, 0, none⟩) 1 1) (hown : Owns base w v (lf n f)) (hx1 : x1 = ((f n).toNat : Int)) (hb : base ≤ w.heap.size) (hn : n ≤ 140737488355327)
    (h : ∀ v' w', Owns base w' v' (lf (n + 1) f) → Stay (fun i => v.ownBlock = some i) w w' → (v'.ownBlock = v.ownBlock ∨ v'.ownBlock = some (w.heap.size + 1)) → K (a.put o.dst v') w') :
    if Region.wanted o (yielded ops a.tmps) = true then Oper.wp Tryd.prog o a (w.alloc (.cells #[.int .u8 x1] 5)) K Q else E := by
  have hw : Region.wanted o (yielded ops a.tmps) = true := by simp [Region.wanted, hgd]
  rw [if_pos hw]
  obtain ⟨v', w', hrun, h2, h3, h4⟩ := run_append_1 (w := w) o.type hown hx1 hb hn
  unfold Oper.wp execOp
  simp only [ho, resolve, invoke, builtin, Sem.run_bind, Sem.run_pure, Result.andThen_ok, List.map_toArray, List.map_cons, List.map_nil, hs, hx, hrun]
  exact h v' w' h2 h3 h4
end Go.Proofs.YtaldpfamgfchoaaDoor.Rs
