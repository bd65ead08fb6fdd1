import Derived.Test.YtljlfdhjolcnaaaGreatGaI
/-
  index: a table opened and held; a table made of entries.
-/
namespace Go.Proofs.YtljlfdhjolcnaaaGreat.Ix
open Go.RowKit Go.Maps Me Mg
open Pk (Owns Slc)
open Tb (TAt tabB)
set_option maxRecDepth 100000
set_option linter.unusedVariables false

/-- One table more. -/
def Im.add (I : Im) (q : Sh) : Im := { I with T := I.T ++ [q], hc := fun k => if k = q.s then 1 else I.hc k, hd := I.hd + 1 }
/-- What a table is that Open answered. -/
def Opnd (G : Prop) (w w1 : World) (t : Nat) (C : List (List En)) : Prop := ∀ W, Stay (fun k => k < w.heap.size) w1 W → TabOk W t C ∧ (G → TabGet W t C.flatten)
/-- An index behind a table that was opened. -/
structure Addd (B F : Nat → Prop) (w w' : World) (x : Nat) (I : Im) (a : Nat) (v : Value) (vs : List Value) (C : List (List En)) (b : List UInt8) (s : Nat) (FB : Nat → Prop) : Prop where
  ex : ∃ B' F' : Nat → Prop, (∀ k, B k → B' k) ∧ (∀ k, B' k → B k ∨ w.heap.size ≤ k) ∧ (∀ k, F' k → F k ∨ FB k ∨ w.heap.size ≤ k) ∧ (∀ k, B' k ∨ F' k → k < w'.heap.size) ∧ IxC B' F' w' x (I.add ⟨s, C, b⟩) a v vs ∧ MAt B' w' a I.A
  st : Stay (fun k => k = x) w w'
  lo : w.heap.size ≤ s
  hi : s < w'.heap.size

set_option maxHeartbeats 2000000 in
theorem open_ix {B F : Nat → Prop} (w : World) (x a : Nat) (I : Im) (v : Value) (vs : List Value) (bv : Value) (b : List UInt8) (C : List (List En)) (h : IxC B F w x I a v vs) (hM : MAt B w a I.A) (hl : ∀ k, B k ∨ F k → k < w.heap.size)
    (hb : Slc w bv b) (hbB : ∀ k, bv.ownBlock = some k → ¬ B k) (hbl : ∀ k, bv.ownBlock = some k → k < w.heap.size) (hh : I.hd ≤ 900000) (hok : ∀ s, Sh.Ok ⟨s, C, b⟩)
    (hop : Calls Tryz.prog 103 #[bv] w fun e w1 => (∃ t, e = .returned (.tuple #[.pointer (some ⟨t, 0, none⟩), .nilIface]) ∧ Opnd I.g w w1 t C) ∧ Stay (fun _ => False) w w1) :
    Calls Tryz.prog 69 #[.pointer (some ⟨x, 0, none⟩), bv] w fun e w' => ∃ s, e = .returned (.tuple #[.pointer (some ⟨s, 0, none⟩), .nilIface]) ∧ Addd B F w w' x I a v vs C b s (fun k => bv.ownBlock = some k) := by
  have HOP := Lib.hid hop
  have HX := Lib.hid h
  have HM := Lib.hid hM
  have HL := Lib.hid hl
  have HSL := Lib.hid hb
  have HBB := Lib.hid hbB
  have HBL := Lib.hid hbl
  have HOK := Lib.hid hok
  have HH := Lib.hid hh
  obtain ⟨ba, bc, rfl⟩ : ∃ a c, bv = .slice a b.length c := by obtain ⟨a0, c, e, _⟩ := hb; exact ⟨a0, c, e⟩
  clear h hM hl hb hbB hbl hh hok hop
  go_enter Tryz.func69, Tryz.ntmps69
  go_wp2_with fail
  refine HOP.out.mono ?_
  rintro e w1 ⟨⟨t, rfl, ht⟩, hs1⟩
  have HS1 := Lib.hid hs1
  have HT := Lib.hid ht
  obtain ⟨w2, hw2⟩ : ∃ w2, w1.alloc (.cells #[.pointer (some ⟨t, 0, none⟩), .slice ba b.length bc, .int .i64 0, .pointer (some ⟨x, 6, none⟩)] 111) = w2 := ⟨_, rfl⟩
  have hs2 : Stay (fun _ => False) w1 w2 := hw2 ▸ Stay.alloc _ _
  have hb2 : w2.heap[w1.heap.size]? = some (.cells #[.pointer (some ⟨t, 0, none⟩), .slice ba b.length bc, .int .i64 0, .pointer (some ⟨x, 6, none⟩)] 111 (0, 0)) := by rw [← hw2]; exact heap_alloc_new w1 _
  have hz2 : w2.heap.size = w1.heap.size + 1 := by rw [← hw2]; simp
  obtain ⟨s, hs⟩ : ∃ s, s = w1.heap.size := ⟨_, rfl⟩
  rw [← hs] at hb2 hz2
  have W2 := Lib.hid hw2
  have HS := Lib.hid hs
  have hz1 := hs1.size
  have hst : Stay (fun _ => False) w w2 := hs1.trans hs2
  have hix : IxC (fun k => B k ∨ k = s) (fun k => F k ∨ (Value.slice ba b.length bc).ownBlock = some k ∨ (w.heap.size ≤ k ∧ k < s)) w2 x { I with T := I.T ++ [⟨s, C, b⟩], hc := fun k => if k = s then 0 else I.hc k } a v vs := by
    have h1 := HX.out
    have hdj : ∀ k, (B k ∨ k = s) → ¬ (F k ∨ (Value.slice ba b.length bc).ownBlock = some k ∨ (w.heap.size ≤ k ∧ k < s)) := fun k hk hf => by
      rcases hk with hk | rfl
      · rcases hf with hf | hf | hf
        · exact h1.dj k hk hf
        · exact HBB.out k hf hk
        · have := HL.out k (.inl hk); omega
      · rcases hf with hf | hf | hf
        · have := HL.out k (.inr hf); omega
        · have := HBL.out k hf; omega
        · omega
    refine ⟨(hst.block x h1.lt (fun x => x)).trans h1.blk, h1.lv.stay hst (fun k hk => hk.elim) (fun k _ hk => .inl hk), .inl h1.bx, hdj, fun q hq => ?_, fun l hl q hq => List.mem_append_left _ (h1.sub l hl q hq), ?_, fun q hq => ?_⟩
    · rcases List.mem_append.1 hq with hq | hq
      · have h2 := (h1.sh q hq).stay (B' := fun k => B k ∨ k = s) (F' := fun k => F k ∨ (Value.slice ba b.length bc).ownBlock = some k ∨ (w.heap.size ≤ k ∧ k < s)) hst (fun _ _ x => x.elim) (fun k _ hk => .inl hk) (fun k _ hk => .inl hk) (fun x => x)
        have hne : ¬ q.s = s := fun e => by have := (h1.sh q hq).ty.lt; omega
        simpa [hne] using h2
      · obtain rfl := List.mem_singleton.1 hq
        refine ⟨t, .slice ba b.length bc, ?_, fun W hW => ?_, .inr rfl⟩
        · simpa [ptrV] using hb2
        · have h3 : Stay (fun k => k < w.heap.size) w1 W := (hs2.mono (fun _ x => x.elim)).andThen hW (fun k hk hf => by
            have h4 : ¬ (w.heap.size ≤ k ∧ k < s) := fun h => hf (.inr (.inr h))
            omega)
          obtain ⟨k1, k2⟩ := ht W h3
          refine ⟨k1, k2, ?_⟩
          have h5 : Stay (fun k => ¬ (F k ∨ (Value.slice ba b.length bc).ownBlock = some k ∨ (w.heap.size ≤ k ∧ k < s))) w W := (hst.mono (fun _ x => x.elim)).trans hW
          exact HSL.out.stay h5 (fun k hk _ hf => hf (.inr (.inl hk)))
    · show ((I.T ++ [(⟨s, C, b⟩ : Sh)]).map Sh.s).Nodup
      rw [List.map_append, List.nodup_append]
      refine ⟨h1.nd, by simp, fun p hp q hq => ?_⟩
      obtain ⟨r, hr, rfl⟩ := List.mem_map.1 hp
      simp at hq
      have := (h1.sh r hr).ty.lt
      omega
    · rcases List.mem_append.1 hq with hq | hq
      · exact h1.ok q hq
      · obtain rfl := List.mem_singleton.1 hq
        exact HOK.out s
  have hma : MAt (fun k => B k ∨ k = s) w2 a I.A := (HM.out.stay0 hst).mono (fun k _ hk => .inl hk)
  have HHO := Lib.hid (hold_ix hix hma (q := ⟨s, C, b⟩) (List.mem_append_right _ (by simp)) (by simp) (Nat.le_trans HH.out (by decide)))
  have HST := Lib.hid hst
  clear hs1 ht hw2 hs2 hb2 hs hz1 hst hix hma
  go_wp2_with fail
  rw [W2.out, ← HS.out]
  refine HHO.out.mono ?_
  rintro e w3 ⟨rfl, hi3, hm3, hs3⟩
  have HI3 := Lib.hid hi3
  have HM3 := Lib.hid hm3
  have HS3 := Lib.hid hs3
  clear hi3 hm3 hs3
  go_wp2
  go_ret2
  refine ⟨s, rfl, ⟨⟨fun k => B k ∨ k = s, fun k => F k ∨ (Value.slice ba b.length bc).ownBlock = some k ∨ (w.heap.size ≤ k ∧ k < s), fun k hk => .inl hk, fun k hk => ?_, fun k hk => ?_, fun k hk => ?_, ?_, HM3.out⟩, ?_, ?_, ?_⟩⟩
  · rcases hk with hk | hk
    · exact .inl hk
    · have h1 := HS.out; have h2 := HS1.out.size; exact .inr (by omega)
  · rcases hk with hk | hk | hk
    · exact .inl hk
    · exact .inr (.inl hk)
    · exact .inr (.inr hk.1)
  · have h3 := HS3.out.size
    have h4 := HST.out.size
    rcases hk with (hk | hk) | (hk | hk | hk)
    · have := HL.out k (.inl hk); omega
    · omega
    · have := HL.out k (.inr hk); omega
    · have := HBL.out k hk; omega
    · omega
  · have e1 : Im.hold { I with T := I.T ++ [⟨s, C, b⟩], hc := fun k => if k = s then 0 else I.hc k } s = I.add ⟨s, C, b⟩ := by
      unfold Im.hold Im.add
      simp
      funext k
      by_cases hk : k = s
      · simp [hk]
      · simp [hk]
    rw [← e1]
    exact HI3.out
  · have h1 := HS.out
    have h2 := HS1.out.size
    exact (HST.out.mono (fun _ x => x.elim)).andThen HS3.out (fun k hk hk2 => by rcases hk2 with hk2 | hk2 <;> omega)
  · have h1 := HS.out; have h2 := HS1.out.size; omega
  · have h3 := HS3.out.size; omega

theorem Addd.first {B F FB : Nat → Prop} {w w2 w' : World} {x a s : Nat} {I : Im} {v : Value} {vs : List Value} {C : List (List En)} {b : List UInt8} (h : Addd B F w2 w' x I a v vs C b s FB) (hs : Stay (fun _ => False) w w2) (hf : ∀ k, FB k → w.heap.size ≤ k) : Addd B F w w' x I a v vs C b s (fun _ => False) := by
  obtain ⟨B', F', h1, h2, h3, h4, h5⟩ := h.ex
  have hz := hs.size
  refine ⟨⟨B', F', h1, fun k hk => ?_, fun k hk => ?_, h4, h5⟩, (hs.mono (fun _ x => x.elim)).trans h.st, Nat.le_trans hz h.lo, h.hi⟩
  · rcases h2 k hk with h | h
    · exact .inl h
    · exact .inr (by omega)
  · rcases h3 k hk with h | h | h
    · exact .inl h
    · exact .inr (.inr (hf k h))
    · exact .inr (.inr (by omega))
theorem good_ok {L : List En} {p q : Nat} (h : Tb.Good L p q) (s : Nat) : Sh.Ok ⟨s, partsL L p, tabB L p q⟩ := by
  have e : (⟨s, partsL L p, tabB L p q⟩ : Sh).L = L := parts_flat h.p1
  exact ⟨by rw [e]; exact h.srt, by rw [e]; exact h.nrm, parts_ne h.p1, by rw [e]; have := h.n2; omega⟩
theorem opened {G : Prop} (w : World) (bv : Value) (L : List En) (p q : Nat) (hb : Slc w bv (tabB L p q)) (hg : Tb.Good L p q) :
    Calls Tryz.prog 103 #[bv] w fun e w1 => (∃ t, e = .returned (.tuple #[.pointer (some ⟨t, 0, none⟩), .nilIface]) ∧ Opnd G w w1 t (partsL L p)) ∧ Stay (fun _ => False) w w1 := by
  refine (Tb.open_kept w bv L p q hb hg).mono ?_
  rintro e w1 ⟨⟨t, rfl, _, ht⟩, hs⟩
  refine ⟨⟨t, rfl, fun W hW => ⟨tab_ok (ht W hW), fun _ => ?_⟩⟩, hs⟩
  rw [parts_flat hg.p1]
  exact tab_get (ht W hW)
set_option maxHeartbeats 2000000 in
theorem build_ix {B F : Nat → Prop} (w : World) (x a : Nat) (I : Im) (v : Value) (vs : List Value) (lv : Value) (L : List En) (h : IxC B F w x I a v vs) (hM : MAt B w a I.A) (hl : ∀ k, B k ∨ F k → k < w.heap.size)
    (hx : EnS w lv L) (hg : Tb.Good L I.p I.q) (hc : Cfg I) (ht : (tabB L I.p I.q).length ≤ 1048576) (hh : I.hd ≤ 900000) :
    Calls Tryz.prog 32 #[.pointer (some ⟨x, 0, none⟩), lv] w fun e w' => ∃ s, e = .returned (.tuple #[.pointer (some ⟨s, 0, none⟩), .nilIface]) ∧ Addd B F w w' x I a v vs (partsL L I.p) (tabB L I.p I.q) s (fun _ => False) := by
  have c2 : w.cell? ⟨x, 2, none⟩ = some (.int .i64 (I.p : Int)) := h.c rfl
  have c3 : w.cell? ⟨x, 3, none⟩ = some (.int .i64 (I.q : Int)) := h.c rfl
  have HBU := Lib.hid (fun W (hW : Stay (fun _ => False) w W) => Tb.build_ok W lv L I.p I.q (hx.stay0 hW) hg.srt hc.p1 hc.p2 hc.q1 hc.q2 hg.n1 hg.n2 (Nat.le_trans hg.sz (by decide)) ht)
  have HOI := Lib.hid (fun W bv (hW : Stay (fun _ => False) w W) (ho : Owns w.heap.size W bv (tabB L I.p I.q)) => open_ix W x a I v vs bv (tabB L I.p I.q) (partsL L I.p) (h.stay0 hW) (hM.stay0 hW) (fun k hk => Nat.lt_of_lt_of_le (hl k hk) hW.size) ho.slc (fun k hk hb => by have := (ho.lt k hk).1; have := hl k (.inl hb); omega) (fun k hk => (ho.lt k hk).2) hh (good_ok hg) (opened W bv L I.p I.q ho.slc hg))
  obtain ⟨a0, c0, rfl⟩ := hx.form
  obtain ⟨P, hP⟩ : ∃ P, P = I.p := ⟨_, rfl⟩
  obtain ⟨Q, hQ⟩ : ∃ Q, Q = I.q := ⟨_, rfl⟩
  rw [← hP] at c2
  rw [← hQ] at c3
  rw [← hP, ← hQ] at HBU
  have HPQ := Lib.hid (show P = I.p ∧ Q = I.q from ⟨hP, hQ⟩)
  clear h hM hl hx hg hc ht hh hP hQ
  go_enter Tryz.func32, Tryz.ntmps32
  go_wp2
  go_region_law ((refine step_call rfl 68 #[.tmp 9, .tmp 14, .tmp 19] #[34, 3, 3] rfl #[.slice a0 L.length c0, .int .i64 (P : Int), .int .i64 (Q : Int)] (by simp [Act.eval]) (by kernel_rfl) ((HBU.out _ Stay.drew).mono ?_); rintro e w2 ⟨⟨v2, rfl, ho2⟩, hs2⟩; obtain ⟨a2, n2, m2, rfl⟩ : ∃ a n c, v2 = .slice a n c := (by obtain ⟨p, q, e⟩ := ho2.form; exact ⟨p, _, q, e⟩); refine ⟨_, rfl, ?_⟩; have HO2 := Lib.hid ho2; have HS2 := Lib.hid (Stay.drew.trans hs2); clear ho2 hs2))
  all_goals
    have HOP := Lib.hid (HOI.out w2 (.slice a2 n2 m2) HS2.out (by have h1 := HO2.out; rw [HPQ.out.1, HPQ.out.2] at h1; exact h1))
    go_wp2_with fail
    refine HOP.out.mono ?_
    rintro e w3 ⟨s, rfl, had⟩
    have HAD := Lib.hid had
    clear had HOI HOP
    go_wp2
    go_ret2
    exact ⟨s, rfl, HAD.out.first HS2.out (fun k hk => (HO2.out.lt k hk).1)⟩
end Go.Proofs.YtljlfdhjolcnaaaGreat.Ix

/-
  index: slices.Insert of one pointer ahead of all.
-/
namespace Go.Proofs.YtljlfdhjolcnaaaGreat.Ix
open Go.RowKit Go.Maps Me Mg
set_option maxRecDepth 100000
set_option linter.unusedVariables false

theorem sizeOf_ptr (w : World) : (sizeOf 81).run Tryz.prog w = .ok 1 w := by kernel_rfl
theorem size_ptr : (Tryz.prog.info? 81).map (·.size) = some 1 := by kernel_rfl
section
variable {w : World} {ops : Array Oper} {o : Oper} {a : Act} {Q : Exit → Act → World → Prop}
theorem run_copy_p (w : World) (ty : TypeId) (g o dLen dCap : Nat) (ad : Addr) (sLen sCap : Nat) (cur : List Value) (cs : List Value)
    (hg : w.heap[g]? = some (.cells cur.toArray 81 (0, 0))) (hn : cs.length = Nat.min sLen dLen)
    (hsrc : ∀ j v, cs[j]? = some v → w.cell? (ad.add j) = some v) (hfit : o + cs.length ≤ cur.length) (h1 : ∀ v ∈ cs, v.oneCell' = true) :
    (Builtin.copy_ #[85, 85] ty #[.slice (some ⟨g, o, none⟩) dLen dCap, .slice (some ad) sLen sCap]).run Tryz.prog w =
      .ok (goInt (Nat.min sLen dLen)) (w.setRow g (splice cur o cs).toArray) := by
  have h := run_copy_sized (P := Tryz.prog) w 85 85 ty 81 1 g o dLen dCap ad sLen sCap cur.toArray 81 cs Tryz.underlying85 size_ptr hg (by rw [hn, Nat.mul_one]) hsrc (by simpa using hfit) h1
  simpa using h
theorem wpList_copy_p {rest : List Oper} (hgd : o.guard = none) (d s : Operand) (ho : o.op = .call { callee := .builtin .copy, args := #[d, s], argTypes := #[85, 85] })
    (g off dLen dCap : Nat) (ad : Addr) (sLen sCap : Nat) (hd : a.eval d = .slice (some ⟨g, off, none⟩) dLen dCap) (hs : a.eval s = .slice (some ad) sLen sCap) (cur cs : List Value)
    (hg : w.heap[g]? = some (.cells cur.toArray 81 (0, 0))) (hn : cs.length = Nat.min sLen dLen)
    (hsrc : ∀ j v, cs[j]? = some v → w.cell? (ad.add j) = some v) (hfit : off + cs.length ≤ cur.length) (h1 : ∀ v ∈ cs, v.oneCell' = true)
    (h : ∀ w', Hid (w'.heap[g]? = some (.cells (splice cur off cs).toArray 81 (0, 0))) → Hid (Stay (· = g) w w') → wpList Tryz.prog ops Q rest (a.put o.dst (goInt (Nat.min sLen dLen))) w') : wpList Tryz.prog ops Q (o :: rest) a w :=
  wpList_plain hgd fun _ hK => by
    have hrun := run_copy_p w o.type g off dLen dCap ad sLen sCap cur cs hg hn hsrc hfit h1
    unfold Oper.wp execOp
    simp only [ho, resolve, invoke, builtin, Sem.run_bind, Sem.run_pure, Result.andThen_ok, List.map_toArray, List.map_cons, List.map_nil, hd, hs, hrun]
    exact hK _ _ (h _ (Lib.hid (setRow_heap w g _ _ _ _ hg)) (Lib.hid (Stay.setRow w g _ rfl)))
theorem step_copy_p {K : Act → World → Prop} {E : Prop} (hgd : o.guard = none) (d s : Operand) (ho : o.op = .call { callee := .builtin .copy, args := #[d, s], argTypes := #[85, 85] })
    (g off dLen dCap : Nat) (ad : Addr) (sLen sCap : Nat) (hd : a.eval d = .slice (some ⟨g, off, none⟩) dLen dCap) (hs : a.eval s = .slice (some ad) sLen sCap) (cur cs : List Value)
    (hg : w.heap[g]? = some (.cells cur.toArray 81 (0, 0))) (hn : cs.length = Nat.min sLen dLen)
    (hsrc : ∀ j v, cs[j]? = some v → w.cell? (ad.add j) = some v) (hfit : off + cs.length ≤ cur.length) (h1 : ∀ v ∈ cs, v.oneCell' = true)
    (h : ∀ w', Hid (w'.heap[g]? = some (.cells (splice cur off cs).toArray 81 (0, 0))) → Hid (Stay (· = g) w w') → K (a.put o.dst (goInt (Nat.min sLen dLen))) w') :
    if Region.wanted o (yielded ops a.tmps) = true then Oper.wp Tryz.prog o a w K Q else E := by
  have hw : Region.wanted o (yielded ops a.tmps) = true := by simp [Region.wanted, hgd]
  rw [if_pos hw]
  have hrun := run_copy_p w o.type g off dLen dCap ad sLen sCap cur cs hg hn hsrc hfit h1
  unfold Oper.wp execOp
  simp only [ho, resolve, invoke, builtin, Sem.run_bind, Sem.run_pure, Result.andThen_ok, List.map_toArray, List.map_cons, List.map_nil, hd, hs, hrun]
  exact h _ (Lib.hid (setRow_heap w g _ _ _ _ hg)) (Lib.hid (Stay.setRow w g _ rfl))
end
theorem splice_ahead {R D : List Value} {p : Value} (h : D.length + 1 ≤ R.length) : (splice (splice R 1 D) 0 [p]).take (D.length + 1) = p :: D := by
  unfold splice
  have : (R.take 1).length = 1 := by rw [List.length_take]; omega
  simp only [List.take_zero, List.nil_append, List.singleton_append, List.length_singleton, Nat.zero_add, List.take_succ_cons]
  rw [List.drop_append, this, List.drop_of_length_le (by omega)]
  simp
theorem splice_behind {R D : List Value} {p : Value} (h : D.length + 1 ≤ R.length) : (splice (splice R 0 [p]) 1 D).take (D.length + 1) = p :: D := by
  unfold splice
  simp only [List.take_zero, List.nil_append, List.singleton_append, List.length_singleton, Nat.zero_add, List.take_succ_cons]
  simp
/-- A box of one pointer. -/
def PBox (w : World) (g s : Nat) : Prop := w.heap[g]? = some (.cells #[ptrV s] 81 (0, 0))
theorem PBox.stay {X : Nat → Prop} {w w' : World} {g s : Nat} (h : PBox w g s) (hs : Stay X w w') (hx : ¬ X g) : PBox w' g s := (hs.block g (Array.getElem?_eq_some_iff.1 h).1 hx).trans h
theorem PBox.c {w : World} {g s : Nat} (h : PBox w g s) : w.cell? ⟨g, 0, none⟩ = some (ptrV s) := by rw [cell_of_row w g 0 _ _ _ h]; rfl
theorem PBox.cs {w : World} {g s : Nat} (h : PBox w g s) : CS w (.slice (some ⟨g, 0, none⟩) 1 1) [ptrV s] := ⟨_, 1, rfl, Nat.le_refl _, by decide, (fun h => by cases h), fun _ => ⟨g, 0, rfl, fun i u hu => by
  have hi : i = 0 := by
    have := (List.getElem?_eq_some_iff.1 hu).1
    simp at this
    exact this
  subst hi
  cases hu
  exact h.c⟩⟩
theorem one_at {w : World} {g s j : Nat} {u : Value} (h : PBox w g s) (hu : [ptrV s][j]? = some u) : w.cell? ⟨g, j, none⟩ = some u := by
  have hi : j = 0 := by
    have := (List.getElem?_eq_some_iff.1 hu).1
    simp at this
    exact this
  subst hi
  cases hu
  exact h.c
/-- What Insert leaves. -/
structure InsP (w w' : World) (v v' : Value) (M : List Value) : Prop where
  own : CO 0 81 w' v' M
  stay : Stay (fun k => v.ownBlock = some k) w w'
  blk : v'.ownBlock = v.ownBlock ∨ ∃ k, v'.ownBlock = some k ∧ w.heap.size ≤ k

set_option maxHeartbeats 2000000 in
theorem ins_end (w : World) (v : Value) (s g : Nat) (ho : CO 0 81 w v []) (hb : PBox w g s) :
    Calls Tryz.prog 34 #[v, .int .i64 0, .slice (some ⟨g, 0, none⟩) 1 1] w fun x w' => ∃ v', x = .returned v' ∧ InsP w w' v v' [ptrV s] := by
  have HO := Lib.hid ho
  have HB := Lib.hid hb
  obtain ⟨a0, c, rfl, hnc, hcm, hn, _⟩ := ho.cs
  clear ho hb
  cases a0 with
  | none =>
    obtain rfl := hn rfl
    go_enter Tryz.func34, Tryz.ntmps34
    go_wp2_with (at_builtin; refine wpList_append_co rfl (.tmp 23) (.tmp 24) 85 rfl _ 8 Tryz.underlying85 info_sh rfl (by decide) rfl rfl HO.out HB.out.cs (by simp [ptrV, Value.oneCell']) (by simp) (Nat.zero_le _) ?_; intro v' w1 hown hgr hnn; have HI := Lib.hid (show InsP w w1 (.slice none 0 0) v' [ptrV s] from ⟨hown, hgr, hnn.imp id (fun h => ⟨_, h, Nat.le_refl _⟩)⟩); clear hown hgr hnn)
    go_ret
    exact ⟨_, rfl, HI.out⟩
  | some ad =>
    clear hn
    by_cases hc : c = 0
    · subst hc
      go_enter Tryz.func34, Tryz.ntmps34
      go_wp2_with (at_builtin; refine wpList_append_co rfl (.tmp 23) (.tmp 24) 85 rfl _ 8 Tryz.underlying85 info_sh rfl (by decide) rfl rfl HO.out HB.out.cs (by simp [ptrV, Value.oneCell']) (by simp) (Nat.zero_le _) ?_; intro v' w1 hown hgr hnn; have HI := Lib.hid (show InsP w w1 _ v' [ptrV s] from ⟨hown, hgr, hnn.imp id (fun h => ⟨_, h, Nat.le_refl _⟩)⟩); clear hown hgr hnn)
      go_ret
      exact ⟨_, rfl, HI.out⟩
    · go_enter Tryz.func34, Tryz.ntmps34
      go_wp2_with (at_builtin; refine wpList_append_co rfl (.tmp 23) (.tmp 24) 85 rfl _ 8 Tryz.underlying85 info_sh rfl (by decide) rfl rfl HO.out HB.out.cs (by simp [ptrV, Value.oneCell']) (by simp) (Nat.zero_le _) ?_; intro v' w1 hown hgr hnn; have HI := Lib.hid (show InsP w w1 _ v' [ptrV s] from ⟨hown, hgr, hnn.imp id (fun h => ⟨_, h, Nat.le_refl _⟩)⟩); clear hown hgr hnn)
      go_ret
      exact ⟨_, rfl, HI.out⟩

set_option maxHeartbeats 2000000 in
theorem ins_shift (w : World) (b c s g : Nat) (D : List Value) (h1 : ∀ u ∈ D, u.oneCell' = true) (ho : CO 0 81 w (.slice (some ⟨b, 0, none⟩) D.length c) D) (hb : PBox w g s) (hne : b ≠ g) (h0 : 0 < D.length) (hc : D.length + 1 ≤ c) (hl : D.length ≤ 100000) :
    Calls Tryz.prog 34 #[.slice (some ⟨b, 0, none⟩) D.length c, .int .i64 0, .slice (some ⟨g, 0, none⟩) 1 1] w fun x w' => ∃ v', x = .returned v' ∧ InsP w w' (.slice (some ⟨b, 0, none⟩) D.length c) v' (ptrV s :: D) := by
  have HB := Lib.hid hb
  rcases ho.2 with ⟨e0, _⟩ | ⟨b', cap, cur, e0, _, hg, hnc, hcm, hcs, hct⟩
  · cases e0
  cases e0
  have hcl : cur.toList.length = c := by rw [Array.length_toList, hcs, Nat.mul_one]
  obtain ⟨R, hR⟩ : ∃ R, R = cur.toList := ⟨_, rfl⟩
  have hg' : w.heap[b]? = some (.cells R.toArray 81 (0, 0)) := by rw [hR]; simpa using hg
  rw [← hR] at hcl hct
  rw [Nat.mul_one] at hct
  have hov : ∀ lb cb, (callFunc 71 #[.slice (some ⟨g, 0, none⟩) 1 1, .slice (some ⟨b, 1, none⟩) lb cb]).run Tryz.prog w = .ok (.value (.bool false)) w := fun lb cb => by
    rw [run_callFunc_extern Tryz.func71 (by kernel_rfl) (by kernel_rfl) (by kernel_rfl) (e := Extern.SlicesOverlaps.overlaps #[85, 85] #[4]) (by kernel_rfl),
      Lib.run_overlaps_apart w 85 4 81 Tryz.underlying85 1 sizeOf_ptr ⟨g, 0, none⟩ ⟨b, 1, none⟩ 1 1 lb cb (fun e => hne e.symm) 81 81 1 R.length (shape_row hb) (by rw [shape_row hg', List.size_toArray]) (by omega) (frozen_of_row w g 0 _ _ hb) (frozen_of_row w g 1 _ _ hb)]
    rfl
  have HG := Lib.hid hg'
  have HCL := Lib.hid hcl
  have hcc : c ≤ 9223372036854775807 := by unfold maxLen at hcm; omega
  have HSRC := Lib.hid (show ∀ j u, D[j]? = some u → w.cell? ((⟨b, 0, none⟩ : Addr).add j) = some u from fun j u hu => by
    rw [add_at, Nat.zero_add]
    exact ho.cell hu)
  have HD1 := Lib.hid h1
  have HFIN := Lib.hid (splice_ahead (R := R) (D := D) (p := ptrV s) (by rw [hcl]; exact hc))
  have hc0 : ¬ c = 0 := by omega
  have hc1 : ¬ c = 1 := by omega
  have hlI : (D.length : Int) ≤ 100000 := by omega
  obtain ⟨n, hn⟩ : ∃ n, n = D.length := ⟨_, rfl⟩
  have HN := Lib.hid hn
  rw [← hn] at h0 hc hl hlI ⊢
  have hn0 : ¬ n = 0 := by omega
  have hnI : (0 : Int) ≤ (n : Int) := by omega
  have hb3 : (1 : Int) ≤ (n : Int) + 1 := by omega
  have hw1 : IntKind.i64.wrap 1 = 1 := by decide
  have hb4 : (0 : Int) ≤ (n : Int) + 1 := by omega
  clear hg hg' hR hcl hct hcs ho hb hcm h1 hn hnc
  go_enter Tryz.func34, Tryz.ntmps34
  go_wp2_with (simp only [hov])
  go_region_law (refine step_copy_p rfl (.tmp 73) (.tmp 76) rfl b 1 n (c - 1) ⟨b, 0, none⟩ (n + 1) c (by simp [Act.eval, Act.put]) (by simp [Act.eval, Act.put]) R D HG.out (by rw [← HN.out]; show _ = min _ _; omega) HSRC.out (by rw [HCL.out, ← HN.out]; omega) HD1.out ?_; intro w1 hg1 hs1)
  have hR1 : (splice R 1 D).length = c := by rw [length_splice _ _ _ (by rw [HCL.out, ← HN.out]; omega), HCL.out]
  have HR1 := Lib.hid hR1
  have HS1 := Lib.hid (show Stay (fun k => k = b) w w1 from Stay.drew.trans hs1.out)
  have HBW := Lib.hid (show PBox w1 g s from HB.out.stay HS1.out (fun (h : g = b) => hne h.symm))
  clear hR1
  obtain ⟨R1, hR1⟩ : ∃ R1, R1 = splice R 1 D := ⟨_, rfl⟩
  rw [← hR1] at hg1 HFIN HR1
  clear hR1
  go_wp2_with (refine wpList_copy_p rfl (.tmp 80) (.tmp 81) rfl b 0 (n + 1) c ⟨g, 0, none⟩ 1 1 rfl rfl R1 [ptrV s] hg1.out (by show 1 = min _ _; omega) (fun j u hu => by rw [add_at, Nat.zero_add]; exact one_at HBW.out hu) (by rw [HR1.out]; show 0 + 1 ≤ _; omega) (by simp [ptrV, Value.oneCell']) ?_; intro w2 hg2 hs2)
  go_ret
  refine ⟨_, rfl, ⟨?_, ?_, .inl rfl⟩⟩
  · have hM : (ptrV s :: D).length = n + 1 := by rw [List.length_cons, HN.out]
    refine ⟨by rw [Nat.mul_one], .inr ⟨b, c, (splice R1 0 [ptrV s]).toArray, by rw [hM]; rfl, Nat.zero_le _, hg2.out, by rw [hM]; omega, by unfold maxLen; omega, ?_, ?_⟩⟩
    · rw [List.size_toArray, length_splice _ _ _ (by rw [HR1.out]; show 0 + 1 ≤ _; omega), HR1.out, Nat.mul_one]
    · rw [hM, Nat.mul_one, HN.out]
      exact HFIN.out
  · have h1 := HS1.out
    have h2 : Stay (fun k => k = b) w1 w2 := hs2.out
    exact (h1.trans h2).mono (fun k hk => by rw [hk]; rfl)

set_option maxHeartbeats 2000000 in
theorem ins_grow (w : World) (b c s g : Nat) (D : List Value) (h1 : ∀ u ∈ D, u.oneCell' = true) (ho : CO 0 81 w (.slice (some ⟨b, 0, none⟩) D.length c) D) (hb : PBox w g s) (h0 : 0 < D.length) (hc : ¬ D.length + 1 ≤ c) (hl : D.length ≤ 100000) :
    Calls Tryz.prog 34 #[.slice (some ⟨b, 0, none⟩) D.length c, .int .i64 0, .slice (some ⟨g, 0, none⟩) 1 1] w fun x w' => ∃ v', x = .returned v' ∧ InsP w w' (.slice (some ⟨b, 0, none⟩) D.length c) v' (ptrV s :: D) := by
  obtain ⟨i0, hi0, hz0, hzs, hzb⟩ := info_parts info_sh
  have HB := Lib.hid hb
  have hnc : D.length ≤ c := by
    obtain ⟨_, _, e0, h2, _⟩ := ho.cs
    cases e0
    exact h2
  obtain rfl : c = D.length := by omega
  have hbw : b < w.heap.size := (ho.lt b rfl).2
  have hold : (Builtin.firstCells i0.size 0 (.slice (some ⟨b, 0, none⟩) 0 D.length)).run Tryz.prog w.drew = .ok ([] : List Value).toArray w.drew := by
    rw [hzs]
    exact run_firstCells_some w.drew 1 0 ⟨b, 0, none⟩ 0 D.length [] rfl (fun j v hj => by simp at hj)
  obtain ⟨n, hn⟩ : ∃ n, n = D.length := ⟨_, rfl⟩
  have hsrc : ∀ j u, D[j]? = some u → w.cell? ((⟨b, 0, none⟩ : Addr).add j) = some u := fun j u hu => by
    rw [add_at, Nat.zero_add]
    exact ho.cell hu
  rw [← hn] at hold h0 hl hnc hc ⊢
  obtain ⟨G, hG⟩ : ∃ G, G = grownCap w (n + 1) n 81 := ⟨_, rfl⟩
  obtain ⟨R, hR⟩ : ∃ R : List Value, R = (Builtin.zeroCells (Value.pointer none).cells (n + 1)).toList ++ (Builtin.zeroCells (Value.pointer none).cells (G - (n + 1))).toList := ⟨_, rfl⟩
  have hrz : ∀ ty, (Builtin.append_ #[85, 3] ty #[.slice (some ⟨b, 0, none⟩) 0 n, .int .i64 ((n : Int) + 1)]).run Tryz.prog w =
      .ok (.slice (some ⟨w.heap.size, 0, none⟩) (n + 1) G) (w.drew.alloc (.cells R.toArray 81)) := fun ty => by
    have h := Lib.run_append_grow_zeros w 85 3 ty 81 i0 _ .i64 .i64 Tryz.underlying85 Tryz.underlying3 hi0 hz0 (some ⟨b, 0, none⟩) 0 n [] hold (n + 1) (by omega) (by omega) (by omega) (by omega) (by rw [hzb]; omega) (by rw [hzb, Nat.zero_add]; exact growslice_fits (by omega) (by omega))
    rw [Nat.zero_add, ← hG] at h
    rw [show (n : Int) + 1 = ((n + 1 : Nat) : Int) by omega, h]
    congr 4
    rw [hR]
    simp
  have hGn : n + 1 ≤ G := by rw [hG]; exact grownCap_ge w _ _ _
  have hGm : G ≤ maxLen := by rw [hG]; exact grownCap_le_maxLen w _ _ _ (by unfold maxLen; omega)
  have hG63 : G ≤ 9223372036854775807 := by unfold maxLen at hGm; omega
  have hRl : R.length = G := by
    rw [hR, List.length_append, Array.length_toList, Array.length_toList, len_zeroP, len_zeroP]
    omega
  have hfin := splice_behind (R := R) (D := D) (p := ptrV s) (by rw [hRl, ← hn]; exact hGn)
  have H1 := heap_alloc_new w.drew (.cells R.toArray 81)
  have hs1 : Stay (fun _ => False) w (w.drew.alloc (.cells R.toArray 81)) := Stay.drew.trans (Stay.alloc _ _)
  obtain ⟨W1, hW1⟩ : ∃ W1, W1 = w.drew.alloc (.cells R.toArray 81) := ⟨_, rfl⟩
  rw [← hW1] at hrz H1 hs1
  have HG1 := Lib.hid (show W1.heap[w.heap.size]? = some (.cells R.toArray 81 (0, 0)) from H1)
  have HS1 := Lib.hid hs1
  have HRZ := Lib.hid hrz
  have HFIN := Lib.hid hfin
  have HD1 := Lib.hid h1
  have HSRC := Lib.hid hsrc
  have HRL := Lib.hid hRl
  have HBW := Lib.hid (HB.out.stay hs1 (fun x => x))
  have HGM := Lib.hid hGm
  have HBB := Lib.hid hbw
  have HN := Lib.hid hn
  have hG0 : ¬ G = 0 := by omega
  have hG1 : ¬ G = 1 := by omega
  have hn0 : ¬ n = 0 := by omega
  have hnI : (n : Int) ≤ 100000 := by omega
  have hb3 : (1 : Int) ≤ (n : Int) + 1 := by omega
  have hw1 : IntKind.i64.wrap 1 = 1 := by decide
  have hb4 : (0 : Int) ≤ (n : Int) + 1 := by omega
  clear ho hb hold hG hR hrz hGm hRl hfin hsrc H1 hs1 hW1 hi0 hz0 hzs hzb hbw h1 hn hc hnc
  go_enter Tryz.func34, Tryz.ntmps34
  go_wp2_with (first
    | (at_builtin; refine Lib.wpList_append_run _ rfl _ _ _ _ rfl _ _ rfl rfl _ _ (HRZ.out _) ?_)
    | (refine wpList_copy_p rfl (.tmp 43) (.tmp 44) rfl w.heap.size 0 (n + 1) G ⟨g, 0, none⟩ 1 1 rfl rfl R [ptrV s] HG1.out (by show 1 = min _ _; omega) (fun j u hu => by rw [add_at, Nat.zero_add]; exact one_at HBW.out hu) (by rw [HRL.out]; show 0 + 1 ≤ _; omega) (by simp [ptrV, Value.oneCell']) ?_; intro w2 hg2 hs2))
  have HS2 := Lib.hid (show Stay (fun k => k = w.heap.size) W1 w2 from hs2.out)
  have HR2 := Lib.hid (show (splice R 0 [ptrV s]).length = G by rw [length_splice _ _ _ (by rw [HRL.out]; show 0 + 1 ≤ _; omega), HRL.out])
  have HSR2 := Lib.hid (show ∀ j u, D[j]? = some u → w2.cell? ((⟨b, 0, none⟩ : Addr).add j) = some u from fun j u hu => by
    have := HSRC.out j u hu
    rw [add_at] at this ⊢
    exact HS2.out.cell (HS1.out.cell this (fun x => x)) (fun (h : b = w.heap.size) => by have := HBB.out; omega))
  obtain ⟨R2, hR2⟩ : ∃ R2, R2 = splice R 0 [ptrV s] := ⟨_, rfl⟩
  rw [← hR2] at hg2 HFIN HR2
  clear hR2 hs2
  go_region_law (refine step_copy_p rfl (.tmp 50) (.tmp 53) rfl w.heap.size 1 n (G - 1) ⟨b, 0, none⟩ n n (by simp [Act.eval, Act.put]) (by simp [Act.eval, Act.put]) R2 D hg2.out (by rw [← HN.out]; show _ = min _ _; omega) HSR2.out (by rw [HR2.out, ← HN.out]; omega) HD1.out ?_; intro w3 hg3 hs3)
  have HS3 := Lib.hid (show Stay (fun k => k = w.heap.size) w2 w3 from (Stay.drew.trans hs3.out))
  clear hs3
  go_wp2
  go_ret
  refine ⟨_, rfl, ⟨?_, ?_, .inr ⟨w.heap.size, rfl, Nat.le_refl _⟩⟩⟩
  · have hM : (ptrV s :: D).length = n + 1 := by rw [List.length_cons, HN.out]
    refine ⟨by rw [Nat.mul_one], .inr ⟨w.heap.size, G, (splice R2 1 D).toArray, by rw [hM]; rfl, Nat.zero_le _, hg3.out, by rw [hM]; omega, HGM.out, ?_, ?_⟩⟩
    · rw [List.size_toArray, length_splice _ _ _ (by rw [HR2.out, ← HN.out]; omega), HR2.out, Nat.mul_one]
    · rw [hM, Nat.mul_one, HN.out]
      exact HFIN.out
  · exact (stay_seal ((HS1.out.mono (Y := fun k => k = w.heap.size) (fun _ x => x.elim)).trans (HS2.out.trans HS3.out)) (fun k hk => by have hk' : k = w.heap.size := hk; omega)).mono (fun _ x => x.elim)
/-- One pointer ahead of all. -/
theorem ins_any (w : World) (v : Value) (D : List Value) (s g : Nat) (h1 : ∀ u ∈ D, u.oneCell' = true) (ho : CO 0 81 w v D) (hb : PBox w g s) (hne : v.ownBlock ≠ some g) (hl : D.length ≤ 100000) :
    Calls Tryz.prog 34 #[v, .int .i64 0, .slice (some ⟨g, 0, none⟩) 1 1] w fun x w' => ∃ v', x = .returned v' ∧ InsP w w' v v' (ptrV s :: D) := by
  by_cases h0 : D.length = 0
  · have : D = [] := List.eq_nil_of_length_eq_zero h0
    subst this
    exact ins_end w v s g ho hb
  · obtain ⟨b, c, rfl, _⟩ := ho.at (by omega)
    by_cases hc : D.length + 1 ≤ c
    · exact ins_shift w b c s g D h1 ho hb (fun e => hne (by rw [e]; rfl)) (by omega) hc hl
    · exact ins_grow w b c s g D h1 ho hb (by omega) hc hl
end Go.Proofs.YtljlfdhjolcnaaaGreat.Ix

/-
  index: a level's row turned; the row of levels turned; Flush.
-/
namespace Go.Proofs.YtljlfdhjolcnaaaGreat.Ix
open Go.RowKit Go.Maps Me Mg
open Tb (tabB)
set_option maxRecDepth 100000
set_option linter.unusedVariables false

/-- A region's end, told anew. -/
theorem wp_mid {P : Program} {c : Code} {K K2 : Act → World → Prop} {Q : Exit → Act → World → Prop} {a : Act} {w : World} (hk : ∀ a W, K2 a W → K a W) (h : c.wp P (Exit.then K2 Q) a w) : c.wp P (Exit.then K Q) a w :=
  Code.wp_mono (fun e a w he => by cases e <;> first | exact hk a w he | exact he) h
theorem lvs_at {LS : List (List Sh)} {i : Nat} {l : List Sh} (h : LS[i]? = some l) : (lvs LS)[i]? = some (l.map (·.s)) := by simp [lvs, h]
section
variable {B F X : Nat → Prop} {w w' : World} {x a : Nat} {I : Im} {v : Value} {vs : List Value}
/-- A level's row, in place of what it was. -/
theorem IxC.row {go n c i : Nat} {u u' : Value} {l' : List Sh} (h : IxC B F w x I a (.slice (some ⟨go, 0, none⟩) n c) vs) (hu : vs[i]? = some u) (hs : Stay (fun k => u.ownBlock = some k) w w') (hrow : CO 0 81 w' u' (ptrs (l'.map (·.s))))
    (hblk : ∀ k, u'.ownBlock = some k → u.ownBlock = some k ∨ (¬ B k ∧ ¬ F k)) (hsub : ∀ q ∈ l', q ∈ I.T) :
    IxC (fun k => B k ∨ u'.ownBlock = some k) F (w'.setCell ⟨go, i, none⟩ u') x { I with LS := I.LS.set i l' } a (.slice (some ⟨go, 0, none⟩) n c) (vs.set i u') ∧ Stay (fun k => u.ownBlock = some k ∨ k = go) w (w'.setCell ⟨go, i, none⟩ u') := by
  have hil := (List.getElem?_eq_some_iff.1 hu).1
  have hco := h.lv.out
  have hgo : Ty w go 85 := hco.ty go rfl
  obtain ⟨ss0, hss0, hr0⟩ := h.lv.rows hu
  have hBu : ∀ k, u.ownBlock = some k → B k := h.lv.bi u (List.mem_of_getElem? hu)
  have hBgo : B go := h.lv.bo go rfl
  have hst : Stay (fun k => u.ownBlock = some k ∨ k = go) w (w'.setCell ⟨go, i, none⟩ u') := (hs.mono (fun k hk => .inl hk)).trans (Stay.setCell _ _ _ (.inr rfl))
  have hty : ∀ k, (u.ownBlock = some k ∨ k = go) → Ty w k 81 ∨ Ty w k 85 := fun k hk => by
    rcases hk with hk | rfl
    · exact .inl (hr0.ty k hk)
    · exact .inr hgo
  have hF : ∀ k, (u.ownBlock = some k ∨ k = go) → ¬ F k := fun k hk => by
    rcases hk with hk | rfl
    · exact h.dj k (hBu k hk)
    · exact h.dj _ hBgo
  have hgo' : Ty w' go 85 := hgo.stay hs (fun hk => absurd ((hr0.ty go hk).uniq hgo) (by decide))
  have hset : Stay (fun k => k = go) w' (w'.setCell ⟨go, i, none⟩ u') := Stay.setCell _ _ _ rfl
  have hother : ∀ j ss u2, (lvs I.LS)[j]? = some ss → vs[j]? = some u2 → j ≠ i → CO 0 81 (w'.setCell ⟨go, i, none⟩ u') u2 (ptrs ss) := fun j ss u2 h1 h2 hj => by
    have h3 := h.lv.row j ss u2 h1 h2
    refine h3.stay hst (fun k hk hx => ?_)
    rcases hx with hx | rfl
    · exact hj (h.lv.dif j i u2 u k h2 hu hk hx)
    · exact absurd ((h3.ty _ hk).uniq hgo) (by decide)
  refine ⟨⟨(hst.block x h.lt (fun hx => ?_)).trans h.blk, ⟨?_, ?_, fun j ss u2 h1 h2 => ?_, fun j1 j2 u1 u2 k h1 h2 h3 h4 => ?_, fun k hk => .inl (h.lv.bo k hk), fun u2 h2 k hk => ?_⟩, .inl h.bx, fun k hk hf => ?_, fun q hq => ?_, fun l2 h2 q hq => ?_, h.nd, h.ok⟩, hst⟩
  · rcases hty x hx with h1 | h1
    · exact absurd (h.ty.uniq h1) (by decide)
    · exact absurd (h.ty.uniq h1) (by decide)
  · exact (hco.stay hs (fun k hk hx => by cases hk; exact absurd ((hr0.ty go hx).uniq hgo) (by decide))).set i u'
  · rw [List.length_set, h.lv.len]
    simp [lvs]
  · by_cases hj : j = i
    · subst hj
      have e1 : u2 = u' := by
        rw [List.getElem?_set_self hil] at h2
        exact (Option.some.inj h2).symm
      have e2 : ss = l'.map (·.s) := by
        have hil2 : j < I.LS.length := by have := h.lv.len; simp [lvs] at this; omega
        simp [lvs, hil2] at h1
        exact h1.symm
      subst e1
      subst e2
      refine hrow.stay hset (fun k hk e => ?_)
      subst e
      exact absurd ((hrow.ty _ hk).uniq hgo') (by decide)
    · have h1' : (lvs I.LS)[j]? = some ss := by
        have e : lvs (I.LS.set i l') = (lvs I.LS).set i (l'.map (·.s)) := by simp [lvs, List.map_set]
        have h1b : (lvs (I.LS.set i l'))[j]? = some ss := h1
        rwa [e, List.getElem?_set_ne (fun h => hj h.symm)] at h1b
      rw [List.getElem?_set_ne (fun h => hj h.symm)] at h2
      exact hother j ss u2 h1' h2 hj
  · by_cases e1 : j1 = i
    · by_cases e2 : j2 = i
      · omega
      · exfalso
        subst e1
        rw [List.getElem?_set_self hil] at h1
        cases h1
        rw [List.getElem?_set_ne (fun h => e2 h.symm)] at h2
        rcases hblk k h3 with h5 | h5
        · exact e2 (h.lv.dif j2 j1 u2 u k h2 hu h4 h5)
        · exact h5.1 (h.lv.bi u2 (List.mem_of_getElem? h2) k h4)
    · rw [List.getElem?_set_ne (fun h => e1 h.symm)] at h1
      by_cases e2 : j2 = i
      · exfalso
        subst e2
        rw [List.getElem?_set_self hil] at h2
        cases h2
        rcases hblk k h4 with h5 | h5
        · exact e1 (h.lv.dif j1 j2 u1 u k h1 hu h3 h5)
        · exact h5.1 (h.lv.bi u1 (List.mem_of_getElem? h1) k h3)
      · rw [List.getElem?_set_ne (fun h => e2 h.symm)] at h2
        exact h.lv.dif j1 j2 u1 u2 k h1 h2 h3 h4
  · rcases List.mem_or_eq_of_mem_set h2 with h3 | rfl
    · exact .inl (h.lv.bi u2 h3 k hk)
    · exact .inr hk
  · rcases hk with hk | hk
    · exact h.dj k hk hf
    · rcases hblk k hk with h5 | h5
      · exact h.dj k (hBu k h5) hf
      · exact h5.2 hf
  · refine (h.sh q hq).stay hst (fun k _ hk => hF k hk) (fun k _ hk => .inl hk) (fun k _ hk => hk) (fun hx => ?_)
    rcases hty _ hx with h1 | h1
    · exact absurd ((h.sh q hq).ty.uniq h1) (by decide)
    · exact absurd ((h.sh q hq).ty.uniq h1) (by decide)
  · rcases List.mem_or_eq_of_mem_set h2 with h3 | rfl
    · exact h.sub l2 h3 q hq
    · exact hsub q hq
/-- The row of levels, in place of what it was. -/
theorem IxC.outer {v' : Value} {vs' : List Value} {LS' : List (List Sh)} (h : IxC B F w x I a v vs) (hs : Stay (fun k => v.ownBlock = some k) w w') (ho : CO 0 85 w' v' vs') (hlen : vs'.length = LS'.length)
    (hrow : ∀ (i : Nat) (l : List Sh) (u : Value), LS'[i]? = some l → vs'[i]? = some u → CO 0 81 w u (ptrs (l.map (·.s))) ∧ ∀ k, u.ownBlock = some k → B k)
    (hdif : ∀ (i j : Nat) (u u' : Value) (k : Nat), vs'[i]? = some u → vs'[j]? = some u' → u.ownBlock = some k → u'.ownBlock = some k → i = j) (hblk : ∀ k, v'.ownBlock = some k → v.ownBlock = some k ∨ ¬ F k) (hsub : ∀ l ∈ LS', ∀ q ∈ l, q ∈ I.T) :
    IxC (fun k => B k ∨ v'.ownBlock = some k) F (w'.setCell ⟨x, 5, none⟩ v') x { I with LS := LS' } a v' vs' ∧ Stay (fun k => v.ownBlock = some k ∨ k = x) w (w'.setCell ⟨x, 5, none⟩ v') := by
  have hst : Stay (fun k => v.ownBlock = some k ∨ k = x) w (w'.setCell ⟨x, 5, none⟩ v') := (hs.mono (fun k hk => .inl hk)).trans (Stay.setCell _ _ _ (.inr rfl))
  have hset : Stay (fun k => k = x) w' (w'.setCell ⟨x, 5, none⟩ v') := Stay.setCell _ _ _ rfl
  have hx' : w'.heap[x]? = some (.cells (ixC I a v).toArray 76 (0, 0)) := (hs.block x h.lt (fun hx => absurd (h.ty.uniq (h.lv.out.ty x hx)) (by decide))).trans h.blk
  have htx : Ty w' x 76 := ⟨_, _, hx'⟩
  have hrw : ∀ (i : Nat) (l : List Sh) (u : Value), LS'[i]? = some l → vs'[i]? = some u → CO 0 81 (w'.setCell ⟨x, 5, none⟩ v') u (ptrs (l.map (·.s))) := fun i l u h1 h2 => by
    obtain ⟨h3, _⟩ := hrow i l u h1 h2
    refine h3.stay hst (fun k hk hx => ?_)
    rcases hx with hx | rfl
    · exact absurd ((h3.ty k hk).uniq (h.lv.out.ty k hx)) (by decide)
    · exact absurd ((h3.ty _ hk).uniq h.ty) (by decide)
  refine ⟨⟨?_, ⟨ho.stay hset (fun k hk e => ?_), ?_, fun i ss u h1 h2 => ?_, hdif, fun k hk => .inr hk, fun u hu k hk => ?_⟩, .inl h.bx, fun k hk hf => ?_, fun q hq => ?_, hsub, h.nd, h.ok⟩, hst⟩
  · rw [heap_setCell_same w' x 5 _ _ _ hx']
    rfl
  · subst e
    exact absurd ((ho.ty _ hk).uniq htx) (by decide)
  · rw [hlen]
    simp [lvs]
  · have hil : i < LS'.length := by rw [← hlen]; exact (List.getElem?_eq_some_iff.1 h2).1
    have e1 := List.getElem?_eq_getElem hil
    have e2 := lvs_at e1
    have h1b : (lvs LS')[i]? = some ss := h1
    rw [e2] at h1b
    cases h1b
    exact hrw i _ u e1 h2
  · obtain ⟨i, hi⟩ := List.getElem?_of_mem hu
    have hil : i < LS'.length := by rw [← hlen]; exact (List.getElem?_eq_some_iff.1 hi).1
    exact .inl ((hrow i _ u (List.getElem?_eq_getElem hil) hi).2 k hk)
  · rcases hk with hk | hk
    · exact h.dj k hk hf
    · rcases hblk k hk with h5 | h5
      · exact h.dj k (h.lv.bo k h5) hf
      · exact h5 hf
  · refine (h.sh q hq).stay hst (fun k _ hk => ?_) (fun k _ hk => .inl hk) (fun k _ hk => hk) (fun hx => ?_)
    · rcases hk with hk | rfl
      · exact h.dj k (h.lv.bo k hk)
      · exact h.dj _ h.bx
    · rcases hx with hx | hx
      · exact absurd ((h.sh q hq).ty.uniq (h.lv.out.ty _ hx)) (by decide)
      · exact absurd ((h.sh q hq).ty.uniq (hx ▸ h.ty)) (by decide)
theorem IxC.setA (h : IxC B F w x I a v vs) (L : List En) : IxC B F w x { I with A := L } a v vs := ⟨h.blk, h.lv, h.bx, h.dj, h.sh, h.sub, h.nd, h.ok⟩
/-- Its Mem turned. -/
theorem IxC.mem {L : List En} (h : IxC B F w x I a v vs) (hm : ∀ k, MB w a k → B k ∧ k < w.heap.size ∧ (Ty w k 123 ∨ Ty w k 42)) (hl : ∀ k, F k → k < w.heap.size) (hm6 : MAt (fun k => MB w a k ∨ w.heap.size ≤ k) w' a L) (hs : Stay (MB w a) w w') :
    IxC (fun k => B k ∨ w.heap.size ≤ k) F w' x { I with A := L } a v vs ∧ MAt (fun k => B k ∨ w.heap.size ≤ k) w' a L := by
  refine ⟨IxC.setA (h.stay hs (fun k _ hk => h.dj k (hm k hk).1) (fun k _ hk => .inl hk) (fun k _ hk => hk) (fun k hk hf => ?_) (fun k hk => ?_)) L, hm6.mono (fun k _ hk => ?_)⟩
  · rcases hk with hk | hk
    · exact h.dj k hk hf
    · have := hl k hf; omega
  · rcases (hm k hk).2.2 with ht | ht
    · exact ⟨fun h2 => absurd (ht.uniq h2) (by decide), fun h2 => absurd (ht.uniq h2) (by decide), fun h2 => absurd (ht.uniq h2) (by decide), fun h2 => absurd (ht.uniq h2) (by decide)⟩
    · exact ⟨fun h2 => absurd (ht.uniq h2) (by decide), fun h2 => absurd (ht.uniq h2) (by decide), fun h2 => absurd (ht.uniq h2) (by decide), fun h2 => absurd (ht.uniq h2) (by decide)⟩
  · rcases hk with hk | hk
    · exact .inl (hm k hk).1
    · exact .inr hk
/-- An index at the end of a call. -/
theorem fin_ix {A : Nat → Prop} {w0 : World} (h : IxC B F w x I a v vs) (hm : MAt B w a I.A) (hA : ∀ k, B k → A k ∨ w0.heap.size ≤ k) (hF : ∀ k, F k → A k ∨ w0.heap.size ≤ k) (hst : Stay A w0 w) (hc : Cfg I) (hn : Nrm I.A) : Ixd A w0 w x I :=
  ⟨⟨⟨_, _, a, v, vs, fun k hk => hA k hk.1, fun k hk => hF k hk.1, fun k hk => hk.elim (fun h => h.2) (fun h => h.2), h.trim, hm.mono (fun k hk hb => ⟨hb, hk⟩)⟩, hn, hc⟩, hst⟩
/-- Only what was, or is new, turned. -/
theorem stay_into {A X : Nat → Prop} (hs : Stay X w w') (hX : ∀ k, k < w.heap.size → X k → A k) : Stay A w w' := ⟨hs.os, hs.tape, hs.output, hs.size, fun k hk ha => hs.block k hk (fun hx => ha (hX k hk hx))⟩
end
end Go.Proofs.YtljlfdhjolcnaaaGreat.Ix

/-
  index: Flush.
-/
namespace Go.Proofs.YtljlfdhjolcnaaaGreat.Ix
open Go.RowKit Go.Maps Me Mg
open Tb (tabB)
set_option maxRecDepth 100000
set_option linter.unusedVariables false

/-- A table ahead of all. -/
def insF : List (List Sh) → Sh → List (List Sh)
  | [], q => [[q]]
  | l :: r, q => (q :: l) :: r
theorem insF_flat (LS : List (List Sh)) (q : Sh) : (insF LS q).flatten = q :: LS.flatten := by
  cases LS <;> simp [insF]
/-- An index whose entries ahead were flushed. -/
def Im.flush (I : Im) (q : Sh) : Im := { I.add q with A := [], LS := insF I.LS q }
theorem flush_none {A : Nat → Prop} (w : World) (x : Nat) (I : Im) (h : IxAt A w x I) (h0 : I.A = []) : Calls Tryz.prog 12 #[.pointer (some ⟨x, 0, none⟩)] w fun e w' => e = .returned .nilIface ∧ w = w' := by
  obtain ⟨B, F, a, v, vs, _, _, _, h1, h2⟩ := h.ex
  have c4 : w.cell? ⟨x, 4, none⟩ = some (ptrV a) := h1.c rfl
  unfold ptrV at c4
  have HL := Lib.hid (Me.len_any w _ I.A h2.mr)
  rw [h0] at HL
  clear h h1 h2 h0
  go_enter Tryz.func12, Tryz.ntmps12
  go_wp2_with fail
  refine HL.out.mono ?_
  rintro e w1 ⟨rfl, rfl⟩
  go_wp2
  go_ret
  exact ⟨rfl, rfl⟩
set_option maxHeartbeats 4000000 in
theorem flush_some {A : Nat → Prop} (w : World) (x : Nat) (I : Im) (h : IxAt A w x I) (hg : Tb.Good I.A I.p I.q) (ht : (tabB I.A I.p I.q).length ≤ 1048576) (hh : I.hd ≤ 900000) (hn : ∀ l ∈ I.LS, l.length ≤ 100000) :
    Calls Tryz.prog 12 #[.pointer (some ⟨x, 0, none⟩)] w fun e w' => ∃ s, e = .returned .nilIface ∧ Ixd A w w' x (I.flush ⟨s, partsL I.A I.p, tabB I.A I.p I.q⟩) ∧ w.heap.size ≤ s ∧ s < w'.heap.size := by
  obtain ⟨B, F, a, v, vs, hB, hF, hl, h1, h2⟩ := h.ex
  have c4 : w.cell? ⟨x, 4, none⟩ = some (ptrV a) := h1.c rfl
  unfold ptrV at c4
  obtain ⟨N, hN⟩ : ∃ N, N = I.A.length := ⟨_, rfl⟩
  have HL := Lib.hid (Me.len_any w _ I.A h2.mr)
  have HE := Lib.hid (Me.entries_any w _ I.A h2.mr h2.srt (by have := hg.n2; omega))
  have HBU := Lib.hid (fun W lv (hW : Stay (fun _ => False) w W) (hx : EnS W lv I.A) => build_ix W x a I v vs lv I.A (h1.stay0 hW) (h2.stay0 hW) (fun k hk => Nat.lt_of_lt_of_le (hl k hk) hW.size) hx hg h.cfg ht hh)
  have hn0 : ((N : Int) == 0) = false := by have := hg.n1; simp; omega
  rw [← hN] at HL
  have HBA := Lib.hid hB
  have HFA := Lib.hid hF
  have HLT := Lib.hid hl
  have HC1 := Lib.hid h1
  have HCF := Lib.hid h.cfg
  have HNL := Lib.hid hn
  clear h h1 h2 hg ht hh hB hF hl hN hn
  go_enter Tryz.func12, Tryz.ntmps12
  go_wp2_with fail
  refine HL.out.mono ?_
  rintro e w1 ⟨rfl, rfl⟩
  go_wp2_with fail
  refine HE.out.mono ?_
  rintro e w1 ⟨v1, rfl, ho1, hs1⟩
  have HB := Lib.hid (HBU.out w1 v1 hs1 ho1.ens)
  have HS1 := Lib.hid hs1
  clear ho1 hs1 HE HL hn0
  go_wp2_with fail
  refine HB.out.mono ?_
  rintro e w2 ⟨s, rfl, had1⟩
  have had := had1.first HS1.out (fun k hk => hk.elim)
  clear had1
  obtain ⟨B2, F2, k1, k2, k3, k4, hi2, hm2⟩ := had.ex
  have HAD := Lib.hid had
  have HK1 := Lib.hid k1
  have HK2 := Lib.hid k2
  have HK3 := Lib.hid k3
  have HK4 := Lib.hid k4
  have HI2 := Lib.hid hi2
  have HM2 := Lib.hid hm2
  have c5 : w2.cell? ⟨x, 5, none⟩ = some v := hi2.c rfl
  have d4 : w2.cell? ⟨x, 4, none⟩ = some (ptrV a) := hi2.c rfl
  have f5 := hi2.fr 5
  unfold ptrV at d4
  clear had k1 k2 k3 k4 hi2 hm2 HB HBU c4
  cases hLS : I.LS with
  | nil =>
    have hvs : vs = [] := List.eq_nil_of_length_eq_zero (by rw [HC1.out.lv.len, hLS]; rfl)
    subst hvs
    obtain ⟨va, vc, rfl⟩ := HC1.out.lv.out.form
    have HLS := Lib.hid hLS
    have hsl : Stay (fun _ => False) w2 (w2.alloc (.cells #[.slice none 0 0] 85)) := Stay.alloc _ _
    have d5 := hsl.cell c5 (fun x => x)
    have g5 : (w2.alloc (.cells #[.slice none 0 0] 85)).frozen? ⟨x, 5, none⟩ = false := (HI2.out.stay0 hsl).fr 5
    have hou := (HI2.out.stay0 hsl).outer (v' := .slice (some ⟨w2.heap.size, 0, none⟩) 1 1) (vs' := [.slice none 0 0]) (LS' := [[]]) (Stay.refl _ _) (CO.lit w2 [.slice none 0 0] (Nat.zero_le _) (by simp)) rfl (fun i l u h1 h2 => by
      have hi : i = 0 := by
        have := (List.getElem?_eq_some_iff.1 h1).1
        simp at this
        exact this
      subst hi
      cases h1
      cases h2
      exact ⟨CO.nil _ _ _, fun k hk => by cases hk⟩) (fun i j u u' k h1 h2 h3 _ => by
      have hi : i = 0 := by
        have := (List.getElem?_eq_some_iff.1 h1).1
        simp at this
        exact this
      subst hi
      cases h1
      cases h3) (fun k hk => .inr (fun hf => by
      have h1 := HK4.out k (.inr hf)
      have h2 : w2.heap.size = k := Option.some.inj hk
      omega)) (fun l hl q hq => by
      rw [List.mem_singleton.1 hl] at hq
      cases hq)
    have hmm : MAt B2 ((w2.alloc (.cells #[.slice none 0 0] 85)).setCell ⟨x, 5, none⟩ (.slice (some ⟨w2.heap.size, 0, none⟩) 1 1)) a I.A := MAt.keep (HM2.out.stay0 hsl) (Stay.setCell (X := fun k => k = x) _ _ _ rfl) (fun k hk => by
      subst hk
      have h3 := (HI2.out.stay0 hsl).ty
      exact ⟨fun h2 => absurd (h3.uniq h2) (by decide), fun h2 => absurd (h3.uniq h2) (by decide)⟩)
    have hst3 : Stay (fun k => k = x) w2 ((w2.alloc (.cells #[.slice none 0 0] 85)).setCell ⟨x, 5, none⟩ (.slice (some ⟨w2.heap.size, 0, none⟩) 1 1)) := (hsl.mono (fun _ x => x.elim)).trans (Stay.setCell _ _ _ rfl)
    go_wp2
    have HZ3 := Lib.hid (show w2.heap.size + 1 = ((w2.alloc (.cells #[.slice none 0 0] 85)).setCell ⟨x, 5, none⟩ (.slice (some ⟨w2.heap.size, 0, none⟩) 1 1)).heap.size by simp)
    obtain ⟨w3, hw3⟩ : ∃ w3, w3 = (w2.alloc (.cells #[.slice none 0 0] 85)).setCell ⟨x, 5, none⟩ (.slice (some ⟨w2.heap.size, 0, none⟩) 1 1) := ⟨_, rfl⟩
    rw [← hw3] at hou hmm hst3 HZ3 ⊢
    obtain ⟨go, hgo⟩ : ∃ go, go = w2.heap.size := ⟨_, rfl⟩
    rw [← hgo] at hou ⊢
    have HGB := Lib.hid hgo
    clear d5 g5 hsl c5 d4 f5 hw3 hgo
    obtain ⟨I3, hI3⟩ : ∃ I3 : Im, I3 = { I.add ⟨s, partsL I.A I.p, tabB I.A I.p I.q⟩ with LS := [[]] } := ⟨_, rfl⟩
    rw [← hI3] at hou
    obtain ⟨B3, hB3⟩ : ∃ B3 : Nat → Prop, B3 = fun k => B2 k ∨ (Value.slice (some ⟨go, 0, none⟩) 1 1).ownBlock = some k := ⟨_, rfl⟩
    rw [← hB3] at hou
    have HI3 := Lib.hid hou.1
    have HM3 := Lib.hid (show MAt B3 w3 a I.A from hmm.mono (fun k _ hk => by rw [hB3]; exact .inl hk))
    have HST3 := Lib.hid hst3
    have HL0 := Lib.hid (show I3.LS[0]? = some [] by rw [hI3]; rfl)
    have HLL := Lib.hid (show ([] : List Sh).length ≤ 100000 from Nat.zero_le _)
    have HB3 := Lib.hid hB3
    have HE3 := Lib.hid hI3
    have HB3Y := Lib.hid (show ∀ k, B3 k → A k ∨ w.heap.size ≤ k from fun k hk => by
      rw [hB3] at hk
      rcases hk with hk | hk
      · exact (HK2.out k hk).imp (HBA.out k) id
      · have h2 : go = k := Option.some.inj hk
        have h3 := HGB.out
        have h4 := HAD.out.st.size
        exact .inr (by omega))
    have HF2Y := Lib.hid (show ∀ k, F2 k → A k ∨ w.heap.size ≤ k from fun k hk => (HK3.out k hk).elim (fun h => .inl (HFA.out k h)) (fun h => h.elim (fun h => h.elim) .inr))
    have HBZ := Lib.hid (show ∀ k, B3 k ∨ F2 k → k < w3.heap.size from fun k hk => by
      rw [hB3] at hk
      have h3 := HGB.out
      have h4 := HZ3.out
      rcases hk with (hk | hk) | hk
      · have := HK4.out k (.inl hk); omega
      · have h2 : go = k := Option.some.inj hk
        omega
      · have := HK4.out k (.inr hk); omega)
    clear hou hmm hst3 hI3 hB3
    have HUR := Lib.hid (show CO 0 81 w3 (.slice none 0 0) (ptrs (([] : List Sh).map (·.s))) from HI3.out.lv.row 0 _ _ (lvs_at HL0.out) rfl)
    have HUB := Lib.hid (show ∀ k, (.slice none 0 0 : Value).ownBlock = some k → B3 k from HI3.out.lv.bi _ (List.mem_cons_self))
    have e5 : w3.cell? ⟨x, 5, none⟩ = some (.slice (some ⟨go, 0, none⟩) 1 1) := HI3.out.c rfl
    have e4 : w3.cell? ⟨x, 4, none⟩ = some (.pointer (some ⟨a, 0, none⟩)) := HI3.out.c rfl
    have eg : w3.cell? ⟨go, 0, none⟩ = some (.slice none 0 0) := HI3.out.lv.out.cell rfl
    have HTG := Lib.hid (HI3.out.lv.out.ty go rfl)
    have HTN := Lib.hid (show ∀ k, (.slice none 0 0 : Value).ownBlock = some k → k ≠ x ∧ k ≠ go from fun k hk => ⟨(HUR.out.ty k hk).ne HI3.out.ty (by decide), (HUR.out.ty k hk).ne HTG.out (by decide)⟩)
    obtain ⟨wa, hwa⟩ : ∃ wa, wa = (w3.alloc (.cells #[.pointer (some ⟨s, 0, none⟩)] 81)).drew := ⟨_, rfl⟩
    have HSA := Lib.hid (show Stay (fun _ => False) w3 wa from hwa ▸ ((Stay.alloc _ _).trans Stay.drew))
    have HPB := Lib.hid (show PBox wa w3.heap.size s from hwa ▸ heap_alloc_new w3 _)
    have HIN := Lib.hid (ins_any wa (.slice none 0 0) (ptrs (([] : List Sh).map (·.s))) s w3.heap.size (one_ptrs _) (HUR.out.stay0 HSA.out) HPB.out (fun e => by have := (HUR.out.lt _ e).2; omega) (by rw [len_ptrs, List.length_map]; exact HLL.out))
    have WA := Lib.hid hwa
    have HGF := Lib.hid (show ∀ W, Stay (fun k => (.slice none 0 0 : Value).ownBlock = some k) wa W → W.frozen? ⟨go, 0, none⟩ = false ∧ W.cell? ⟨go, 0, none⟩ = some (.slice none 0 0) ∧ W.cell? ⟨x, 5, none⟩ = some (.slice (some ⟨go, 0, none⟩) 1 1) from fun W hW => ⟨((HI3.out.lv.out.stay0 HSA.out).stay hW (fun k hk hx => (HTN.out k hx).2 (Option.some.inj hk).symm)).fr 0, hW.cell (HSA.out.cell eg (fun x => x)) (fun hx => (HTN.out _ hx).2 rfl), hW.cell (HSA.out.cell e5 (fun x => x)) (fun hx => (HTN.out _ hx).1 rfl)⟩)
    have eg2 : (w3.alloc (.cells #[.pointer (some ⟨s, 0, none⟩)] 81)).cell? ⟨go, 0, none⟩ = some (.slice none 0 0) := (Stay.alloc (X := fun _ => False) _ _).cell eg (fun x => x)
    have e52 : (w3.alloc (.cells #[.pointer (some ⟨s, 0, none⟩)] 81)).cell? ⟨x, 5, none⟩ = some (.slice (some ⟨go, 0, none⟩) 1 1) := (Stay.alloc (X := fun _ => False) _ _).cell e5 (fun x => x)
    clear hwa
    go_region_law ((refine step_call rfl 34 #[.tmp 46, .const (.int .i64 0), .tmp 48] #[85, 3, 85] rfl #[.slice none 0 0, .int .i64 0, .slice (some ⟨w3.heap.size, 0, none⟩) 1 1] (by simp [Act.eval]) (by kernel_rfl) ?_; rw [← WA.out]; refine HIN.out.mono ?_; rintro e w4 ⟨u4, rfl, hI⟩; obtain ⟨u4a, u4n, u4c, rfl⟩ : ∃ a n c, u4 = .slice a n c := (by obtain ⟨p, q, e⟩ := hI.own.form; exact ⟨p, _, q, e⟩); refine ⟨_, rfl, ?_⟩; have HI := Lib.hid hI; obtain ⟨exf, exg, ex5⟩ := HGF.out w4 hI.stay; clear hI))
    all_goals
      have hrw := (HI3.out.stay0 HSA.out).row (i := 0) (l' := ⟨s, partsL I.A I.p, tabB I.A I.p I.q⟩ :: ([] : List Sh)) rfl HI.out.stay HI.out.own (fun k hk => by
        rcases HI.out.blk with e9 | ⟨k9, e9, hk9⟩
        · rw [e9] at hk; exact .inl hk
        · rw [e9] at hk
          cases hk
          exact .inr ⟨fun hb => by have h1 := HBZ.out _ (.inl hb); have h2 := HSA.out.size; omega, fun hb => by have h1 := HBZ.out _ (.inr hb); have h2 := HSA.out.size; omega⟩) (fun q hq => by
        rw [HE3.out]
        rcases List.mem_cons.1 hq with rfl | hq
        · exact List.mem_append_right _ (by simp)
        · exact List.mem_append_left _ (by cases hq))
      obtain ⟨hix5, hst5⟩ := hrw
      have hst5' := ((HSA.out.mono (Y := fun k => (.slice none 0 0 : Value).ownBlock = some k ∨ k = go) (fun _ x => x.elim)).trans hst5)
      have hma5 : MAt B3 (w4.setCell ⟨go, 0, none⟩ (.slice u4a u4n u4c)) a I.A := MAt.keep HM3.out hst5' (fun k hk => by
        rcases hk with hk | rfl
        · exact ⟨fun h2 => absurd ((HUR.out.ty k hk).uniq h2) (by decide), fun h2 => absurd ((HUR.out.ty k hk).uniq h2) (by decide)⟩
        · exact ⟨fun h2 => absurd (HTG.out.uniq h2) (by decide), fun h2 => absurd (HTG.out.uniq h2) (by decide)⟩)
      obtain ⟨w5, hw5⟩ : ∃ w5, w5 = w4.setCell ⟨go, 0, none⟩ (.slice u4a u4n u4c) := ⟨_, rfl⟩
      rw [← hw5] at hix5 hst5' hma5 ⊢
      have HIX5 := Lib.hid hix5
      have HST5 := Lib.hid hst5'
      obtain ⟨hm5, hm5t⟩ := Ix.MAt.own hma5
      have HMT := Lib.hid hm5t
      have HCL := Lib.hid (Me.clear_any w5 a I.A hm5)
      have e54 : w5.cell? ⟨x, 4, none⟩ = some (.pointer (some ⟨a, 0, none⟩)) := hix5.c rfl
      clear hix5 hst5 hst5' hma5 hm5 hm5t hw5 exf exg ex5
      go_wp2_with fail
      refine HCL.out.mono ?_
      rintro y w6 ⟨rfl, hm6, hs6⟩
      have HS6 := Lib.hid hs6
      obtain ⟨hix6, hma6⟩ := HIX5.out.mem (L := []) (fun k hk => ⟨.inl (HMT.out k hk).1, (HMT.out k hk).2⟩) (fun k hk => Nat.lt_of_lt_of_le (HBZ.out k (.inr hk)) HST5.out.size) (hm6.mono (fun k _ hk => .inl hk)) hs6
      have HFN := Lib.hid (show Ixd A w w6 x (I.flush ⟨s, partsL I.A I.p, tabB I.A I.p I.q⟩) from by
        have heq : I.flush ⟨s, partsL I.A I.p, tabB I.A I.p I.q⟩ = { ({ I3 with LS := I3.LS.set 0 (⟨s, partsL I.A I.p, tabB I.A I.p I.q⟩ :: ([] : List Sh)) } : Im) with A := [] } := by
          rw [HE3.out]
          unfold Im.flush
          simp [HLS.out, insF, Im.add]
        rw [heq]
        have z1 := HAD.out.st.size
        have z2 := HST3.out.size
        have z3 := HST5.out.size
        have z4 := HSA.out.size
        have hy5 : ∀ k, (B3 k ∨ (Value.slice u4a u4n u4c).ownBlock = some k) → A k ∨ w.heap.size ≤ k := fun k hk => by
          rcases hk with hk | hk
          · exact HB3Y.out k hk
          · rcases HI.out.blk with e9 | ⟨k9, e9, hk9⟩
            · rw [e9] at hk; exact HB3Y.out k (HUB.out k hk)
            · rw [e9] at hk
              cases hk
              exact .inr (by omega)
        have t1 : Stay (fun k => A k ∨ w.heap.size ≤ k) w w2 := HAD.out.st.mono (fun k hk => by rw [hk]; exact .inl (HBA.out _ HC1.out.bx))
        have t2 : Stay (fun k => A k ∨ w.heap.size ≤ k) w2 w3 := HST3.out.mono (fun k hk => by rw [hk]; exact .inl (HBA.out _ HC1.out.bx))
        have t3 : Stay (fun k => A k ∨ w.heap.size ≤ k) w3 w5 := HST5.out.mono (fun k hk => by
          rcases hk with hk | rfl
          · exact HB3Y.out k (HUB.out k hk)
          · exact HB3Y.out _ (HI3.out.lv.bo _ rfl))
        have t4 : Stay (fun k => A k ∨ w.heap.size ≤ k) w5 w6 := hs6.mono (fun k hk => HB3Y.out k (HMT.out k hk).1)
        exact fin_ix hix6 hma6 (fun k hk => by
          rcases hk with hk | hk
          · exact hy5 k hk
          · exact .inr (by omega)) HF2Y.out (stay_into (((t1.trans t2).trans t3).trans t4) (fun k hk h => h.elim id (fun h => by omega))) (by rw [HE3.out]; exact ⟨HCF.out.m1, HCF.out.m2, HCF.out.f1, HCF.out.f2, HCF.out.p1, HCF.out.p2, HCF.out.q1, HCF.out.q2⟩) (fun e he => by cases he))
      clear hix6 hma6 hm6 hs6 HCL
      go_wp2
      refine bodyPost_ret (v := .nilIface) (by simp [results, Tryz.results12]) rfl ⟨s, rfl, HFN.out, HAD.out.lo, ?_⟩
      have z2 := HST3.out.size
      have z3 := HST5.out.size
      have z4 := HS6.out.size
      have z5 := HAD.out.hi
      omega
  | cons l r =>
    obtain ⟨u, us, rfl⟩ : ∃ u us, vs = u :: us := List.exists_cons_of_ne_nil (fun e => by have h1 := HC1.out.lv.len; rw [hLS, e] at h1; simp [lvs] at h1)
    have HL0 := Lib.hid (show (I.add ⟨s, partsL I.A I.p, tabB I.A I.p I.q⟩).LS[0]? = some l by show I.LS[0]? = _; rw [hLS]; rfl)
    have HLL := Lib.hid (show l.length ≤ 100000 from HNL.out l (by rw [hLS]; simp))
    have HLS := Lib.hid hLS
    clear hLS
    obtain ⟨go, cc, rfl, _, _, _, _⟩ := HC1.out.lv.out.at (by simp)
    obtain ⟨I3, hI3⟩ : ∃ I3 : Im, I3 = I.add ⟨s, partsL I.A I.p, tabB I.A I.p I.q⟩ := ⟨_, rfl⟩
    rw [← hI3] at HI2 HL0
    obtain ⟨ua, uc, hu⟩ := (HI2.out.lv.row 0 _ _ (lvs_at HL0.out) rfl).form
    rw [len_ptrs, List.length_map] at hu
    subst hu
    obtain ⟨w3, rfl⟩ : ∃ w3, w3 = w2 := ⟨_, rfl⟩
    obtain ⟨B3, rfl⟩ : ∃ B3, B3 = B2 := ⟨_, rfl⟩
    have HI3 := HI2
    have HM3 := Lib.hid (show MAt B3 w3 a I.A from HM2.out)
    have HE3 := Lib.hid hI3
    have HST3 := Lib.hid (Stay.refl (fun k => k = x) w3)
    have HB3Y := Lib.hid (show ∀ k, B3 k → A k ∨ w.heap.size ≤ k from fun k hk => (HK2.out k hk).imp (HBA.out k) id)
    have HF2Y := Lib.hid (show ∀ k, F2 k → A k ∨ w.heap.size ≤ k from fun k hk => (HK3.out k hk).elim (fun h => .inl (HFA.out k h)) (fun h => h.elim (fun h => h.elim) .inr))
    have HBZ := HK4
    clear hI3
    go_wp2
    have HUR := Lib.hid (show CO 0 81 w3 (.slice ua l.length uc) (ptrs (l.map (·.s))) from HI3.out.lv.row 0 _ _ (lvs_at HL0.out) rfl)
    have HUB := Lib.hid (show ∀ k, (.slice ua l.length uc : Value).ownBlock = some k → B3 k from HI3.out.lv.bi _ (List.mem_cons_self))
    have e5 : w3.cell? ⟨x, 5, none⟩ = some (.slice (some ⟨go, 0, none⟩) (us.length + 1) cc) := HI3.out.c rfl
    have e4 : w3.cell? ⟨x, 4, none⟩ = some (.pointer (some ⟨a, 0, none⟩)) := HI3.out.c rfl
    have eg : w3.cell? ⟨go, 0, none⟩ = some (.slice ua l.length uc) := HI3.out.lv.out.cell rfl
    have HTG := Lib.hid (HI3.out.lv.out.ty go rfl)
    have HTN := Lib.hid (show ∀ k, (.slice ua l.length uc : Value).ownBlock = some k → k ≠ x ∧ k ≠ go from fun k hk => ⟨(HUR.out.ty k hk).ne HI3.out.ty (by decide), (HUR.out.ty k hk).ne HTG.out (by decide)⟩)
    obtain ⟨wa, hwa⟩ : ∃ wa, wa = (w3.alloc (.cells #[.pointer (some ⟨s, 0, none⟩)] 81)).drew := ⟨_, rfl⟩
    have HSA := Lib.hid (show Stay (fun _ => False) w3 wa from hwa ▸ ((Stay.alloc _ _).trans Stay.drew))
    have HPB := Lib.hid (show PBox wa w3.heap.size s from hwa ▸ heap_alloc_new w3 _)
    have HIN := Lib.hid (ins_any wa (.slice ua l.length uc) (ptrs (l.map (·.s))) s w3.heap.size (one_ptrs _) (HUR.out.stay0 HSA.out) HPB.out (fun e => by have := (HUR.out.lt _ e).2; omega) (by rw [len_ptrs, List.length_map]; exact HLL.out))
    have WA := Lib.hid hwa
    have HGF := Lib.hid (show ∀ W, Stay (fun k => (.slice ua l.length uc : Value).ownBlock = some k) wa W → W.frozen? ⟨go, 0, none⟩ = false ∧ W.cell? ⟨go, 0, none⟩ = some (.slice ua l.length uc) ∧ W.cell? ⟨x, 5, none⟩ = some (.slice (some ⟨go, 0, none⟩) (us.length + 1) cc) from fun W hW => ⟨((HI3.out.lv.out.stay0 HSA.out).stay hW (fun k hk hx => (HTN.out k hx).2 (Option.some.inj hk).symm)).fr 0, hW.cell (HSA.out.cell eg (fun x => x)) (fun hx => (HTN.out _ hx).2 rfl), hW.cell (HSA.out.cell e5 (fun x => x)) (fun hx => (HTN.out _ hx).1 rfl)⟩)
    have eg2 : (w3.alloc (.cells #[.pointer (some ⟨s, 0, none⟩)] 81)).cell? ⟨go, 0, none⟩ = some (.slice ua l.length uc) := (Stay.alloc (X := fun _ => False) _ _).cell eg (fun x => x)
    have e52 : (w3.alloc (.cells #[.pointer (some ⟨s, 0, none⟩)] 81)).cell? ⟨x, 5, none⟩ = some (.slice (some ⟨go, 0, none⟩) (us.length + 1) cc) := (Stay.alloc (X := fun _ => False) _ _).cell e5 (fun x => x)
    clear hwa
    go_region_law ((refine step_call rfl 34 #[.tmp 46, .const (.int .i64 0), .tmp 48] #[85, 3, 85] rfl #[.slice ua l.length uc, .int .i64 0, .slice (some ⟨w3.heap.size, 0, none⟩) 1 1] (by simp [Act.eval]) (by kernel_rfl) ?_; rw [← WA.out]; refine HIN.out.mono ?_; rintro e w4 ⟨u4, rfl, hI⟩; obtain ⟨u4a, u4n, u4c, rfl⟩ : ∃ a n c, u4 = .slice a n c := (by obtain ⟨p, q, e⟩ := hI.own.form; exact ⟨p, _, q, e⟩); refine ⟨_, rfl, ?_⟩; have HI := Lib.hid hI; obtain ⟨exf, exg, ex5⟩ := HGF.out w4 hI.stay; clear hI))
    all_goals
      have hrw := (HI3.out.stay0 HSA.out).row (i := 0) (l' := ⟨s, partsL I.A I.p, tabB I.A I.p I.q⟩ :: l) rfl HI.out.stay HI.out.own (fun k hk => by
        rcases HI.out.blk with e9 | ⟨k9, e9, hk9⟩
        · rw [e9] at hk; exact .inl hk
        · rw [e9] at hk
          cases hk
          exact .inr ⟨fun hb => by have h1 := HBZ.out _ (.inl hb); have h2 := HSA.out.size; omega, fun hb => by have h1 := HBZ.out _ (.inr hb); have h2 := HSA.out.size; omega⟩) (fun q hq => by
        rw [HE3.out]
        rcases List.mem_cons.1 hq with rfl | hq
        · exact List.mem_append_right _ (by simp)
        · exact List.mem_append_left _ (HC1.out.sub l (by rw [HLS.out]; simp) q hq))
      obtain ⟨hix5, hst5⟩ := hrw
      have hst5' := ((HSA.out.mono (Y := fun k => (.slice ua l.length uc : Value).ownBlock = some k ∨ k = go) (fun _ x => x.elim)).trans hst5)
      have hma5 : MAt B3 (w4.setCell ⟨go, 0, none⟩ (.slice u4a u4n u4c)) a I.A := MAt.keep HM3.out hst5' (fun k hk => by
        rcases hk with hk | rfl
        · exact ⟨fun h2 => absurd ((HUR.out.ty k hk).uniq h2) (by decide), fun h2 => absurd ((HUR.out.ty k hk).uniq h2) (by decide)⟩
        · exact ⟨fun h2 => absurd (HTG.out.uniq h2) (by decide), fun h2 => absurd (HTG.out.uniq h2) (by decide)⟩)
      obtain ⟨w5, hw5⟩ : ∃ w5, w5 = w4.setCell ⟨go, 0, none⟩ (.slice u4a u4n u4c) := ⟨_, rfl⟩
      rw [← hw5] at hix5 hst5' hma5 ⊢
      have HIX5 := Lib.hid hix5
      have HST5 := Lib.hid hst5'
      obtain ⟨hm5, hm5t⟩ := Ix.MAt.own hma5
      have HMT := Lib.hid hm5t
      have HCL := Lib.hid (Me.clear_any w5 a I.A hm5)
      have e54 : w5.cell? ⟨x, 4, none⟩ = some (.pointer (some ⟨a, 0, none⟩)) := hix5.c rfl
      clear hix5 hst5 hst5' hma5 hm5 hm5t hw5 exf exg ex5
      go_wp2_with fail
      refine HCL.out.mono ?_
      rintro y w6 ⟨rfl, hm6, hs6⟩
      have HS6 := Lib.hid hs6
      obtain ⟨hix6, hma6⟩ := HIX5.out.mem (L := []) (fun k hk => ⟨.inl (HMT.out k hk).1, (HMT.out k hk).2⟩) (fun k hk => Nat.lt_of_lt_of_le (HBZ.out k (.inr hk)) HST5.out.size) (hm6.mono (fun k _ hk => .inl hk)) hs6
      have HFN := Lib.hid (show Ixd A w w6 x (I.flush ⟨s, partsL I.A I.p, tabB I.A I.p I.q⟩) from by
        have heq : I.flush ⟨s, partsL I.A I.p, tabB I.A I.p I.q⟩ = { ({ I3 with LS := I3.LS.set 0 (⟨s, partsL I.A I.p, tabB I.A I.p I.q⟩ :: l) } : Im) with A := [] } := by
          rw [HE3.out]
          unfold Im.flush
          simp [HLS.out, insF, Im.add]
        rw [heq]
        have z1 := HAD.out.st.size
        have z2 := HST3.out.size
        have z3 := HST5.out.size
        have z4 := HSA.out.size
        have hy5 : ∀ k, (B3 k ∨ (Value.slice u4a u4n u4c).ownBlock = some k) → A k ∨ w.heap.size ≤ k := fun k hk => by
          rcases hk with hk | hk
          · exact HB3Y.out k hk
          · rcases HI.out.blk with e9 | ⟨k9, e9, hk9⟩
            · rw [e9] at hk; exact HB3Y.out k (HUB.out k hk)
            · rw [e9] at hk
              cases hk
              exact .inr (by omega)
        have t1 : Stay (fun k => A k ∨ w.heap.size ≤ k) w w3 := HAD.out.st.mono (fun k hk => by rw [hk]; exact .inl (HBA.out _ HC1.out.bx))
        have t2 : Stay (fun k => A k ∨ w.heap.size ≤ k) w3 w3 := HST3.out.mono (fun k hk => by rw [hk]; exact .inl (HBA.out _ HC1.out.bx))
        have t3 : Stay (fun k => A k ∨ w.heap.size ≤ k) w3 w5 := HST5.out.mono (fun k hk => by
          rcases hk with hk | rfl
          · exact HB3Y.out k (HUB.out k hk)
          · exact HB3Y.out _ (HI3.out.lv.bo _ rfl))
        have t4 : Stay (fun k => A k ∨ w.heap.size ≤ k) w5 w6 := hs6.mono (fun k hk => HB3Y.out k (HMT.out k hk).1)
        exact fin_ix hix6 hma6 (fun k hk => by
          rcases hk with hk | hk
          · exact hy5 k hk
          · exact .inr (by omega)) HF2Y.out (stay_into (((t1.trans t2).trans t3).trans t4) (fun k hk h => h.elim id (fun h => by omega))) (by rw [HE3.out]; exact ⟨HCF.out.m1, HCF.out.m2, HCF.out.f1, HCF.out.f2, HCF.out.p1, HCF.out.p2, HCF.out.q1, HCF.out.q2⟩) (fun e he => by cases he))
      clear hix6 hma6 hm6 hs6 HCL
      go_wp2
      refine bodyPost_ret (v := .nilIface) (by simp [results, Tryz.results12]) rfl ⟨s, rfl, HFN.out, HAD.out.lo, ?_⟩
      have z2 := HST3.out.size
      have z3 := HST5.out.size
      have z4 := HS6.out.size
      have z5 := HAD.out.hi
      omega
end Go.Proofs.YtljlfdhjolcnaaaGreat.Ix

/-
  index: an entry laid in; Put, Drop.
-/
namespace Go.Proofs.YtljlfdhjolcnaaaGreat.Ix
open Go.RowKit Go.Maps Me Mg
open Tb (tabB)
set_option maxRecDepth 100000
set_option linter.unusedVariables false

/-- A cell of a new block turns. -/
theorem stay_put {w w' : World} {b j : Nat} {u : Value} (hs : Stay (fun _ => False) w w') (hb : w.heap.size ≤ b) : Stay (fun _ => False) w (w'.setCell ⟨b, j, none⟩ u) :=
  hs.andThen (Stay.setCell (X := fun k => k = b) _ _ _ rfl) (fun k hk e => by omega)
/-- An entry more ahead of its tables. -/
def Im.put (I : Im) (e : En) : Im := { I with A := putL I.A e }
/-- An entry laid into its Mem. -/
theorem put_fin {A B F : Nat → Prop} {w V w' : World} {x a : Nat} {I : Im} {v : Value} {vs : List Value} {e : En} (hI : IxC B F V x I a v vs) (hM : MAt B V a I.A) (hB : ∀ k, B k → A k) (hF : ∀ k, F k → A k) (hl : ∀ k, B k ∨ F k → k < w.heap.size)
    (hs : Stay (fun _ => False) w V) (hp : Putd (MB V a) V w' a (putL I.A e)) (hc : Cfg I) (hn : Nrm I.A) : Ixd A w w' x (I.put e) := by
  have hmm := (Ix.MAt.own hM).2
  have hz := hs.size
  obtain ⟨h1, h2⟩ := hI.mem hmm (fun k hk => by have := hl k (.inr hk); omega) hp.m hp.s
  exact fin_ix h1 h2 (fun k hk => by
    rcases hk with hk | hk
    · exact .inl (hB k hk)
    · exact .inr (by omega)) (fun k hk => .inl (hF k hk)) ((hs.mono (fun _ x => x.elim)).andThen hp.s (fun k _ hk => hB k (hmm k hk).1)) ⟨hc.m1, hc.m2, hc.f1, hc.f2, hc.p1, hc.p2, hc.q1, hc.q2⟩ (put_nrm hn e)
def errI (n : Nat) : Value := .iface 66 (.int .i64 (n : Int))
theorem lay_long (w : World) (x : Nat) (e : En) (hl : 512 < e.k.length + e.v.length) (hk : e.k.length ≤ 140737488351232) (hv : e.v.length ≤ 140737488351232) :
    Calls Tryz.prog 30 #[.pointer (some ⟨x, 0, none⟩), enV e] w fun y w' => y = .returned (.iface 66 (.int .i64 2)) ∧ Stay (fun _ => False) w w' := by
  have hb := Box.new w e
  have hs : Stay (fun _ => False) w (w.alloc (.cells (enC e).toArray 42)) := Stay.alloc _ _
  obtain ⟨w0, hw0⟩ : ∃ w0, w.alloc (.cells (enC e).toArray 42) = w0 := ⟨_, rfl⟩
  rw [hw0] at hb hs
  have W0 := Lib.hid (show w.alloc (.cells #[strV e.k, strV e.v, .bool e.g] 42) = w0 from hw0)
  have HB := Lib.hid hb
  have HS := Lib.hid hs
  have HT := Lib.hid (tooLong_any w0 e hk hv)
  rw [decide_eq_true hl] at HT
  have HL := Lib.hid hb.run_load
  unfold enV enC at HT HL ⊢
  clear hw0 hb hs hl hk hv
  go_enter Tryz.func30, Tryz.ntmps30
  go_wp2_with fail
  rw [W0.out]
  refine HT.out.mono ?_
  rintro y w1 ⟨rfl, hs1⟩
  have HS1 := Lib.hid (HS.out.trans hs1)
  clear hs1
  go_wp2
  go_ret
  exact ⟨rfl, HS1.out⟩
set_option maxHeartbeats 2000000 in
theorem lay_any {A : Nat → Prop} (w : World) (x : Nat) (I : Im) (e : En) (h : IxAt A w x I) (hl : ¬ 512 < e.k.length + e.v.length) (ha : I.A.length ≤ 1000)
    (hth : ((getL I.A e.k).isSome = true ∨ I.A.length < I.m) ∨ (Tb.Good I.A I.p I.q ∧ (tabB I.A I.p I.q).length ≤ 1048576 ∧ I.hd ≤ 900000 ∧ ∀ l ∈ I.LS, l.length ≤ 100000)) :
    Calls Tryz.prog 30 #[.pointer (some ⟨x, 0, none⟩), enV e] w fun y w' => y = .returned .nilIface ∧ ((((getL I.A e.k).isSome = true ∨ I.A.length < I.m) ∧ Ixd A w w' x (I.put e)) ∨
      (¬ ((getL I.A e.k).isSome = true ∨ I.A.length < I.m) ∧ ∃ s, w.heap.size ≤ s ∧ Ixd A w w' x ((I.flush ⟨s, partsL I.A I.p, tabB I.A I.p I.q⟩).put e))) := by
  obtain ⟨B, F, a, v, vs, hB, hF, hlt, h1, h2⟩ := h.ex
  have hb := Box.new w e
  have hs : Stay (fun _ => False) w (w.alloc (.cells (enC e).toArray 42)) := Stay.alloc _ _
  obtain ⟨w0, hw0⟩ : ∃ w0, w.alloc (.cells (enC e).toArray 42) = w0 := ⟨_, rfl⟩
  rw [hw0] at hb hs
  obtain ⟨g, hg⟩ : ∃ g, g = w.heap.size := ⟨_, rfl⟩
  rw [← hg] at hb
  have W0 := Lib.hid (show w.alloc (.cells #[strV e.k, strV e.v, .bool e.g] 42) = w0 from hw0)
  have HG := Lib.hid hg
  have HB := Lib.hid hb
  have HS := Lib.hid hs
  have HT := Lib.hid (tooLong_any w0 e (by omega) (by omega))
  rw [decide_eq_false hl] at HT
  have HI := Lib.hid (h1.stay0 hs)
  have HM := Lib.hid (h2.stay0 hs)
  have HBA := Lib.hid hB
  have HFA := Lib.hid hF
  have HLT := Lib.hid hlt
  have HCF := Lib.hid h.cfg
  have HNR := Lib.hid h.nrm
  have HAL := Lib.hid ha
  have HTH := Lib.hid hth
  unfold enV enC at HT ⊢
  clear hw0 hb hs hl h h1 h2 hB hF hlt ha hg hth
  go_enter Tryz.func30, Tryz.ntmps30
  go_wp2_with fail
  rw [W0.out, ← HG.out]
  refine HT.out.mono ?_
  rintro y w1 ⟨rfl, hs1⟩
  have HB1 := Lib.hid (HB.out.stay0 hs1)
  have HI1 := Lib.hid (HI.out.stay0 hs1)
  have HM1 := Lib.hid (HM.out.stay0 hs1)
  have HS1 := Lib.hid (HS.out.trans hs1)
  have k0 : w1.cell? ⟨g, 0, none⟩ = some (strV e.k) := HB1.out.c (j := 0) rfl
  have c4 : w1.cell? ⟨x, 4, none⟩ = some (.pointer (some ⟨a, 0, none⟩)) := HI1.out.c rfl
  have c0 : w1.cell? ⟨x, 0, none⟩ = some (.int .i64 (I.m : Int)) := HI1.out.c rfl
  clear hs1 HT HB HI HM
  have HGET := Lib.hid (fun W (hW : Stay (fun _ => False) w1 W) => Me.get_any W _ I.A e.k (HM1.out.stay0 hW).mr HM1.out.srt (by have := HAL.out; omega))
  obtain ⟨⟨ek2, ev2, eg2⟩, he2⟩ : ∃ e2, e2 = entOf (getL I.A e.k) := ⟨_, rfl⟩
  obtain ⟨th, hth⟩ : ∃ th, th = (getL I.A e.k).isSome := ⟨_, rfl⟩
  rw [← he2, ← hth] at HGET
  have HTE := Lib.hid hth
  unfold enV enC at HGET
  clear he2 hth
  have k0' : (w1.alloc (.cells #[.string ⟨#[]⟩, .string ⟨#[]⟩, .bool false] 42)).cell? ⟨g, 0, none⟩ = some (strV e.k) := (Stay.alloc (X := fun _ => False) _ _).cell k0 (fun x => x)
  have c4' : (w1.alloc (.cells #[.string ⟨#[]⟩, .string ⟨#[]⟩, .bool false] 42)).cell? ⟨x, 4, none⟩ = some (.pointer (some ⟨a, 0, none⟩)) := (Stay.alloc (X := fun _ => False) _ _).cell c4 (fun x => x)
  go_wp2
  obtain ⟨K9, hK9⟩ : ∃ K9 : Act → World → Prop, K9 = fun a9 W => ∃ y1 y2 y5 y7 y8 y9 y10 y11 y12 y13 y14 y15 y16 y17 y18 y19 y20 y21 y22 y23 y24 y25 y26 y27 y28 y29 y30 y31 y32 y33 y34 y35 y36 y37 y38 y39 y40 y41 y42 y43 y44 y45 y46 y47 y48 y49 : Value, a9 = { tmps := List.toArray (.pointer (some ⟨x, 0, none⟩) :: y1 :: y2 :: .pointer (some ⟨g, 0, none⟩) :: .nilIface :: y5 :: .bool th :: y7 :: y8 :: y9 :: y10 :: y11 :: y12 :: y13 :: y14 :: y15 :: y16 :: y17 :: y18 :: y19 :: y20 :: y21 :: y22 :: y23 :: y24 :: y25 :: y26 :: y27 :: y28 :: y29 :: y30 :: y31 :: y32 :: y33 :: y34 :: y35 :: y36 :: y37 :: y38 :: y39 :: y40 :: y41 :: y42 :: y43 :: y44 :: y45 :: y46 :: y47 :: y48 :: y49 :: []), defers := [] } ∧ Stay (fun _ => False) w1 W := ⟨_, rfl⟩
  refine wp_mid (K2 := K9) (fun a9 W hk9 => ?next) ?region
  case region =>
    --[[
    go_region_law (first
      | (refine step_call rfl 65 #[.tmp 18, .tmp 20] #[67, 9] rfl #[.pointer (some ⟨a, 0, none⟩), strV e.k] (by simp [Act.eval]) (by kernel_rfl) ((HGET.out _ Stay.drew).mono ?_); rintro y w2 ⟨rfl, hs2⟩; refine ⟨_, rfl, ?_⟩; have HS2 := Lib.hid (Stay.drew.trans hs2); clear hs2)
      | (refine step_call rfl 65 #[.tmp 18, .tmp 20] #[67, 9] rfl #[.pointer (some ⟨a, 0, none⟩), strV e.k] (by simp [Act.eval]) (by kernel_rfl) ((HGET.out _ ((Stay.alloc _ _).trans Stay.drew)).mono ?_); rintro y w2 ⟨rfl, hs2⟩; refine ⟨_, rfl, ?_⟩; have HS2 := Lib.hid (((Stay.alloc _ _).trans Stay.drew).trans hs2); have hb6 := ((Box.new w1 ⟨[], [], false⟩).stay0 Stay.drew).stay0 hs2; have y0 : w2.cell? ⟨w1.heap.size, 0, none⟩ = some (.string ⟨#[]⟩) := hb6.c (j := 0) rfl; have y1 : w2.cell? ⟨w1.heap.size, 1, none⟩ = some (.string ⟨#[]⟩) := hb6.c (j := 1) rfl; have y2 : w2.cell? ⟨w1.heap.size, 2, none⟩ = some (.bool false) := hb6.c (j := 2) rfl; have z0 : w2.frozen? ⟨w1.heap.size, 0, none⟩ = false := hb6.fr 0; have z1 : w2.frozen? ⟨w1.heap.size, 1, none⟩ = false := hb6.fr 1; have z2 : w2.frozen? ⟨w1.heap.size, 2, none⟩ = false := hb6.fr 2; clear hs2 hb6))
    all_goals
      show K9 _ _
      rw [hK9]
      refine ⟨_, _, _, _, _, _, _, _, _, _, _, _, _, _, _, _, _, _, _, _, _, _, _, _, _, _, _, _, _, _, _, _, _, _, _, _, _, _, _, _, _, _, _, _, _, _, rfl, ?_⟩
      repeat (first
        | exact HS2.out
        | refine stay_put ?_ (by first | exact Nat.le_refl _ | exact HS2.out.size)
        | refine Stay.trans ?_ (Stay.alloc _ _)
        | refine Stay.trans ?_ Stay.drew)
    --]]
  case next =>
    rw [hK9] at hk9
    obtain ⟨y1, y2, y5, y7, y8, y9, y10, y11, y12, y13, y14, y15, y16, y17, y18, y19, y20, y21, y22, y23, y24, y25, y26, y27, y28, y29, y30, y31, y32, y33, y34, y35, y36, y37, y38, y39, y40, y41, y42, y43, y44, y45, y46, y47, y48, y49, rfl, hS5⟩ := hk9
    clear hK9
    have HI2 := Lib.hid (HI1.out.stay0 hS5)
    have HM2 := Lib.hid (HM1.out.stay0 hS5)
    have HB2 := Lib.hid (HB1.out.stay0 hS5)
    have HS2 := Lib.hid (HS1.out.trans hS5)
    have d4 : W.cell? ⟨x, 4, none⟩ = some (.pointer (some ⟨a, 0, none⟩)) := HI2.out.c rfl
    have d0 : W.cell? ⟨x, 0, none⟩ = some (.int .i64 (I.m : Int)) := HI2.out.c rfl
    obtain ⟨N, hN⟩ : ∃ N, N = I.A.length := ⟨_, rfl⟩
    have HLEN := Lib.hid (fun V (hV : Stay (fun _ => False) W V) => Me.len_any V _ I.A (HM2.out.stay0 hV).mr)
    have HNE := Lib.hid hN
    rw [← hN] at HLEN
    clear hS5 k0 k0' c4 c4' c0 hN
    obtain ⟨D, hD⟩ : ∃ D : World → Prop, D = fun V => Stay (fun _ => False) W V := ⟨_, rfl⟩
    have HD := Lib.hid (show ∀ V, D V → Stay (fun _ => False) W V from fun V h => by rw [hD] at h; exact h)
    have HN0 := Lib.hid (show D W.drew by rw [hD]; exact Stay.drew)
    have H1 := Lib.hid (show ∀ V, D V → Calls Tryz.prog 31 #[.pointer (some ⟨a, 0, none⟩)] V fun e w' => e = .returned (.int .i64 (N : Int)) ∧ D w' from fun V h => (HLEN.out V (HD.out V h)).mono (by rintro e V' ⟨rfl, rfl⟩; exact ⟨rfl, h⟩))
    have k1 : ∀ i : InC D, i.w.cell? ⟨x, 4, none⟩ = some (.pointer (some ⟨a, 0, none⟩)) := fun i => (HD.out _ i.h).cell d4 (fun x => x)
    have k2 : ∀ i : InC D, i.w.cell? ⟨x, 0, none⟩ = some (.int .i64 (I.m : Int)) := fun i => (HD.out _ i.h).cell d0 (fun x => x)
    haveI : Nonempty (InC D) := ⟨⟨_, HN0.out⟩⟩
    clear hD d4 d0 HLEN
    cases th with
    | true =>
      have HRM := Lib.hid (show (getL I.A e.k).isSome = true ∨ I.A.length < I.m from .inl HTE.out.symm)
      go_wp2
      refine wp_region_class D HN0.out (by kernel_rfl) (by kernel_rfl) ?_
      repeat (go_big_quiet_step ((first
        | with_reducible exact calls_class H1.out)))
      refine wpQuiet_nil ?_
      rintro W8 ⟨iw, rfl⟩
      have hS6 := HD.out _ iw.h
      clear k1 k2
      generalize iw.w = W8 at *
      have HI3 := Lib.hid (HI2.out.stay0 hS6)
      have HM3 := Lib.hid (HM2.out.stay0 hS6)
      have HB3 := Lib.hid (HB2.out.stay0 hS6)
      have HS3 := Lib.hid (HS2.out.trans hS6)
      clear hS6 HI2 HM2 HB2 HS2 H1 HD HN0
      have d4 : W8.cell? ⟨x, 4, none⟩ = some (.pointer (some ⟨a, 0, none⟩)) := HI3.out.c rfl
      have HPUT := Lib.hid (fun V (hV : Stay (fun _ => False) W8 V) => Me.put_any V a I.A e (Ix.MAt.own (HM3.out.stay0 hV)).1 HAL.out)
      have k0 : W8.cell? ⟨g, 0, none⟩ = some (strV e.k) := HB3.out.c (j := 0) rfl
      have k1 : W8.cell? ⟨g, 1, none⟩ = some (strV e.v) := HB3.out.c (j := 1) rfl
      have k2 : W8.cell? ⟨g, 2, none⟩ = some (.bool e.g) := HB3.out.c (j := 2) rfl
      unfold enV enC at HPUT
      clear HB3
      go_wp2_with fail
      go_region_law ((refine step_call rfl 66 #[.tmp 47, .tmp 48] #[67, 42] rfl #[.pointer (some ⟨a, 0, none⟩), .agg #[strV e.k, strV e.v, .bool e.g]] (by simp [Act.eval]) (by kernel_rfl) ((HPUT.out _ Stay.drew).mono ?_); rintro y w9 ⟨rfl, hp⟩; refine ⟨_, rfl, ?_⟩; have HP := Lib.hid (put_fin (HI3.out.stay0 Stay.drew) (HM3.out.stay0 Stay.drew) HBA.out HFA.out HLT.out (HS3.out.trans Stay.drew) hp HCF.out HNR.out); clear hp))
      all_goals
        go_wp2
        go_ret
        exact ⟨rfl, .inl ⟨HRM.out, HP.out⟩⟩
    | false =>
      by_cases hlt : N < I.m
      · have HRM := Lib.hid (show (getL I.A e.k).isSome = true ∨ I.A.length < I.m from .inr (HNE.out ▸ hlt))
        have hlt2 : ((I.m : Int) ≤ (N : Int)) = False := by simp; omega
        go_wp2
        refine wp_region_class D HN0.out (by kernel_rfl) (by kernel_rfl) ?_
        repeat (go_big_quiet_step ((first
          | with_reducible exact calls_class H1.out)))
        refine wpQuiet_nil ?_
        rintro W8 ⟨iw, rfl⟩
        have hS6 := HD.out _ iw.h
        clear k1 k2
        generalize iw.w = W8 at *
        have HI3 := Lib.hid (HI2.out.stay0 hS6)
        have HM3 := Lib.hid (HM2.out.stay0 hS6)
        have HB3 := Lib.hid (HB2.out.stay0 hS6)
        have HS3 := Lib.hid (HS2.out.trans hS6)
        clear hS6 HI2 HM2 HB2 HS2 H1 HD HN0
        have d4 : W8.cell? ⟨x, 4, none⟩ = some (.pointer (some ⟨a, 0, none⟩)) := HI3.out.c rfl
        have HPUT := Lib.hid (fun V (hV : Stay (fun _ => False) W8 V) => Me.put_any V a I.A e (Ix.MAt.own (HM3.out.stay0 hV)).1 HAL.out)
        have k0 : W8.cell? ⟨g, 0, none⟩ = some (strV e.k) := HB3.out.c (j := 0) rfl
        have k1 : W8.cell? ⟨g, 1, none⟩ = some (strV e.v) := HB3.out.c (j := 1) rfl
        have k2 : W8.cell? ⟨g, 2, none⟩ = some (.bool e.g) := HB3.out.c (j := 2) rfl
        unfold enV enC at HPUT
        clear HB3
        go_wp2_with fail
        go_region_law ((refine step_call rfl 66 #[.tmp 47, .tmp 48] #[67, 42] rfl #[.pointer (some ⟨a, 0, none⟩), .agg #[strV e.k, strV e.v, .bool e.g]] (by simp [Act.eval]) (by kernel_rfl) ((HPUT.out _ Stay.drew).mono ?_); rintro y w9 ⟨rfl, hp⟩; refine ⟨_, rfl, ?_⟩; have HP := Lib.hid (put_fin (HI3.out.stay0 Stay.drew) (HM3.out.stay0 Stay.drew) HBA.out HFA.out HLT.out (HS3.out.trans Stay.drew) hp HCF.out HNR.out); clear hp))
        all_goals
          go_wp2
          go_ret
          exact ⟨rfl, .inl ⟨HRM.out, HP.out⟩⟩
      · have HRM := Lib.hid (show ¬ ((getL I.A e.k).isSome = true ∨ I.A.length < I.m) from fun h => h.elim (fun h => by rw [← HTE.out] at h; cases h) (fun h => hlt (HNE.out ▸ h)))
        have hlt2 : ((I.m : Int) ≤ (N : Int)) = True := by simp; omega
        obtain ⟨hgd, htb, hhd, hnl⟩ := HTH.out.resolve_left HRM.out
        have HGD := Lib.hid hgd
        have HTB := Lib.hid htb
        have HHD := Lib.hid hhd
        have HNL := Lib.hid hnl
        clear hgd htb hhd hnl HTH
        go_wp2
        refine wp_region_class D HN0.out (by kernel_rfl) (by kernel_rfl) ?_
        repeat (go_big_quiet_step ((first
          | with_reducible exact calls_class H1.out)))
        refine wpQuiet_nil ?_
        rintro W8 ⟨iw, rfl⟩
        have hS6 := HD.out _ iw.h
        clear k1 k2
        generalize iw.w = W8 at *
        have HI3 := Lib.hid (HI2.out.stay0 hS6)
        have HM3 := Lib.hid (HM2.out.stay0 hS6)
        have HB3 := Lib.hid (HB2.out.stay0 hS6)
        have HS3 := Lib.hid (HS2.out.trans hS6)
        clear hS6 HI2 HM2 HB2 HS2 H1 HD HN0
        obtain ⟨A0, hA0⟩ : ∃ A0 : Nat → Prop, A0 = fun k => B k ∨ F k := ⟨_, rfl⟩
        have HF := Lib.hid (flush_some (A := A0) W8 x I ⟨⟨B, F, a, v, vs, fun k hk => by rw [hA0]; exact .inl hk, fun k hk => by rw [hA0]; exact .inr hk, fun k hk => Nat.lt_of_lt_of_le (HLT.out k hk) HS3.out.size, HI3.out, HM3.out⟩, HNR.out, HCF.out⟩ HGD.out HTB.out HHD.out HNL.out)
        have HA0 := Lib.hid hA0
        clear hA0
        go_wp2_with fail
        refine HF.out.mono ?_
        rintro y w9x ⟨s, rfl, hix, hs0, hs9⟩
        have HSZ := Lib.hid (Nat.le_trans HS3.out.size hs0)
        have hb9 := HB3.out.stay hix.2 (by rw [HA0.out, HG.out]; intro h; exact absurd (HLT.out _ h) (Nat.lt_irrefl _))
        have HSA := Lib.hid (show Stay A w w9x from (HS3.out.mono (fun _ x => x.elim)).trans (hix.2.mono (fun k hk => by rw [HA0.out] at hk; exact hk.elim (HBA.out k) (HFA.out k))))
        have HAW := Lib.hid (show ∀ k, (A0 k ∨ W8.heap.size ≤ k) → A k ∨ w.heap.size ≤ k from fun k hk => by
          rw [HA0.out] at hk
          rcases hk with (hk | hk) | hk
          · exact .inl (HBA.out k hk)
          · exact .inl (HFA.out k hk)
          · exact .inr (Nat.le_trans HS3.out.size hk))
        clear HF HBA HFA HLT HI3 HM3 HS3 HCF HNR HB3
        obtain ⟨⟨⟨B2, F2, a2, v2, vs2, hB2, hF2, hl2, hi2, hm2⟩, hn2, hc2⟩, _⟩ := hix
        obtain ⟨J, hJ⟩ : ∃ J, J = I.flush ⟨s, partsL I.A I.p, tabB I.A I.p I.q⟩ := ⟨_, rfl⟩
        rw [← hJ] at hi2 hm2 hn2 hc2
        have HJ0 := Lib.hid (show J.A = [] by rw [hJ]; rfl)
        have HJ := Lib.hid hJ
        have HI3 := Lib.hid hi2
        have HM3 := Lib.hid hm2
        have HB3 := Lib.hid hb9
        have HBA := Lib.hid (show ∀ k, B2 k → A k ∨ w.heap.size ≤ k from fun k hk => HAW.out k (hB2 k hk))
        have HFA := Lib.hid (show ∀ k, F2 k → A k ∨ w.heap.size ≤ k from fun k hk => HAW.out k (hF2 k hk))
        have HLT := Lib.hid hl2
        have HCF := Lib.hid hc2
        have HNR := Lib.hid hn2
        have HS3 := Lib.hid (Stay.refl (fun _ => False) w9x)
        have HST := HSA
        clear hJ hi2 hm2 hb9 hB2 hF2 hl2 hc2 hn2 hs0 hs9 HSA HAW
        have d4 : w9x.cell? ⟨x, 4, none⟩ = some (.pointer (some ⟨a2, 0, none⟩)) := HI3.out.c rfl
        have HPUT := Lib.hid (fun V (hV : Stay (fun _ => False) w9x V) => Me.put_any V a2 J.A e (Ix.MAt.own (HM3.out.stay0 hV)).1 (by rw [HJ0.out]; exact Nat.zero_le _))
        have k0 : w9x.cell? ⟨g, 0, none⟩ = some (strV e.k) := HB3.out.c (j := 0) rfl
        have k1 : w9x.cell? ⟨g, 1, none⟩ = some (strV e.v) := HB3.out.c (j := 1) rfl
        have k2 : w9x.cell? ⟨g, 2, none⟩ = some (.bool e.g) := HB3.out.c (j := 2) rfl
        unfold enV enC at HPUT
        clear HB3
        go_wp2_with fail
        go_region_law ((refine step_call rfl 66 #[.tmp 47, .tmp 48] #[67, 42] rfl #[.pointer (some ⟨a2, 0, none⟩), .agg #[strV e.k, strV e.v, .bool e.g]] (by simp [Act.eval]) (by kernel_rfl) ((HPUT.out _ Stay.drew).mono ?_); rintro y w10 ⟨rfl, hp⟩; refine ⟨_, rfl, ?_⟩; have HP := Lib.hid (put_fin (HI3.out.stay0 Stay.drew) (HM3.out.stay0 Stay.drew) HBA.out HFA.out HLT.out (HS3.out.trans Stay.drew) hp HCF.out HNR.out); clear hp))
        all_goals
          go_wp2
          go_ret
          exact ⟨rfl, .inr ⟨HRM.out, s, HSZ.out, HJ.out ▸ (Ixd.trans HST.out HP.out)⟩⟩
end Go.Proofs.YtljlfdhjolcnaaaGreat.Ix

/-
  index: Put, Drop, Levels, Held.
-/
namespace Go.Proofs.YtljlfdhjolcnaaaGreat.Ix
open Go.RowKit Go.Maps Me Mg
open Tb (tabB)
set_option maxRecDepth 100000
set_option linter.unusedVariables false

/-- What an entry laid in leaves. -/
def Laid (A : Nat → Prop) (w w' : World) (x : Nat) (I : Im) (e : En) : Prop :=
  (((getL I.A e.k).isSome = true ∨ I.A.length < I.m) ∧ Ixd A w w' x (I.put e)) ∨
      (¬ ((getL I.A e.k).isSome = true ∨ I.A.length < I.m) ∧ ∃ s, w.heap.size ≤ s ∧ Ixd A w w' x ((I.flush ⟨s, partsL I.A I.p, tabB I.A I.p I.q⟩).put e))
/-- A flush in between can be. -/
def MayF (I : Im) : Prop := Tb.Good I.A I.p I.q ∧ (tabB I.A I.p I.q).length ≤ 1048576 ∧ I.hd ≤ 900000 ∧ ∀ l ∈ I.LS, l.length ≤ 100000
theorem put_laid {A : Nat → Prop} (w : World) (x : Nat) (I : Im) (k v : List UInt8) (h : IxAt A w x I) (hl : ¬ 512 < k.length + v.length) (ha : I.A.length ≤ 1000) (hth : ((getL I.A k).isSome = true ∨ I.A.length < I.m) ∨ MayF I) :
    Calls Tryz.prog 15 #[.pointer (some ⟨x, 0, none⟩), strV k, strV v] w fun y w' => y = .returned .nilIface ∧ Laid A w w' x I ⟨k, v, false⟩ := by
  have HL := Lib.hid (lay_any w x I ⟨k, v, false⟩ h hl ha hth)
  unfold enV enC at HL
  clear h hl ha hth
  go_enter Tryz.func15, Tryz.ntmps15
  go_wp2_with fail
  refine HL.out.mono ?_
  rintro y w1 ⟨rfl, h⟩
  have H2 := Lib.hid h
  clear h HL
  go_wp2
  go_ret
  exact ⟨rfl, H2.out⟩
theorem put_long (w : World) (x : Nat) (k v : List UInt8) (hl : 512 < k.length + v.length) (hk : k.length ≤ 140737488351232) (hv : v.length ≤ 140737488351232) :
    Calls Tryz.prog 15 #[.pointer (some ⟨x, 0, none⟩), strV k, strV v] w fun y w' => y = .returned (.iface 66 (.int .i64 2)) ∧ Stay (fun _ => False) w w' := by
  have HL := Lib.hid (lay_long w x ⟨k, v, false⟩ hl hk hv)
  unfold enV enC at HL
  clear hl hk hv
  go_enter Tryz.func15, Tryz.ntmps15
  go_wp2_with fail
  refine HL.out.mono ?_
  rintro y w1 ⟨rfl, h⟩
  have H2 := Lib.hid h
  clear h HL
  go_wp2
  go_ret
  exact ⟨rfl, H2.out⟩
theorem drop_laid {A : Nat → Prop} (w : World) (x : Nat) (I : Im) (k : List UInt8) (h : IxAt A w x I) (hl : ¬ 512 < k.length) (ha : I.A.length ≤ 1000) (hth : ((getL I.A k).isSome = true ∨ I.A.length < I.m) ∨ MayF I) :
    Calls Tryz.prog 10 #[.pointer (some ⟨x, 0, none⟩), strV k] w fun y w' => y = .returned .nilIface ∧ Laid A w w' x I ⟨k, [], true⟩ := by
  have HL := Lib.hid (lay_any w x I ⟨k, [], true⟩ h hl ha hth)
  unfold enV enC at HL
  clear h hl ha hth
  go_enter Tryz.func10, Tryz.ntmps10
  go_wp2_with fail
  refine HL.out.mono ?_
  rintro y w1 ⟨rfl, h⟩
  have H2 := Lib.hid h
  clear h HL
  go_wp2
  go_ret
  exact ⟨rfl, H2.out⟩
theorem drop_long (w : World) (x : Nat) (k : List UInt8) (hl : 512 < k.length) (hk : k.length ≤ 140737488351232) :
    Calls Tryz.prog 10 #[.pointer (some ⟨x, 0, none⟩), strV k] w fun y w' => y = .returned (.iface 66 (.int .i64 2)) ∧ Stay (fun _ => False) w w' := by
  have HL := Lib.hid (lay_long w x ⟨k, [], true⟩ hl hk (Nat.zero_le _))
  unfold enV enC at HL
  clear hl hk
  go_enter Tryz.func10, Tryz.ntmps10
  go_wp2_with fail
  refine HL.out.mono ?_
  rintro y w1 ⟨rfl, h⟩
  have H2 := Lib.hid h
  clear h HL
  go_wp2
  go_ret
  exact ⟨rfl, H2.out⟩
/-- How many tables each level has. -/
def lensL (LS : List (List Sh)) : List Nat := LS.map List.length
set_option maxHeartbeats 1000000 in
theorem held_ix {A : Nat → Prop} (w : World) (x : Nat) (I : Im) (h : IxAt A w x I) (hh : I.hd ≤ 1000000) :
    Calls Tryz.prog 25 #[.pointer (some ⟨x, 0, none⟩)] w fun y w' => y = .returned (.int .i64 (I.hd : Int)) ∧ Stay (fun _ => False) w w' := by
  obtain ⟨B, F, a, v, vs, hB, hF, hl, h1, h2⟩ := h.ex
  have c6 : w.cell? ⟨x, 6, none⟩ = some (.int .i64 (I.hd : Int)) := h1.c rfl
  clear h h1 h2 hB hF hl
  go_enter Tryz.func25, Tryz.ntmps25
  go_wp2_with fail
  refine (load_any w x 6 (I.hd : Int) c6).mono ?_
  rintro y w1 ⟨rfl, rfl⟩
  have hw : IntKind.i64.wrap ((I.hd : Nat) : Int) = (I.hd : Int) := by
    rw [IntKind.wrap_i64]
    omega
  clear c6 hh
  go_wp2
  go_ret
  exact ⟨rfl, Stay.refl _ _⟩
set_option maxHeartbeats 2000000 in
theorem levels_ix {A : Nat → Prop} (w : World) (x : Nat) (I : Im) (h : IxAt A w x I) (hn : I.LS.length ≤ 100000) :
    Calls Tryz.prog 19 #[.pointer (some ⟨x, 0, none⟩)] w fun y w' => ∃ v, y = .returned v ∧ Bo.IO w.heap.size w' v (lensL I.LS) ∧ Stay (fun _ => False) w w' := by
  obtain ⟨B, F, a, v, vs, hB, hF, hl, h1, h2⟩ := h.ex
  have c5 : w.cell? ⟨x, 5, none⟩ = some v := h1.c rfl
  have HLV := Lib.hid h1.lv
  have HLL := Lib.hid (show (lvs I.LS).length = I.LS.length by simp [lvs])
  have HVL := Lib.hid (show vs.length = I.LS.length by rw [h1.lv.len]; simp [lvs])
  obtain ⟨n, hnn⟩ : ∃ n, n = I.LS.length := ⟨_, rfl⟩
  obtain ⟨va, vc, hv⟩ : ∃ va vc, v = .slice va n vc := by obtain ⟨p, q, e⟩ := h1.lv.out.form; exact ⟨p, q, by rw [e, HVL.out, hnn]⟩
  rw [hv] at c5
  have HV := Lib.hid hv
  have HN := Lib.hid hnn
  have hnb : (n : Int) ≤ 100000 := by omega
  have hnb0 : n ≤ 100000 := by omega
  clear h h1 h2 hB hF hl hnn hn hv
  go_enter Tryz.func19, Tryz.ntmps19
  obtain ⟨b2, hb2⟩ : ∃ b2, b2 = w.heap.size := ⟨_, rfl⟩
  go_wp2_with (with_reducible refine Bo.make_int rfl (.tmp 12) (.tmp 12) rfl n rfl rfl (by omega) ?_; intro w3 ho3 hs3 hz3; have HO := Lib.hid ho3; have HS := Lib.hid hs3; have d5 := hs3.cell c5 (fun x => x); clear ho3 hs3 hz3)
  rw [← hb2] at HO ⊢
  have HB2 := Lib.hid hb2
  clear d5 hb2
  go_loopw [19] (fun i wr => ∃ j : Nat, i = .int .i64 (j : Int) ∧ j ≤ n ∧ Hid (Bo.IO b2 wr (.slice (some ⟨b2, 0, none⟩) n n) ((lensL I.LS).take j ++ List.replicate (n - j) 0)) ∧ Hid (Stay (fun k => k = b2) w3 wr)) (fun i _ => n - (intOf i).toNat)
  case atStart => exact ⟨0, rfl, Nat.zero_le _, Lib.hid HO.out, Lib.hid (Stay.refl _ _)⟩
  case round =>
    obtain ⟨j, rfl, hj, HO1, HS1⟩ := hrel
    have hlen : n = ((lensL I.LS).take j ++ List.replicate (n - j) 0).length := by
      have := HN.out
      simp [lensL]
      omega
    by_cases hlt : j < n
    · obtain ⟨l, hl⟩ : ∃ l, I.LS[j]? = some l := ⟨_, List.getElem?_eq_getElem (by have := HN.out; omega)⟩
      obtain ⟨u, hu, hr⟩ := HLV.out.at (lvs_at hl)
      obtain ⟨ua, uc, hue⟩ := hr.form
      rw [len_ptrs, List.length_map] at hue
      obtain ⟨go, gc, hge, _⟩ := HLV.out.out.at (by have := HVL.out; have := HN.out; omega)
      have hva : va = some ⟨go, 0, none⟩ := by
        rw [HV.out] at hge
        cases hge
        rfl
      subst hva
      have hb : b2 ≠ go := by
        have h1 := (HLV.out.out.lt go (by rw [HV.out]; rfl)).2
        rw [HB2.out]
        omega
      have c0 : wr.cell? ⟨go, j, none⟩ = some u := HS1.out.cell (HS.out.cell ((HV.out ▸ HLV.out.out : CO 0 _ w (.slice (some ⟨go, 0, none⟩) n vc) vs).cell hu) (fun x => x)) (fun h => hb h.symm)
      obtain ⟨m, hm⟩ : ∃ m, m = l.length := ⟨_, rfl⟩
      rw [hue, ← hm] at c0
      have hcj : wr.cell? ⟨b2, j, none⟩ = some (.int .i64 0) := Bo.IO.cell' (n := 0) hlen HO1.out (by
        rw [List.getElem?_append_right (by simp [lensL]; omega)]
        have e1 : ((lensL I.LS).take j).length = j := by have := HN.out; simp [lensL]; omega
        rw [e1, Nat.sub_self, List.getElem?_replicate, if_pos (by omega)])
      have hfr := Bo.IO.fr hlen HO1.out j
      have HSET := Lib.hid (show ((lensL I.LS).take j ++ List.replicate (n - j) 0).set j m = (lensL I.LS).take (j + 1) ++ List.replicate (n - (j + 1)) 0 by
        have e1 : ((lensL I.LS).take j).length = j := by have := HN.out; simp [lensL]; omega
        have e2 : (lensL I.LS)[j]? = some m := by simp [lensL, hl, hm]
        rw [List.set_append_right _ _ (by rw [e1]; exact Nat.le_refl _), e1, Nat.sub_self, show n - j = (n - (j + 1)) + 1 by omega, List.replicate_succ, List.set_cons_zero, List.take_add_one, e2]
        simp)
      clear hu hr hge hue hl hm hb hlen
      go_wp2
      refine ⟨⟨j + 1, by go_num, hlt, Lib.hid ?_, Lib.hid (HS1.out.trans (Stay.setCell _ ⟨b2, j, none⟩ _ rfl))⟩, by simp [intOf]; omega⟩
      rw [← HSET.out]
      exact Bo.IO.set (by have := HN.out; simp [lensL]; omega) HO1.out j m
    · obtain rfl : j = n := by omega
      clear hlen
      go_wp2
      go_ret
      have h1 := HO1.out
      rw [Nat.sub_self, List.replicate_zero, List.append_nil, List.take_of_length_le (by have := HN.out; simp [lensL]; omega)] at h1
      exact ⟨_, rfl, HB2.out ▸ h1, stay_seal (X := fun i => w.heap.size ≤ i) ((HS.out.mono (fun _ x => x.elim)).trans (HS1.out.mono (fun i (hi : i = b2) => by have := HB2.out; omega))) (fun i hi => hi)⟩
end Go.Proofs.YtljlfdhjolcnaaaGreat.Ix

/-
  index: a reader of tables.
-/
namespace Go.Proofs.YtljlfdhjolcnaaaGreat.Ix
open Go.RowKit Go.Maps Me Mg
set_option maxRecDepth 100000
set_option linter.unusedVariables false

/-- Tables that are read, in a slice. -/
structure Srcs (G : Prop) (W : World) (tv : Value) (Q : List Sh) : Prop where
  ps : CS W tv (ptrs (Q.map (·.s)))
  sh : ∀ q ∈ Q, ShR G W q
  ok : ∀ q ∈ Q, q.Ok
theorem Srcs.stay0 {G : Prop} {W W' : World} {tv : Value} {Q : List Sh} (h : Srcs G W tv Q) (hs : Stay (fun _ => False) W W') : Srcs G W' tv Q := ⟨h.ps.stay0 hs, fun q hq => (h.sh q hq).stay0 hs, h.ok⟩
set_option maxHeartbeats 2000000 in
theorem readerOf_any {G : Prop} (w : World) (tv : Value) (Q : List Sh) (h : Srcs G w tv Q) (hQ : Q.length ≤ 900) (hz : ∀ q ∈ Q, q.L.length ≤ 1000) :
    Calls Tryz.prog 39 #[tv] w fun e w' => ∃ r, e = .returned (.tuple #[.pointer (some ⟨r, 0, none⟩), .nilIface]) ∧ RdS (fun k => w.heap.size ≤ k) w' r (allN (Q.map (·.L))) Q.length ∧ Stay (fun _ => False) w w' := by
  have HH := Lib.hid h
  obtain ⟨ta, tc, rfl⟩ := h.ps.form
  have hl : (ptrs (Q.map (·.s))).length = Q.length := by rw [len_ptrs, List.length_map]
  rw [hl] at HH ⊢
  have hQI : (Q.length : Int) ≤ 900 := by omega
  have HQL := Lib.hid hQ
  have HZ := Lib.hid hz
  clear h hl hQ hz
  go_enter Tryz.func39, Tryz.ntmps39
  go_wp2_with fail
  go_loopw [4, 11] (fun v i wr => ∃ j : Nat, i = .int .i64 (j : Int) ∧ j ≤ Q.length ∧ Hid (LsO w.heap.size wr v ((Q.map (·.L)).take j)) ∧ Hid (Stay (fun _ => False) w wr)) (fun _ i _ => Q.length - (intOf i).toNat)
  case atStart => exact ⟨0, rfl, Nat.zero_le _, Lib.hid (LsO.nil _ _), Lib.hid (Stay.refl _ _)⟩
  case round =>
    obtain ⟨j, rfl, hj, HV, HS⟩ := hrel
    have HW := Lib.hid (HH.out.stay0 HS.out)
    by_cases hlt : j < Q.length
    · obtain ⟨q, hq⟩ : ∃ q, Q[j]? = some q := ⟨_, List.getElem?_eq_getElem hlt⟩
      have hqp : (ptrs (Q.map (·.s)))[j]? = some (ptrV q.s) := at_ptrs (by simp [hq])
      obtain ⟨gt, o, rfl, _, hc⟩ := HW.out.ps.at (by rw [len_ptrs, List.length_map]; omega)
      have cq := hc j _ hqp
      unfold ptrV at cq
      obtain ⟨t, ht, hcalls⟩ := HW.out.sh q (List.mem_of_getElem? hq)
      unfold ptrV at ht
      have HEN := Lib.hid (hcalls wr (Stay.refl _ _)).1.all
      unfold ptrV at HEN
      obtain ⟨M, hM⟩ : ∃ M, M = (Q.map (·.L)).take j := ⟨_, rfl⟩
      have HNX := Lib.hid (show (Q.map (·.L)).take (j + 1) = M ++ [q.L] by rw [hM, List.take_add_one]; simp [hq])
      rw [← hM] at HV
      have HML := Lib.hid (show M.length ≤ 1000000 by have := HQL.out; rw [hM]; simp; omega)
      obtain ⟨va, vc, rfl⟩ := HV.out.form
      generalize q.s = s at *
      clear hc hqp hq hM hcalls
      go_wp2_with (fail)
      refine HEN.out.mono ?_
      rintro y w3 ⟨⟨v3, rfl, ho3⟩, hs3⟩
      obtain ⟨a3, n3, m3, rfl⟩ : ∃ a n c, v3 = .slice a n c := (by obtain ⟨p, q, e⟩ := ho3.form; exact ⟨p, _, q, e⟩)
      have HO3 := Lib.hid (show EnO w.heap.size w3 _ q.L from ho3.rebase (fun k hk => Nat.le_trans HS.out.size (ho3.lt k hk).1))
      have HV3 := Lib.hid (HV.out.stay0 hs3)
      have HS3 := Lib.hid (HS.out.trans hs3)
      have HA3 := Lib.hid (show Stay (fun _ => False) w3 (w3.alloc (.cells #[.slice a3 n3 m3] 34)) from Stay.alloc _ _)
      have HC3 := Lib.hid (show (w3.alloc (.cells #[.slice a3 n3 m3] 34)).cell? ⟨w3.heap.size, 0, none⟩ = some (.slice a3 n3 m3) from by rw [cell_of_row _ w3.heap.size 0 _ _ _ (heap_alloc_new w3 _)]; rfl)
      clear ho3 hs3 cq ht HEN HH HW HZ
      go_wp2_with (at_builtin
                   refine wpList_append_ls rfl (.tmp 26) (.tmp 28) 51 rfl Tryz.underlying51 w3.heap.size 1 (.slice a3 n3 m3) q.L rfl rfl (HV3.out.stay0 HA3.out) (HO3.out.stay0 HA3.out) rfl HC3.out HML.out (HS3.out.trans HA3.out).size ?_
                   intro v4 w4 ho4 hs4 hb4
                   have HO4 := Lib.hid ho4
                   have HS4 := Lib.hid (show Stay (fun _ => False) w w4 from stay_seal (X := fun k => w.heap.size ≤ k) (((HS3.out.trans HA3.out).mono (fun _ x => x.elim)).trans (hs4.mono (fun k hk => (HV3.out.lt k hk).1))) (fun k hk => hk))
                   clear ho4 hs4 hb4)
      exact ⟨⟨j + 1, by go_num, hlt, Lib.hid (by rw [HNX.out]; exact HO4.out), HS4⟩, by simp [intOf]; omega⟩
    · obtain rfl : j = Q.length := by omega
      have HV2 := Lib.hid (show LsO w.heap.size wr _ (Q.map (·.L)) from by have h1 := HV.out; rwa [List.take_of_length_le (by simp)] at h1)
      have HNW := Lib.hid (Mg.new_any wr _ (Q.map (·.L)) HV2.out.ess (by have := HQL.out; simp; omega) (fun L hL => by
        obtain ⟨q, hq, rfl⟩ := List.mem_map.1 hL
        exact HZ.out q hq))
      have HSO := Lib.hid (show ∀ L ∈ Q.map (·.L), Sorted L from fun L hL => by
        obtain ⟨q, hq, rfl⟩ := List.mem_map.1 hL
        exact (HH.out.ok q hq).srt)
      obtain ⟨va, vn, vc, rfl⟩ : ∃ va vn vc, u4 = .slice va vn vc := by obtain ⟨a, c, e⟩ := HV.out.form; exact ⟨a, _, c, e⟩
      clear hj hlt
      go_wp2_with (fail)
      refine HNW.out.mono ?_
      rintro y w3 ⟨hs3, hc⟩
      rcases hc with ⟨r, _, rfl, hr⟩ | ⟨hno, _⟩
      · have HR := Lib.hid (show RdS (fun k => w.heap.size ≤ k) w3 r (allN (Q.map (·.L))) Q.length from by
          have h1 := hr.mono (A' := fun k => w.heap.size ≤ k) (fun k _ hk => Nat.le_trans HS.out.size hk)
          rwa [List.length_map] at h1)
        have HS3 := Lib.hid (HS.out.trans hs3)
        clear hs3 hr
        go_wp2
        go_ret2
        exact ⟨r, rfl, HR.out, HS3.out⟩
      · exact absurd HSO.out hno
end Go.Proofs.YtljlfdhjolcnaaaGreat.Ix

