/-
  Slices of bytes: the call's own, and those that are read; appended; cut; how they come in; as a text. Over any package.
-/
import Derived.Test.YtddgkckgbmgghaaRows
import Derived.Test.YtddgkckgbmgghaaFlat
import Derived.WalkSpells
import Derived.WalkLawsBesides
import Derived.Lib.Hide
import Derived.Deep.RegionWith
import Derived.IntWalk
import Derived.OneCell
import Derived.Laws.OwnMore
import Derived.Laws.IdiomStrings
import Derived.Laws.BytesArg
import Derived.Maps.AppendAt
import Derived.Deep.Slices
import Derived.SizedLaws
import Derived.ProofKit
namespace Go.Proofs.Ytddgkckgbmgghaa
open Go.ChangeShapes Go.WideShapes Go.ChangeAt Go.RowKit Go.Deep
set_option maxRecDepth 100000

/-- A slice of bytes of the call's own. -/
def Owns (base : Nat) (w : World) (v : Value) (l : List UInt8) : Prop := w.ownsRow base 5 1 v l.length (cellsB l)

theorem Owns.alloc {base : Nat} {w : World} {v : Value} {l : List UInt8} (h : Owns base w v l) (o : Obj) : Owns base (w.alloc o) v l := World.ownsRow.alloc h o
theorem Owns.one (w : World) (c : UInt8) (base : Nat) (hb : base ≤ w.heap.size) (w' : World) (hw : w' = w.alloc (.cells #[byteV c] 5)) : Owns base w' (.slice (some ⟨w.heap.size, 0, none⟩) 1 1) [c] := by
  subst hw
  exact ⟨rfl, .inr ⟨w.heap.size, 1, #[byteV c], rfl, hb, heap_alloc_new w _, Nat.le_refl _, by decide, rfl, rfl⟩⟩
theorem Owns.drew {base : Nat} {w : World} {v : Value} {l : List UInt8} (h : Owns base w v l) : Owns base w.drew v l := h
theorem owns_join {base : Nat} {w : World} {v : Value} {l l2 : List UInt8} {m : Nat} {news : List Value} (h : w.ownsRow base 5 1 v (l.length + m) (cellsB l ++ news)) (e : news = cellsB l2) (hm : m = l2.length) : Owns base w v (l ++ l2) := by
  subst e
  subst hm
  unfold Owns
  rw [List.length_append]
  have : cellsB (l ++ l2) = cellsB l ++ cellsB l2 := by simp [cellsB]
  rw [this]
  exact h
theorem stay_append {w wr w1 : World} {v : Value} {l : List UInt8} {base : Nat} (hst : Stay (fun _ => False) w wr) (how : Owns base wr v l) (hb : w.heap.size ≤ base) (o : Obj) (hgr : (wr.alloc o).grownBy w1 v.ownBlock) : Stay (fun _ => False) w w1 :=
  (hst.trans (Stay.alloc wr o)).andThen (Stay.grown (X := fun k => base ≤ k) hgr (fun k hk => (World.ownsRow.lt how k hk).1)) (fun i hi hx => absurd hi (by have hx' : base ≤ i := hx; omega))

theorem news_one (w : World) (x : Value) (t : TypeId) : ∀ (j : Nat) u, [x][j]? = some u → (w.alloc (.cells #[x] t)).cell? ((⟨w.heap.size, 0, none⟩ : Addr).add j) = some u := by
  intro j u hu
  have hj : j = 0 := by
    have := (List.getElem?_eq_some_iff.1 hu).1
    simp at this
    omega
  subst hj
  rw [add_at, World.cell?_alloc_at _ _ _ _ rfl]
  simpa using hu
theorem news_int (k : IntKind) (x : Int) : ∀ u ∈ [Value.int k x], u.oneCell' = true := by
  intro u hu
  rw [List.mem_singleton.1 hu]
  rfl

theorem info5 : (Try.prog.info? 5).map (fun i => (i.zero, i.size, i.bytes)) = some (some (.int .u8 0), 1, 1) := by kernel_rfl

/-- The address behind which these bytes lie, if there are any. -/
def ReadsAs (w : World) (sp : Option Addr) (l : List UInt8) : Prop := 0 < l.length → ∃ ad : Addr, sp = some ad ∧ ∀ j v, (cellsB l)[j]? = some v → w.cell? (ad.add j) = some v

/-- A slice that reads as bytes: nil, empty or not. -/
def Slc (w : World) (x : Value) (b : List UInt8) : Prop := ∃ a0 c, x = .slice a0 b.length c ∧ ReadsAs w a0 b ∧ (a0 = none → c = 0) ∧ b.length ≤ c ∧ c ≤ 9223372036854775807

theorem stay_drewN {X : Nat → Prop} (w : World) (n : Nat) : Stay X w (w.drewN n) := ⟨rfl, rfl, rfl, Nat.le_refl _, fun _ _ _ => rfl⟩

theorem ReadsAs.stay {X : Nat → Prop} {w w' : World} {sp : Option Addr} {l : List UInt8} (h : ReadsAs w sp l) (hs : Stay X w w') (hx : 0 < l.length → ∀ ad, sp = some ad → ¬ X ad.block) : ReadsAs w' sp l := by
  intro h0
  obtain ⟨ad, e, hc⟩ := h h0
  refine ⟨ad, e, fun j v hv => hs.cell (hc j v hv) ?_⟩
  have hb : (ad.add j).block = ad.block := by unfold Addr.add; split <;> rfl
  rw [hb]
  exact hx h0 ad e
theorem ReadsAs.stay0 {w w' : World} {sp : Option Addr} {l : List UInt8} (h : ReadsAs w sp l) (hs : Stay (fun _ => False) w w') : ReadsAs w' sp l := h.stay hs (fun _ _ _ x => x)
theorem Slc.stay0 {w w' : World} {x : Value} {l : List UInt8} (h : Slc w x l) (hs : Stay (fun _ => False) w w') : Slc w' x l := by
  obtain ⟨a0, c, e, hr, hn⟩ := h
  exact ⟨a0, c, e, hr.stay0 hs, hn⟩
theorem Slc.alloc {w : World} {x : Value} {l : List UInt8} (h : Slc w x l) (o : Obj) : Slc (w.alloc o) x l := h.stay0 (Stay.alloc w o)

theorem Owns.slc {base : Nat} {w : World} {v : Value} {l : List UInt8} (h : Owns base w v l) : Slc w v l := by
  have hc := fun g hg => World.ownsRow.cells (g := g) h hg
  rcases h.2 with ⟨e, hn⟩ | ⟨g, cap, cur, e, _, _, h1, h2, _⟩
  · have : l = [] := List.eq_nil_of_length_eq_zero hn
    subst this
    exact ⟨none, 0, e, fun h => by simp at h, fun _ => rfl, Nat.le_refl _, by decide⟩
  · refine ⟨_, cap, e, fun _ => ⟨_, rfl, ?_⟩, (fun h => by cases h), h1, by unfold maxLen at h2; omega⟩
    subst e
    exact hc g rfl
theorem Owns.stay {base : Nat} {X : Nat → Prop} {w w' : World} {v : Value} {l : List UInt8} (h : Owns base w v l) (hs : Stay X w w') (hx : ∀ k, v.ownBlock = some k → ¬ X k) : Owns base w' v l := by
  refine ⟨h.1, ?_⟩
  rcases h.2 with h' | ⟨g, cap, cur, rfl, h1, hg, r⟩
  · exact .inl h'
  · exact .inr ⟨g, cap, cur, rfl, h1, (hs.block g (Array.getElem?_eq_some_iff.1 hg).1 (hx g rfl)).trans hg, r⟩
theorem Owns.stay0 {base : Nat} {w w' : World} {v : Value} {l : List UInt8} (h : Owns base w v l) (hs : Stay (fun _ => False) w w') : Owns base w' v l := h.stay hs (fun _ _ x => x)
theorem Owns.lt {base : Nat} {w : World} {v : Value} {l : List UInt8} (h : Owns base w v l) : ∀ k, v.ownBlock = some k → base ≤ k ∧ k < w.heap.size := World.ownsRow.lt h
theorem Owns.base {base base' : Nat} {w : World} {v : Value} {l : List UInt8} (h : Owns base w v l) (hb : ∀ k, v.ownBlock = some k → base' ≤ k) : Owns base' w v l := by
  refine ⟨h.1, ?_⟩
  rcases h.2 with h' | ⟨g, cap, cur, rfl, h1, r⟩
  · exact .inl h'
  · exact .inr ⟨g, cap, cur, rfl, hb g rfl, r⟩
theorem Owns.nil (base : Nat) (w : World) : Owns base w (.slice none 0 0) [] := World.ownsRow_nil w base _ _
theorem Owns.empty (base : Nat) (w : World) (hb : base ≤ w.heap.size) : Owns base (w.alloc (.cells #[] 5)) (.slice (some ⟨w.heap.size, 0, none⟩) 0 0) [] := World.ownsRow_lit w #[] 0 hb (Nat.zero_le _) rfl
theorem Owns.form {base : Nat} {w : World} {v : Value} {l : List UInt8} (h : Owns base w v l) : ∃ a c, v = .slice a l.length c := by
  rcases h.2 with ⟨e, hn⟩ | ⟨g, cap, cur, e, _⟩
  · exact ⟨none, 0, by rw [e, hn]⟩
  · exact ⟨_, _, e⟩
theorem Owns.size {base : Nat} {w : World} {v : Value} {l : List UInt8} (h : Owns base w v l) : l.length ≤ 9223372036854775807 := by
  rcases h.2 with ⟨_, h'⟩ | ⟨g, cap, cur, _, _, _, h1, h2, _⟩
  · omega
  · unfold maxLen at h2; omega

section
variable {P : Program}
/-- Bytes appended to a slice of the call's own, from whatever slice. -/
theorem run_append_slc (w : World) (base : Nat) (t ty : TypeId) (i : TypeInfo) (ht : P.underlying t = some (.slice 5)) (hi : P.info? 5 = some i) (hz : i.zero = some (.int .u8 0)) (hsize : i.size = 1) (hby : i.bytes = 1)
    (v x : Value) (l b : List UInt8) (hown : Owns base w v l) (hx : Slc w x b) (hlen : l.length + b.length ≤ 140737488355328) (hbase : base ≤ w.heap.size) :
    ∃ v' w', (Builtin.append_ #[t, t] ty #[v, x]).run P w = .ok v' w' ∧ Owns base w' v' (l ++ b) ∧ w.grownBy w' v.ownBlock ∧ (v'.ownBlock = v.ownBlock ∨ v'.ownBlock = some w.heap.size) := by
  obtain ⟨a0, c, rfl, hr, hn, _⟩ := hx
  have nil : b = [] → ∀ h : (Builtin.append_ #[t, t] ty #[v, .slice a0 b.length c]).run P w = .ok v w, ∃ v' w', (Builtin.append_ #[t, t] ty #[v, .slice a0 b.length c]).run P w = .ok v' w' ∧ Owns base w' v' (l ++ b) ∧ w.grownBy w' v.ownBlock ∧ (v'.ownBlock = v.ownBlock ∨ v'.ownBlock = some w.heap.size) := by
    rintro rfl h
    exact ⟨v, w, h, by rw [List.append_nil]; exact hown, ⟨rfl, rfl, rfl, Nat.le_refl _, fun _ _ _ => rfl⟩, .inl rfl⟩
  cases a0 with
  | none =>
    have hb : b = [] := by
      rcases Nat.eq_zero_or_pos b.length with h0 | h0
      · exact List.eq_nil_of_length_eq_zero h0
      · obtain ⟨ad, e, _⟩ := hr h0
        cases e
    refine nil hb ?_
    subst hb
    rw [hn rfl]
    exact run_append_owned_none (P := P) w base t ty _ i 1 ht hi v l.length (cellsB l) hown
  | some ad =>
    have hcells : ∀ j u, (cellsB b)[j]? = some u → w.cell? (ad.add j) = some u := by
      intro j u hu
      have h0 : 0 < b.length := by
        have := (List.getElem?_eq_some_iff.1 hu).1
        rw [length_cellsB] at this
        omega
      obtain ⟨ad', e, hc⟩ := hr h0
      cases e
      exact hc j u hu
    obtain ⟨v', w', hrun, h2, h3, _, h5⟩ := run_append_own_at (P := P) w base t ty _ i (.int .u8 0) 1 1 ht hi hz hsize hby rfl (by decide) v l.length (cellsB l) hown ad b.length c (cellsB b) (by rw [length_cellsB, Nat.mul_one]) hcells (oneCell_cellsB b)
      (by unfold maxLen; omega) (by omega) hbase
    exact ⟨v', w', hrun, owns_join h2 rfl rfl, h3, h5⟩

theorem wpList_append_slc {ops : Array Oper} {rest : List Oper} {o : Oper} {a : Act} {w : World} {Q : Exit → Act → World → Prop} (hgd : o.guard = none) (s x : Operand) (t : TypeId)
    (ho : o.op = .call { callee := .builtin .append, args := #[s, x], argTypes := #[t, t] }) (base : Nat) (i : TypeInfo) (ht : P.underlying t = some (.slice 5)) (hi : P.info? 5 = some i) (hz : i.zero = some (.int .u8 0)) (hsize : i.size = 1) (hby : i.bytes = 1)
    (vs vx : Value) (l b : List UInt8) (hs : a.eval s = vs) (hx : a.eval x = vx) (hown : Owns base w vs l) (hsrc : Slc w vx b) (hlen : l.length + b.length ≤ 140737488355328) (hbase : base ≤ w.heap.size)
    (h : ∀ v' w', Owns base w' v' (l ++ b) → w.grownBy w' vs.ownBlock → (v'.ownBlock = vs.ownBlock ∨ v'.ownBlock = some w.heap.size) → wpList P ops Q rest (a.put o.dst v') w') : wpList P ops Q (o :: rest) a w :=
  wpList_plain hgd fun _ hK => by
    obtain ⟨v', w', hrun, h2, h3, h4⟩ := run_append_slc (P := P) w base t o.type i ht hi hz hsize hby vs vx l b hown hsrc hlen hbase
    unfold Oper.wp execOp
    simp only [ho, resolve, invoke, builtin, Sem.run_bind, Sem.run_pure, Result.andThen_ok, List.map_toArray, List.map_cons, List.map_nil, hs, hx, hrun]
    exact hK _ _ (h v' w' h2 h3 h4)
/-- The same as one step of a region that draws. -/
theorem step_append_slc {ops : Array Oper} {o : Oper} {a : Act} {w : World} {K : Act → World → Prop} {Q : Exit → Act → World → Prop} {E : Prop} (hgd : o.guard = none) (s x : Operand) (t : TypeId)
    (ho : o.op = .call { callee := .builtin .append, args := #[s, x], argTypes := #[t, t] }) (base : Nat) (i : TypeInfo) (ht : P.underlying t = some (.slice 5)) (hi : P.info? 5 = some i) (hz : i.zero = some (.int .u8 0)) (hsize : i.size = 1) (hby : i.bytes = 1)
    (vs vx : Value) (l b : List UInt8) (hs : a.eval s = vs) (hx : a.eval x = vx) (hown : Owns base w vs l) (hsrc : Slc w vx b) (hlen : l.length + b.length ≤ 140737488355328) (hbase : base ≤ w.heap.size)
    (h : ∀ v' w', Owns base w' v' (l ++ b) → w.grownBy w' vs.ownBlock → (v'.ownBlock = vs.ownBlock ∨ v'.ownBlock = some w.heap.size) → K (a.put o.dst v') w') :
    if Region.wanted o (yielded ops a.tmps) = true then Oper.wp P o a w K Q else E := by
  have hw : Region.wanted o (yielded ops a.tmps) = true := by simp [Region.wanted, hgd]
  rw [if_pos hw]
  obtain ⟨v', w', hrun, h2, h3, h4⟩ := run_append_slc (P := P) w base t o.type i ht hi hz hsize hby vs vx l b hown hsrc hlen hbase
  unfold Oper.wp execOp
  simp only [ho, resolve, invoke, builtin, Sem.run_bind, Sem.run_pure, Result.andThen_ok, List.map_toArray, List.map_cons, List.map_nil, hs, hx, hrun]
  exact h v' w' h2 h3 h4
end

theorem Slc.first {w : World} {a0 : Option Addr} {b : List UInt8} {c k : Nat} (h : Slc w (.slice a0 b.length c) b) (hk : k ≤ b.length) : Slc w (.slice a0 k c) (b.take k) := by
  obtain ⟨a1, c1, e, hr, hn, hc, hm⟩ := h
  cases e
  have hl : (b.take k).length = k := by rw [List.length_take]; omega
  refine ⟨a0, c, by rw [hl], fun h0 => ?_, hn, by omega, hm⟩
  obtain ⟨ad, e, hcell⟩ := hr (by omega)
  refine ⟨ad, e, fun j v hv => hcell j v ?_⟩
  simp only [cellsB, List.map_take, List.getElem?_take] at hv
  split at hv
  · exact hv
  · cases hv

theorem Owns.at {base : Nat} {w : World} {v : Value} {l : List UInt8} (h : Owns base w v l) (h0 : 0 < l.length) : ∃ g cap, v = .slice (some ⟨g, 0, none⟩) l.length cap ∧ l.length ≤ cap ∧ cap ≤ 9223372036854775807 := by
  rcases h.2 with ⟨_, hn⟩ | ⟨g, cap, cur, e, _, _, h1, h2, _⟩
  · omega
  · exact ⟨g, cap, e, h1, by unfold maxLen at h2; omega⟩

theorem stay_seal {X : Nat → Prop} {w w' : World} (h : Stay X w w') (hx : ∀ k, X k → w.heap.size ≤ k) : Stay (fun _ => False) w w' :=
  ⟨h.os, h.tape, h.output, h.size, fun k hk _ => h.block k hk (fun hX => by have := hx k hX; omega)⟩

/-- Bytes as a text. -/
def strV (b : List UInt8) : Value := .string ⟨b.toArray⟩
theorem conv_slc {w : World} {x : Value} {b : List UInt8} (h : Slc w x b) : (convert 32 9 x).run Try.prog w = .ok (strV b) w := by
  obtain ⟨a0, c, rfl, hr, hn, _⟩ := h
  cases a0 with
  | none =>
    have hb : b = [] := by
      rcases Nat.eq_zero_or_pos b.length with h0 | h0
      · exact List.eq_nil_of_length_eq_zero h0
      · obtain ⟨ad, e, _⟩ := hr h0
        cases e
    subst hb
    exact run_convert_bytes_nil (P := Try.prog) w 32 5 Try.underlying32 Try.underlying5 _ _ _ Try.underlying9
  | some ad =>
    refine run_convert_bytes_back (P := Try.prog) w 32 9 5 ad c b Try.underlying32 Try.underlying5 Try.underlying9 (fun j hj => ?_)
    obtain ⟨ad', e, hc⟩ := hr (by omega)
    cases e
    exact hc j _ (by simp [cellsB, byteV, List.getElem?_eq_getElem hj])

/-- A block of bytes, marked or not, as a slice. -/
theorem slc_block (w : World) (l : List UInt8) (t : TypeId) (fr : Nat × Nat) (hl : l.length ≤ 9223372036854775807) : Slc (w.alloc (.cells (cellsB l).toArray t fr)) (.slice (some ⟨w.heap.size, 0, none⟩) l.length l.length) l := by
  refine ⟨_, _, rfl, fun _ => ⟨_, rfl, fun j v hv => ?_⟩, (fun h => by cases h), Nat.le_refl _, hl⟩
  rw [add_at, Nat.zero_add]
  rw [cell_of_row _ _ _ _ _ _ (heap_alloc_new w _)]
  simpa using hv
/-- What stays of a slice behind k bytes: where it lies, and what it reads. -/
def Sub (w : World) (x v : Value) (r : List UInt8) : Prop := Slc w v r ∧ ∀ k, v.ownBlock = some k → x.ownBlock = some k

theorem Slc.cut {w : World} {a0 : Option Addr} {b : List UInt8} {c k : Nat} (h : Slc w (.slice a0 b.length c) b) (hk : k ≤ b.length) :
    Sub w (.slice a0 b.length c) (.slice (if c = k then a0 else a0.map (·.add k)) (b.length - k) (c - k)) (b.drop k) := by
  obtain ⟨a1, c1, e, hr, hn, hc, hm⟩ := h
  cases e
  refine ⟨⟨_, c - k, by rw [List.length_drop], fun h0 => ?_, fun e => ?_, by rw [List.length_drop]; omega, by omega⟩, fun g hg => ?_⟩
  · rw [List.length_drop] at h0
    obtain ⟨ad, rfl, hcell⟩ := hr (by omega)
    rw [if_neg (by omega)]
    refine ⟨_, rfl, fun j v hv => ?_⟩
    have hv' : (cellsB b)[k + j]? = some v := by
      rw [← hv]
      simp [cellsB]
    have := hcell _ v hv'
    have e2 : (ad.add k).add j = ad.add (k + j) := by
      unfold Addr.add
      by_cases h1 : k = 0 <;> by_cases h2 : j = 0 <;> simp [h1, h2, Nat.add_assoc]
    rw [e2]
    exact this
  · split at e
    · have := hn e
      omega
    · cases a0 with
      | none => have := hn rfl; omega
      | some ad => cases e
  · split at hg
    · cases a0 <;> exact hg
    · cases a0 with
      | none => cases hg
      | some ad =>
        have : (ad.add k).block = ad.block := by unfold Addr.add; split <;> rfl
        simp only [Option.map_some, Value.ownBlock, this] at hg
        exact hg
theorem Sub.trans {w : World} {x v u : Value} {r s : List UInt8} (h : Sub w x v r) (h2 : Sub w v u s) : Sub w x u s := ⟨h2.1, fun k hk => h.2 k (h2.2 k hk)⟩
theorem Sub.stay0 {w w' : World} {x v : Value} {r : List UInt8} (h : Sub w x v r) (hs : Stay (fun _ => False) w w') : Sub w' x v r := ⟨h.1.stay0 hs, h.2⟩

theorem cells5 : Try.prog.cellsOf 5 = 1 := by kernel_rfl
theorem bytes5 : Try.prog.bytesOf 5 = 1 := by kernel_rfl

theorem byte_of_wf {x : Int} (h : (Lit.int .u8 x).wf = true) : ∃ b : UInt8, Value.int .u8 x = byteV b := by
  have e1 : IntKind.u8.min = 0 := by decide
  have e2 : IntKind.u8.max = 255 := by decide
  simp only [Lit.wf, e1, e2, Bool.and_eq_true, decide_eq_true_eq] at h
  refine ⟨UInt8.ofNat x.toNat, ?_⟩
  have e3 : (UInt8.ofNat x.toNat).toNat = x.toNat := by simp; omega
  unfold byteV
  rw [e3]
  congr 1
  omega

section
variable {H : Type} {enc : TypeId × Value → H}

theorem open_slc {w : World} {d : DataW H} {p : List MemPlace} {a0 : Option Addr} {n c : Nat} (h : DataW.Trod enc Try.prog w 0 (fun _ => true) true 32 (.slice a0 n c) d p) :
    ∃ l : List UInt8, n = l.length ∧ Slc w (.slice a0 n c) l ∧ (0 < l.length → ∃ e s : List (DataW H), d = .slice e s ∧ e.length = l.length) := by
  obtain ⟨fuel, hf⟩ := h
  have hf' : DataW.trod enc Try.prog w 0 (fun _ => true) true fuel 32 [.slice a0 n c] = some (d, p) := hf
  rcases open_slice1 Try.underlying32 cells5 hf' with ⟨h0, _⟩ | ⟨a, len, cap, m, k, V, D, Pl, h0, _, hl, hm, hmm, hd, hx⟩
  · simp at h0
    obtain ⟨rfl, rfl, rfl⟩ := h0
    exact ⟨[], rfl, ⟨none, 0, rfl, fun h => by simp at h, fun _ => rfl, Nat.le_refl _, by decide⟩, fun h => by simp at h⟩
  · simp at h0
    obtain ⟨rfl, rfl, rfl⟩ := h0
    simp only [if_true] at hmm
    subst hmm
    obtain ⟨B, hB⟩ := choose_lt (α := UInt8) (p := fun i b => V i = byteV b) (fun i hi => by
      obtain ⟨x, h1, _, h3⟩ := DataW.trod_int Try.underlying5 (hx i hi).2
      obtain ⟨b, hb⟩ := byte_of_wf h3
      exact ⟨b, by rw [← hb]; simpa using h1⟩)
    have hln : ((List.range n).map B).length = n := by simp
    unfold maxLen at hm
    refine ⟨(List.range n).map B, hln.symm, ⟨some a, _, by rw [hln], fun h0 => ⟨a, rfl, fun j v hv => ?_⟩, (fun h => by cases h), by rw [hln]; exact hl, by omega⟩, fun _ => ?_⟩
    · have hj : j < n := by
        have := (List.getElem?_eq_some_iff.1 hv).1
        rwa [length_cellsB, hln] at this
      rw [(hx j (by omega)).1, hB j (by omega)]
      simp [cellsB, hj] at hv
      rw [← hv]
    · cases hd
      exact ⟨_, _, rfl, by rw [hln]; simp⟩

/-- An argument of bytes takes at most 2^47 of them. -/
theorem len_slc {ts : List TypeId} {ds : List (DataW H)} (hsz : (DataW.weightsEach Try.prog ts ds).all (· ≤ reachBytes) = true) {j : Nat} {d : DataW H} {l : List UInt8} (ht : ts[j]? = some 32) (hd : ds[j]? = some d)
    (hl : 0 < l.length → ∃ e s : List (DataW H), d = .slice e s ∧ e.length = l.length) : l.length ≤ 140737488355328 := by
  rcases Nat.eq_zero_or_pos l.length with h0 | h0
  · omega
  · obtain ⟨e, s, rfl, he⟩ := hl h0
    have h1 := sized_slice hsz ht hd Try.underlying32
    have h2 := reachBytes_lt
    rw [bytes5] at h1
    omega
end

end Go.Proofs.Ytddgkckgbmgghaa
