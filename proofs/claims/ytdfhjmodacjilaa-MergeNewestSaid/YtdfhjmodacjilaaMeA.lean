/-
  mem: entries in memory: slices that read as entries, and the call's own; a map of entries behind a pointer; whole entries loaded, appended, copied.
-/
import Derived.Test.YtdfhjmodacjilaaMeP
import Derived.Test.YtdfhjmodacjilaaHeldS
import Derived.Test.YtdfhjmodacjilaaClass
import Derived.WalkSpells
import Derived.WalkLawsBesides
import Derived.Lib.Hide
import Derived.Deep.RegionWith
import Derived.Deep.RegionLaw
import Derived.IntWalk
import Derived.OneCell
import Derived.Laws.OwnMore
import Derived.Laws.IdiomStrings
import Derived.Laws.CopyOwn
import Derived.Maps.AppendAt
import Derived.Deep.Slices
import Derived.Lib.AppendZerosOnto
import Derived.Lib.Overlaps
import Derived.Lib.SliceRun
import Derived.SizedLaws
import Derived.ProofKit
import Derived.BigQuiet
import Derived.Deep.QuietTactic
import Derived.LoopTactic
namespace Go.Proofs.Ytdfhjmodacjilaa.Me
open Go.RowKit Go.Maps
set_option maxRecDepth 100000
set_option linter.unusedVariables false

abbrev strV (b : List UInt8) : Value := .string ⟨b.toArray⟩
def enC (e : En) : List Value := [strV e.k, strV e.v, .bool e.g]
def enV (e : En) : Value := .agg (enC e).toArray
theorem length_enC (e : En) : (enC e).length = 3 := rfl
theorem one_enC (e : En) : ∀ u ∈ enC e, u.oneCell' = true := by
  intro u hu
  simp [enC] at hu
  rcases hu with rfl | rfl | rfl <;> rfl
def enRows (L : List En) : List Value := L.flatMap enC
theorem enRows_append (A B : List En) : enRows (A ++ B) = enRows A ++ enRows B := by simp [enRows]
theorem enRows_cons (e : En) (r : List En) : enRows (e :: r) = enC e ++ enRows r := by simp [enRows]
theorem length_enRows : ∀ L : List En, (enRows L).length = L.length * 3
  | [] => rfl
  | e :: r => by
    have := length_enRows r
    rw [enRows_cons, List.length_append, this, length_enC, List.length_cons]
    omega
theorem enRows_get {e : En} {j : Nat} (hj : j < 3) : ∀ (L : List En) (i : Nat), L[i]? = some e → (enRows L)[i * 3 + j]? = (enC e)[j]?
  | [], i, h => by simp at h
  | x :: L, 0, h => by
    simp at h
    subst h
    rw [enRows_cons, List.getElem?_append_left (by rw [length_enC]; omega), Nat.zero_mul, Nat.zero_add]
  | x :: L, i + 1, h => by
    have ih := enRows_get hj L i (by simpa using h)
    rw [enRows_cons, List.getElem?_append_right (by rw [length_enC]; omega), length_enC, ← ih]
    congr 1
    omega
theorem enRows_take : ∀ (L : List En) (i : Nat), i ≤ L.length → (enRows L).take (i * 3) = enRows (L.take i)
  | L, 0, _ => by simp [enRows]
  | [], i + 1, h => by simp at h
  | e :: r, i + 1, h => by
    rw [enRows_cons, List.take_succ_cons, enRows_cons, List.take_append, length_enC, List.take_of_length_le (by rw [length_enC]; omega), show (i + 1) * 3 - 3 = i * 3 by omega, enRows_take r i (by simpa using h)]
theorem enRows_drop : ∀ (L : List En) (i : Nat), i ≤ L.length → (enRows L).drop (i * 3) = enRows (L.drop i)
  | L, 0, _ => by simp
  | [], i + 1, h => by simp at h
  | e :: r, i + 1, h => by
    rw [enRows_cons, List.drop_succ_cons, List.drop_append, length_enC, List.drop_eq_nil_of_le (by rw [length_enC]; omega), show (i + 1) * 3 - 3 = i * 3 by omega, enRows_drop r i (by simpa using h), List.nil_append]
theorem one_enRows (L : List En) : ∀ u ∈ enRows L, u.oneCell' = true := by
  intro u hu
  obtain ⟨e, _, he⟩ := List.mem_flatMap.1 hu
  exact one_enC e u he
/-- The cells of entries, each by its number. -/
theorem enRows_all {w : World} {g o : Nat} {L : List En} (h : ∀ i e, L[i]? = some e → ∀ j u, (enC e)[j]? = some u → w.cell? ⟨g, o + i * 3 + j, none⟩ = some u) : ∀ j u, (enRows L)[j]? = some u → w.cell? ⟨g, o + j, none⟩ = some u := by
  intro j u hu
  have hj := (List.getElem?_eq_some_iff.1 hu).1
  rw [length_enRows] at hj
  obtain ⟨e, he⟩ : ∃ e, L[j / 3]? = some e := ⟨_, List.getElem?_eq_getElem (by omega)⟩
  have h1 := enRows_get (e := e) (j := j % 3) (by omega) L (j / 3) he
  rw [show j / 3 * 3 + j % 3 = j by omega, hu] at h1
  have := h _ e he _ u h1.symm
  rw [show o + j / 3 * 3 + j % 3 = o + j by omega] at this
  exact this

/-- A slice that reads as entries. -/
def EnS (w : World) (x : Value) (L : List En) : Prop :=
  ∃ a0 c, x = .slice a0 L.length c ∧ L.length ≤ c ∧ c ≤ 9223372036854775807 ∧ (a0 = none → c = 0) ∧ (0 < L.length → ∃ g o, a0 = some ⟨g, o, none⟩ ∧ ∀ i e, L[i]? = some e → ∀ j u, (enC e)[j]? = some u → w.cell? ⟨g, o + i * 3 + j, none⟩ = some u)
section
variable {w w' : World} {x : Value} {L : List En} {X : Nat → Prop}
theorem EnS.stay (h : EnS w x L) (hs : Stay X w w') (hx : ∀ k, x.ownBlock = some k → ¬ X k) : EnS w' x L := by
  obtain ⟨a0, c, rfl, h1, h2, h3, h4⟩ := h
  refine ⟨a0, c, rfl, h1, h2, h3, fun h0 => ?_⟩
  obtain ⟨g, o, rfl, hc⟩ := h4 h0
  exact ⟨g, o, rfl, fun i e he j u hu => hs.cell (hc i e he j u hu) (hx g rfl)⟩
theorem EnS.stay0 (h : EnS w x L) (hs : Stay (fun _ => False) w w') : EnS w' x L := h.stay hs (fun _ _ x => x)
theorem EnS.nil (w : World) : EnS w (.slice none 0 0) [] := ⟨none, 0, rfl, Nat.le_refl _, by decide, fun _ => rfl, fun h => absurd h (Nat.lt_irrefl 0)⟩
theorem EnS.form (h : EnS w x L) : ∃ a c, x = .slice a L.length c := by
  obtain ⟨a0, c, e, _⟩ := h
  exact ⟨a0, c, e⟩
theorem EnS.at {a0 : Option Addr} {n c : Nat} (h : EnS w (.slice a0 n c) L) (h0 : 0 < L.length) : ∃ g o, a0 = some ⟨g, o, none⟩ ∧ g < w.heap.size ∧ ∀ i e, L[i]? = some e → w.cell? ⟨g, o + i * 3, none⟩ = some (strV e.k) ∧ w.cell? ⟨g, o + i * 3 + 1, none⟩ = some (strV e.v) ∧ w.cell? ⟨g, o + i * 3 + 2, none⟩ = some (.bool e.g) := by
  obtain ⟨a1, c1, e, h1, h2, h3, h4⟩ := h
  cases e
  obtain ⟨g, o, rfl, hc⟩ := h4 h0
  obtain ⟨e, he⟩ : ∃ e, L[0]? = some e := ⟨_, List.getElem?_eq_getElem h0⟩
  exact ⟨g, o, rfl, World.block_lt_of_cell? w _ (hc 0 e he 0 _ rfl), fun i e he => ⟨hc i e he 0 _ rfl, hc i e he 1 _ rfl, hc i e he 2 _ rfl⟩⟩
/-- The first entries. -/
theorem EnS.first {a0 : Option Addr} {n c i : Nat} (h : EnS w (.slice a0 n c) L) (hi : i ≤ L.length) : EnS w (.slice a0 i c) (L.take i) := by
  obtain ⟨a1, c1, e, h1, h2, h3, h4⟩ := h
  cases e
  have hl : (L.take i).length = i := by rw [List.length_take]; omega
  refine ⟨a0, c, by rw [hl], by omega, h2, h3, fun h0 => ?_⟩
  obtain ⟨g, o, rfl, hc⟩ := h4 (by omega)
  refine ⟨g, o, rfl, fun t e he => hc t e ?_⟩
  rw [List.getElem?_take] at he
  split at he
  · exact he
  · cases he
/-- Those behind i entries. -/
theorem EnS.cut {a0 : Option Addr} {n c i : Nat} (h : EnS w (.slice a0 n c) L) (hi : i ≤ L.length) : EnS w (.slice (if c = i then a0 else a0.map (·.add (i * 3))) (n - i) (c - i)) (L.drop i) := by
  obtain ⟨a1, c1, e, h1, h2, h3, h4⟩ := h
  cases e
  refine ⟨_, c - i, by rw [List.length_drop], by rw [List.length_drop]; omega, by omega, fun e => ?_, fun h0 => ?_⟩
  · split at e
    · omega
    · cases a0 with
      | none => have := h3 rfl; omega
      | some ad => cases e
  · rw [List.length_drop] at h0
    obtain ⟨g, o, rfl, hc⟩ := h4 (by omega)
    rw [if_neg (by omega)]
    refine ⟨g, o + i * 3, by rw [Option.map_some, add_at], fun t e he j u hu => ?_⟩
    rw [List.getElem?_drop] at he
    have := hc (i + t) e he j u hu
    rw [show o + (i + t) * 3 + j = o + i * 3 + t * 3 + j by omega] at this
    exact this
end

/-- The entry of nothing. -/
def zeroV : Value := .agg #[.string ⟨#[]⟩, .string ⟨#[]⟩, .bool false]
theorem zero_is : zeroV = enV ⟨[], [], false⟩ := rfl
theorem info_en : (Try.prog.info? 28).map (fun i => (i.zero, i.size, i.bytes)) = some (some zeroV, 3, 40) := by kernel_rfl
theorem zero_en (w : World) : (zeroValue 28).run Try.prog w = .ok zeroV w := by kernel_rfl
theorem size_en : (Try.prog.info? 28).map (·.size) = some 3 := by
  obtain ⟨i0, hi, _, h, _⟩ := info_parts info_en
  rw [hi]
  simp [h]
theorem sizeOf_en (w : World) : (sizeOf 28).run Try.prog w = .ok 3 w := by
  obtain ⟨i0, hi, _, h, _⟩ := info_parts info_en
  simp [sizeOf, typeInfo, hi, h]

section
variable {P : Program}
theorem run_loadVar_at (w : World) (ad : Addr) (ty : TypeId) (cs : List Value) (d : TypeDesc)
    (hu : P.underlying ty = some d) (hd : (match d with | .struct _ | .array _ _ => true | _ => false) = true) (hi : (P.info? ty).map (·.size) = some cs.length)
    (hcs : ∀ j v, cs[j]? = some v → w.cell? (ad.add j) = some v) :
    (loadVar ty ad).run P w = .ok (.agg cs.toArray) w := by
  have hl : (loadCells ad cs.length).run P w = .ok cs.toArray w := run_loadCells_list (P := P) w ad cs hcs
  cases hq : P.info? ty with
  | none => simp [hq] at hi
  | some i =>
    have hs : i.size = cs.length := by simpa [hq] using hi
    have hagg : (isAgg ty).run P w = .ok true w := by
      unfold isAgg
      rw [Sem.run_bind, run_underlying hu w]
      cases d <;> simp_all
    simp [loadVar, Sem.run_bind, hagg, sizeOf, typeInfo, hq, hs, hl]
theorem wpList_wanted {ops : Array Oper} {rest : List Oper} {o : Oper} {a : Act} {w : World} {Q : Exit → Act → World → Prop} (hw : Region.wanted o (yielded ops a.tmps) = true) (h : o.wp P a w (wpList P ops Q rest) Q) : wpList P ops Q (o :: rest) a w := by
  unfold wpList
  rw [if_pos hw]
  exact .inl h
/-- A whole struct loaded, whatever holds of the guard, by its run. -/
theorem wpList_load_run {ops : Array Oper} {rest : List Oper} {o : Oper} {a : Act} {w : World} {Q : Exit → Act → World → Prop} (hw : Region.wanted o (yielded ops a.tmps) = true) (ty : TypeId) (x : Operand) (ho : o.op = .load ty x)
    (ad : Addr) (hx : a.eval x = .pointer (some ad)) (v : Value) (hl : (loadVar ty ad).run P w = .ok v w)
    (hn : wpList P ops Q rest (a.put o.dst v) w) : wpList P ops Q (o :: rest) a w := by
  refine wpList_wanted hw ?_
  unfold Oper.wp execOp
  simp only [ho, hx, Instr.loadAt, Instr.sureAddr, Sem.run_bind, Sem.run_pure, Result.andThen_ok, hl]
  exact hn

/-- Cells copied over a row that is known whole, whatever size an element has. -/
theorem run_copy_sized (w : World) (dT sT ty elem : TypeId) (sz g o dLen dCap : Nat) (a : Addr) (sLen sCap : Nat) (cur : Array Value) (t : TypeId) (cs : List Value)
    (hu : P.underlying dT = some (.slice elem)) (hs : (P.info? elem).map (·.size) = some sz)
    (hg : w.heap[g]? = some (.cells cur t (0, 0))) (hn : cs.length = Nat.min sLen dLen * sz)
    (hsrc : ∀ j v, cs[j]? = some v → w.cell? (a.add j) = some v) (hfit : o + cs.length ≤ cur.size) (h1 : ∀ v ∈ cs, v.oneCell' = true) :
    (Builtin.copy_ #[dT, sT] ty #[.slice (some ⟨g, o, none⟩) dLen dCap, .slice (some a) sLen sCap]).run P w =
      .ok (goInt (Nat.min sLen dLen)) (w.setRow g (splice cur.toList o cs).toArray) := by
  have hl := run_loadCells_list (P := P) w a cs hsrc
  have hst := run_storeCells_at P g o t cs 0 cur w hg (by simpa using hfit) h1
  rw [hn] at hl
  cases hq : P.info? elem with
  | none => simp [hq] at hs
  | some i =>
    have hi : i.size = sz := by simpa [hq] using hs
    simp [Builtin.copy_, run_underlying hu, Builtin.lenOf, Builtin.firstCells, sizeOf, typeInfo, hq, hi, hl, hst, splice]
end

/-- A whole entry loaded. -/
theorem run_load_en {w : World} {ad : Addr} {e : En} (hc : ∀ j u, (enC e)[j]? = some u → w.cell? (ad.add j) = some u) : (loadVar 28 ad).run Try.prog w = .ok (enV e) w :=
  run_loadVar_at w ad 28 (enC e) _ Try.underlying28 rfl size_en hc
theorem run_load_at {w : World} {g o : Nat} {e : En} (h0 : w.cell? ⟨g, o, none⟩ = some (strV e.k)) (h1 : w.cell? ⟨g, o + 1, none⟩ = some (strV e.v)) (h2 : w.cell? ⟨g, o + 2, none⟩ = some (.bool e.g)) : (loadVar 28 ⟨g, o, none⟩).run Try.prog w = .ok (enV e) w :=
  run_load_en (fun j u hu => by
    rw [add_at]
    match j, hu with
    | 0, hu => cases hu; exact h0
    | 1, hu => cases hu; exact h1
    | 2, hu => cases hu; exact h2)
/-- A box that holds an entry. -/
def Box (w : World) (g : Nat) (e : En) : Prop := w.heap[g]? = some (.cells (enC e).toArray 28 (0, 0))
section
variable {w w' : World} {g : Nat} {e : En} {X : Nat → Prop}
theorem Box.new (w : World) (e : En) : Box (w.alloc (.cells (enC e).toArray 28)) w.heap.size e := heap_alloc_new w _
theorem Box.lt (h : Box w g e) : g < w.heap.size := (Array.getElem?_eq_some_iff.1 h).1
theorem Box.stay (h : Box w g e) (hs : Stay X w w') (hx : ¬ X g) : Box w' g e := (hs.block g h.lt hx).trans h
theorem Box.stay0 (h : Box w g e) (hs : Stay (fun _ => False) w w') : Box w' g e := h.stay hs (fun x => x)
theorem Box.c (h : Box w g e) {j : Nat} {u : Value} (hu : (enC e)[j]? = some u) : w.cell? ⟨g, j, none⟩ = some u := by
  rw [cell_of_row w g j _ _ _ h]
  simpa using hu
theorem Box.fr (h : Box w g e) (j : Nat) : w.frozen? ⟨g, j, none⟩ = false := frozen_of_row w g j _ _ h
theorem Box.run_load (h : Box w g e) : (loadVar 28 ⟨g, 0, none⟩).run Try.prog w = .ok (enV e) w :=
  run_load_en (fun j u hu => by rw [add_at, Nat.zero_add]; exact h.c hu)
/-- A slice of it alone. -/
theorem Box.one (h : Box w g e) (c : Nat) (hc : 1 ≤ c) (hm : c ≤ 9223372036854775807) : EnS w (.slice (some ⟨g, 0, none⟩) 1 c) [e] :=
  ⟨_, c, rfl, hc, hm, (fun h => by cases h), fun _ => ⟨g, 0, rfl, fun i e' he j u hu => by
    have hi : i = 0 := by
      have := (List.getElem?_eq_some_iff.1 he).1
      simp at this
      omega
    subst hi
    simp at he
    subst he
    rw [show 0 + 0 * 3 + j = j by omega]
    exact h.c hu⟩⟩
/-- One stored into it whole. -/
theorem Box.store (h : Box w g e) {ops : Array Oper} {rest : List Oper} {o : Oper} {a : Act} {Q : Exit → Act → World → Prop} (hgd : o.guard = none) (x y : Operand) (ho : o.op = .store 28 x y)
    (hx : a.eval x = .pointer (some ⟨g, 0, none⟩)) (e' : En) (hy : a.eval y = enV e')
    (hn : ∀ w', Box w' g e' → Stay (· = g) w w' → wpList Try.prog ops Q rest (a.put o.dst undef) w') : wpList Try.prog ops Q (o :: rest) a w :=
  wpList_store_mid hgd 28 x y ho g 0 hx 28 (enC e) (enC e') hy h size_en (by rw [length_enC, length_enC]; omega) (one_enC e') (fun w' h1 h2 => hn w' h1 h2)
end

/-- Entries of the call's own. -/
def EnO (base : Nat) (w : World) (v : Value) (L : List En) : Prop := w.ownsRow base 28 3 v L.length (enRows L)
section
variable {base : Nat} {w w' : World} {v x : Value} {L M : List En} {X : Nat → Prop}
theorem EnO.stay (h : EnO base w v L) (hs : Stay X w w') (hx : ∀ k, v.ownBlock = some k → ¬ X k) : EnO base w' v L := by
  refine ⟨h.1, ?_⟩
  rcases h.2 with h' | ⟨g, cap, cur, rfl, h4, hg, r⟩
  · exact .inl h'
  · exact .inr ⟨g, cap, cur, rfl, h4, (hs.block g (Array.getElem?_eq_some_iff.1 hg).1 (hx g rfl)).trans hg, r⟩
theorem EnO.stay0 (h : EnO base w v L) (hs : Stay (fun _ => False) w w') : EnO base w' v L := h.stay hs (fun _ _ x => x)
theorem EnO.rebase {base' : Nat} (h : EnO base w v L) (hb : ∀ k, v.ownBlock = some k → base' ≤ k) : EnO base' w v L := by
  refine ⟨h.1, ?_⟩
  rcases h.2 with h' | ⟨g, cap, cur, rfl, h4, r⟩
  · exact .inl h'
  · exact .inr ⟨g, cap, cur, rfl, hb g rfl, r⟩
theorem EnO.lt (h : EnO base w v L) : ∀ k, v.ownBlock = some k → base ≤ k ∧ k < w.heap.size := World.ownsRow.lt h
theorem EnO.nil (base : Nat) (w : World) : EnO base w (.slice none 0 0) [] := World.ownsRow_nil w base _ _
theorem EnO.empty (base : Nat) (w : World) (hb : base ≤ w.heap.size) : EnO base (w.alloc (.cells #[] 28)) (.slice (some ⟨w.heap.size, 0, none⟩) 0 0) [] := World.ownsRow_lit w #[] 0 hb (Nat.zero_le _) rfl
theorem EnO.form (h : EnO base w v L) : ∃ a c, v = .slice a L.length c := by
  rcases h.2 with ⟨e, hn⟩ | ⟨g, cap, cur, e, _⟩
  · exact ⟨none, 0, by rw [e, hn]⟩
  · exact ⟨_, _, e⟩
theorem EnO.ens (h : EnO base w v L) : EnS w v L := by
  have hc := fun g hg => World.ownsRow.cells (g := g) h hg
  rcases h.2 with ⟨e, hn⟩ | ⟨g, cap, cur, e, _, _, h1, h2, _⟩
  · have : L = [] := List.eq_nil_of_length_eq_zero hn
    subst this
    rw [e]
    exact EnS.nil w
  · refine ⟨_, cap, e, h1, by unfold maxLen at h2; omega, (fun h => by cases h), fun _ => ⟨g, 0, rfl, fun i q hq j u hu => ?_⟩⟩
    subst e
    have hj : j < 3 := (List.getElem?_eq_some_iff.1 hu).1
    have := hc g rfl (i * 3 + j) u (by rw [enRows_get hj L i hq]; exact hu)
    rw [add_at] at this
    rw [show 0 + i * 3 + j = 0 + (i * 3 + j) by omega]
    exact this

/-- Entries appended to the call's own, from whatever slice. -/
theorem run_append_en (t ty : TypeId) (ht : Try.prog.underlying t = some (.slice 28)) (hown : EnO base w v L) (hx : EnS w x M) (hlen : (L.length + M.length) * 40 ≤ 140737488355328) (hbase : base ≤ w.heap.size) :
    ∃ v' w', (Builtin.append_ #[t, t] ty #[v, x]).run Try.prog w = .ok v' w' ∧ EnO base w' v' (L ++ M) ∧ Stay (fun k => v.ownBlock = some k) w w' ∧ (v'.ownBlock = v.ownBlock ∨ v'.ownBlock = some w.heap.size) := by
  obtain ⟨i0, hi, hz, hsize, hby⟩ := info_parts info_en
  obtain ⟨a0, c, rfl, hc, hm, hn, hr⟩ := hx
  cases a0 with
  | none =>
    obtain rfl := hn rfl
    have hM : M = [] := List.eq_nil_of_length_eq_zero (by omega)
    subst hM
    have h1 := run_append_owned_none (P := Try.prog) w base t ty _ i0 3 ht hi v L.length (enRows L) hown
    exact ⟨v, w, h1, by rw [List.append_nil]; exact hown, Stay.refl _ _, .inl rfl⟩
  | some ad =>
    by_cases h0 : M.length = 0
    · have hM : M = [] := List.eq_nil_of_length_eq_zero h0
      subst hM
      obtain ⟨v', w', h1, h2, h3, _, h5⟩ := run_append_own_at (P := Try.prog) w base t ty _ i0 zeroV 3 40 ht hi hz hsize hby rfl (by decide) v L.length (enRows L) hown ad 0 c [] rfl (fun j u hu => by simp at hu) (fun u hu => by simp at hu) (by unfold maxLen; simp at hlen; omega) (by simp at hlen; omega) hbase
      exact ⟨v', w', h1, by rw [List.append_nil] at h2; rw [List.append_nil]; exact h2, Stay.grown h3 (fun k hk => hk), h5⟩
    · obtain ⟨g, o, e, hcell⟩ := hr (by omega)
      cases e
      obtain ⟨v', w', h1, h2, h3, _, h5⟩ := run_append_own_at (P := Try.prog) w base t ty _ i0 zeroV 3 40 ht hi hz hsize hby rfl (by decide) v L.length (enRows L) hown ⟨g, o, none⟩ M.length c (enRows M) (length_enRows M)
        (fun j u hu => by rw [add_at]; exact enRows_all hcell j u hu) (one_enRows M) (by unfold maxLen; omega) hlen hbase
      exact ⟨v', w', h1, by unfold EnO; rw [List.length_append, enRows_append]; exact h2, Stay.grown h3 (fun k hk => hk), h5⟩
theorem wpList_append_en {ops : Array Oper} {rest : List Oper} {o : Oper} {a : Act} {Q : Exit → Act → World → Prop} (hgd : o.guard = none) (s y : Operand) (t : TypeId)
    (ho : o.op = .call { callee := .builtin .append, args := #[s, y], argTypes := #[t, t] }) (ht : Try.prog.underlying t = some (.slice 28)) (hs : a.eval s = v) (hy : a.eval y = x) (hown : EnO base w v L) (hx : EnS w x M) (hlen : (L.length + M.length) * 40 ≤ 140737488355328) (hbase : base ≤ w.heap.size)
    (h : ∀ v' w', EnO base w' v' (L ++ M) → Stay (fun k => v.ownBlock = some k) w w' → (v'.ownBlock = v.ownBlock ∨ v'.ownBlock = some w.heap.size) → wpList Try.prog ops Q rest (a.put o.dst v') w') : wpList Try.prog ops Q (o :: rest) a w :=
  wpList_plain hgd fun _ hK => by
    obtain ⟨v', w', hrun, h2, h3, h4⟩ := run_append_en t o.type ht hown hx hlen hbase
    unfold Oper.wp execOp
    simp only [ho, resolve, invoke, builtin, Sem.run_bind, Sem.run_pure, Result.andThen_ok, List.map_toArray, List.map_cons, List.map_nil, hs, hy, hrun]
    exact hK _ _ (h v' w' h2 h3 h4)
theorem step_append_en {ops : Array Oper} {o : Oper} {a : Act} {K : Act → World → Prop} {Q : Exit → Act → World → Prop} {E : Prop} (hgd : o.guard = none) (s y : Operand) (t : TypeId)
    (ho : o.op = .call { callee := .builtin .append, args := #[s, y], argTypes := #[t, t] }) (ht : Try.prog.underlying t = some (.slice 28)) (hs : a.eval s = v) (hy : a.eval y = x) (hown : EnO base w v L) (hx : EnS w x M) (hlen : (L.length + M.length) * 40 ≤ 140737488355328) (hbase : base ≤ w.heap.size)
    (h : ∀ v' w', EnO base w' v' (L ++ M) → Stay (fun k => v.ownBlock = some k) w w' → (v'.ownBlock = v.ownBlock ∨ v'.ownBlock = some w.heap.size) → K (a.put o.dst v') w') :
    if Region.wanted o (yielded ops a.tmps) = true then Oper.wp Try.prog o a w K Q else E := by
  have hw : Region.wanted o (yielded ops a.tmps) = true := by simp [Region.wanted, hgd]
  rw [if_pos hw]
  obtain ⟨v', w', hrun, h2, h3, h4⟩ := run_append_en t o.type ht hown hx hlen hbase
  unfold Oper.wp execOp
  simp only [ho, resolve, invoke, builtin, Sem.run_bind, Sem.run_pure, Result.andThen_ok, List.map_toArray, List.map_cons, List.map_nil, hs, hy, hrun]
  exact h v' w' h2 h3 h4
end

/-- What turned lay behind what was there at first. -/
theorem stay_seal {X : Nat → Prop} {w w' : World} (h : Stay X w w') (hx : ∀ k, X k → w.heap.size ≤ k) : Stay (fun _ => False) w w' :=
  ⟨h.os, h.tape, h.output, h.size, fun k hk _ => h.block k hk (fun hX => by have := hx k hX; omega)⟩

section
variable {B B' X : Nat → Prop} {w w' : World} {p : Nat} {L : List En}
end

/-- What a pointer to a Mem reads as: nil is none. -/
def MR (w : World) (pv : Value) (L : List En) : Prop := (pv = .pointer none ∧ L = []) ∨ ∃ p v, pv = .pointer (some ⟨p, 0, none⟩) ∧ w.cell? ⟨p, 0, none⟩ = some v ∧ EnS w v L
theorem MR.stay0 {w w' : World} {pv : Value} {L : List En} (h : MR w pv L) (hs : Stay (fun _ => False) w w') : MR w' pv L := by
  rcases h with h | ⟨p, v, e, h1, h2⟩
  · exact .inl h
  · exact .inr ⟨p, v, e, hs.cell h1 (fun x => x), h2.stay0 hs⟩
theorem MR.nil (w : World) : MR w (.pointer none) [] := .inl ⟨rfl, rfl⟩
end Go.Proofs.Ytdfhjmodacjilaa.Me
