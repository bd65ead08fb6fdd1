/-
  The map of a device's loose sectors: which numbers it has, and the bytes of each.
-/
import Derived.Test.YthbcgimmbcdnmaaDoorFlat
import Derived.Maps.OwnSet
import Derived.Maps.RangeWalk
import Derived.Lib.SlKeysI
namespace Go.Proofs.YthbcgimmbcdnmaaDoor
open Go.RowKit Go.Maps Go.ChangeMaps Go.MapKept

def RB : Value → Option (DataW Value × List MemPlace) := fun v => some (.held v, [])
def secV (l : List UInt8) : Value := .agg (cellsB l).toArray
theorem secV_inj {l l' : List UInt8} (h : secV l = secV l') : l = l' := by
  have h1 : cellsB l = cellsB l' := by simpa [secV] using h
  unfold cellsB at h1
  have := congrArg (List.map fun v : Value => match v with | .int _ x => x.toNat | _ => 0) h1
  simp only [List.map_map] at this
  have e : ((fun v : Value => match v with | .int _ x => x.toNat | _ => 0) ∘ byteV) = fun b : UInt8 => b.toNat := by funext b; simp [byteV]
  rw [e] at this
  exact List.map_inj_right (fun a b hab => UInt8.toNat_inj.1 hab) |>.1 this

def none64 : Nat → Option (List UInt8) := fun _ => none
def updL (L : Nat → Option (List UInt8)) (j : Nat) (l : List UInt8) : Nat → Option (List UInt8) := fun i => if i = j then some l else L i

/-- The datum D holds just the numbers of L, with their bytes. -/
structure Agr (D : DataW Value) (L : Nat → Option (List UInt8)) : Prop where
  has : ∀ i : Int, Maps.has D (.int .i64 i) = decide (0 ≤ i ∧ (L i.toNat).isSome = true)
  at_ : ∀ j l, L j = some l → ∀ z, D.atKey (.int .i64 (j : Int)) z = .held (secV l)

def WideL (L : Nat → Option (List UInt8)) (n : Nat) : Prop := ∀ j l, L j = some l → l.length = 64 ∧ j < n

theorem wideL_none (n : Nat) : WideL none64 n := fun _ _ h => by simp [none64] at h
theorem wideL_upd {L : Nat → Option (List UInt8)} {n : Nat} (h : WideL L n) {j : Nat} {l : List UInt8} (hj : j < n) (hl : l.length = 64) : WideL (updL L j l) n := fun i l' h' => by
  unfold updL at h'
  split at h'
  · cases h'; subst i; exact ⟨hl, hj⟩
  · exact h i l' h'

theorem agr_empty : Agr (.map []) none64 := ⟨fun i => by simp [Maps.has, none64], fun j l h => by simp [none64] at h⟩

theorem agr_put {D : DataW Value} {L : Nat → Option (List UInt8)} (h : Agr D L) (hD : IsMap D) (j : Nat) (l : List UInt8) : Agr (D.put (.int .i64 (j : Int)) (.held (secV l))) (updL L j l) := by
  refine ⟨fun i => ?_, fun i l' h' z => ?_⟩
  · by_cases hi : i = (j : Int)
    · subst hi
      rw [has_put_same hD (by trivial : WideAt.IsKeyLit (.int .i64 (j : Int)))]
      simp [updL]
    · rw [has_put_other (by simpa using hi), h.has i]
      by_cases h0 : 0 ≤ i
      · have : i.toNat ≠ j := by omega
        simp [updL, this]
      · simp [h0]
  · unfold updL at h'
    split at h'
    · cases h'; subst i; exact atKey_put_same hD (by trivial : WideAt.IsKeyLit (.int .i64 (j : Int))) _ _
    · rename_i hne
      rw [atKey_put_other (by simp; omega)]
      exact h.at_ i l' h' z

/-- The numbers that L has, ascending. -/
def keysL (L : Nat → Option (List UInt8)) (n : Nat) : List Nat := (List.range n).filter fun j => (L j).isSome
def keysI (L : Nat → Option (List UInt8)) (n : Nat) : List Int := (keysL L n).map fun j : Nat => (j : Int)

theorem mem_keysL {L : Nat → Option (List UInt8)} {n j : Nat} : j ∈ keysL L n ↔ j < n ∧ (L j).isSome = true := by simp [keysL]

theorem keysL_sorted (L : Nat → Option (List UInt8)) (n : Nat) : (keysL L n).Pairwise (· < ·) := List.Pairwise.filter _ List.pairwise_lt_range
theorem keysI_sorted (L : Nat → Option (List UInt8)) (n : Nat) : (keysI L n).Pairwise (· < ·) := by
  unfold keysI
  exact List.pairwise_map.2 ((keysL_sorted L n).imp (fun h => by omega))

theorem keysI_nodup (L : Nat → Option (List UInt8)) (n : Nat) : (keysI L n).Nodup := (keysI_sorted L n).imp (fun h => by omega)
theorem length_keysI (L : Nat → Option (List UInt8)) (n : Nat) : (keysI L n).length ≤ n := by
  have := List.length_filter_le (fun j => (L j).isSome) (List.range n)
  simpa [keysI, keysL] using this

theorem mem_keysI {D : DataW Value} {L : Nat → Option (List UInt8)} {n : Nat} (h : Agr D L) (hw : WideL L n) (x : Int) : x ∈ keysI L n ↔ Maps.has D (.int .i64 x) = true := by
  rw [h.has x]
  simp only [keysI, List.mem_map, mem_keysL, decide_eq_true_eq]
  constructor
  · rintro ⟨j, ⟨_, hj⟩, rfl⟩; exact ⟨by omega, by simpa using hj⟩
  · rintro ⟨h0, hs⟩
    obtain ⟨l, hl⟩ := Option.isSome_iff_exists.1 hs
    exact ⟨x.toNat, ⟨(hw _ _ hl).2, hs⟩, by omega⟩

section
variable {P : Program} {kt : TypeId} {w : World} {b n : Nat} {L : Nat → Option (List UInt8)}

theorem keys_perm {k : Nat} {D : DataW Value} (ho : w.ownsMap P kt RB b k D) (hk : P.underlying kt = some (.int .i64)) (h : Agr D L) (hw : WideL L n) : (keysI L n).Perm (intKeys D) := by
  obtain ⟨es, hD, hpw, _⟩ := ho.entries (int_keyed hk)
  obtain ⟨es', hD', hko⟩ := ho.keysOf
  obtain rfl : es = es' := by rw [hD] at hD'; simpa using hD'
  subst hD
  exact perm_intKeys hpw (fun p hp => by obtain ⟨v, hv⟩ := hko p hp; obtain ⟨x, _, hx, _⟩ := Maps.keyOf_i64 hk hv; exact ⟨x, hx⟩) (keysI_nodup L n) (mem_keysI h hw)

theorem size_le {k : Nat} {D : DataW Value} (ho : w.ownsMap P kt RB b k D) (hk : P.underlying kt = some (.int .i64)) (h : Agr D L) (hw : WideL L n) : Maps.size D ≤ n := by
  have hp := (keys_perm ho hk h hw).length_eq
  have hl := length_keysI L n
  obtain ⟨es, rfl, _⟩ := ho.entries (int_keyed hk)
  simp only [intKeys, List.length_map] at hp
  simp only [Maps.size]; omega

/-- The map at block b holds just L. -/
def MapAt (P : Program) (kt : TypeId) (w : World) (b n : Nat) (L : Nat → Option (List UInt8)) : Prop := WideL L n ∧ ∃ D, w.ownsMap P kt RB b n D ∧ Agr D L

theorem MapAt.tight {k : Nat} {D : DataW Value} (ho : w.ownsMap P kt RB b k D) (hk : P.underlying kt = some (.int .i64)) (h : Agr D L) (hw : WideL L n) : MapAt P kt w b n L := by
  have hs := size_le ho hk h hw
  refine ⟨hw, D, ?_, h⟩
  obtain ⟨es, clock, hb, F, _, rfl⟩ := ho
  refine ⟨es, clock, hb, F, ?_, rfl⟩
  simpa [Maps.size, length_sorted] using hs

theorem MapAt.stay {X : Nat → Prop} {w' : World} (h : MapAt P kt w b n L) (hs : Stay X w w') (hx : ¬ X b) : MapAt P kt w' b n L := by
  obtain ⟨hw, D, ho, ha⟩ := h
  exact ⟨hw, D, hs.ownsMap ho hx, ha⟩

theorem MapAt.lt (h : MapAt P kt w b n L) : b < w.heap.size := by obtain ⟨_, D, ho, _⟩ := h; exact ho.lt

theorem mapAt_made (P : Program) (kt : TypeId) (w : World) (n : Nat) : MapAt P kt (w.alloc (.map #[] 0)) w.heap.size n none64 :=
  ⟨wideL_none n, .map [], (World.ownsMap_made w P kt RB).mono (Nat.zero_le _), agr_empty⟩

/-- clear(m). -/
theorem run_clear {t e : TypeId} (h : MapAt P kt w b n L) (ht : P.underlying t = some (.map kt e)) (ty : TypeId) :
    ∃ w', (Builtin.clear_ #[t] ty #[.map (some b)]).run P w = .ok (.tuple #[]) w' ∧ MapAt P kt w' b n none64 ∧ Stay (· = b) w w' := by
  obtain ⟨_, D, ⟨es, clock, hb, F, hs, rfl⟩, ha⟩ := h
  have hrun : (Builtin.clear_ #[t] ty #[.map (some b)]).run P w = .ok (.tuple #[]) (setBlock w b (.map #[] clock)) := by
    simp [Builtin.clear_, run_underlying ht, MapKept.run_getObj_map hb, MapKept.run_setObj_map _ hb, Result.andThen, setBlock]
  refine ⟨_, hrun, ⟨wideL_none n, .map [], ⟨#[], clock, heap_setBlock_same hb _, ⟨by simp, stamped_empty _, by simp⟩, by simp, by simp⟩, agr_empty⟩, rfl, rfl, rfl, by simp [setBlock], fun k _ hk => heap_setBlock_other hb _ hk⟩

/-- 'v, ok := m[i]'. -/
theorem wpList_look {ops : Array Oper} {rest : List Oper} {o : Oper} {a : Act} {Q : Exit → Act → World → Prop} (hg : o.guard = none) (m x : Operand) (t e : TypeId) (hop : o.op = Op.lookup t m x true)
    (h : MapAt P kt w b n L) (hk : P.underlying kt = some (.int .i64)) (ht : P.underlying t = some (.map kt e)) (hz : (zeroValue e).run P w = .ok (secV zsec) w) (i : Nat) (hwf : (Lit.int .i64 (i : Int)).wf = true)
    (hm : a.eval m = .map (some b)) (hx : a.eval x = .int .i64 (i : Int)) (r : List UInt8) (q : Bool) (hr : (L i).getD zsec = r) (hq : (L i).isSome = q)
    (hK : wpList P ops Q rest (a.put o.dst (.tuple #[secV r, .bool q])) w) : wpList P ops Q (o :: rest) a w := by
  obtain ⟨_, D, ho, ha⟩ := h
  refine wpList_lookup_own_ok w hg m x t hop kt e (int_keyed hk) ht RB hz (.held (secV zsec)) [] rfl b n D hm ho _ _ hx (keyOf_int_mk hk hwf) ?_
  intro v ps hv
  have e1 : Maps.has D (.int .i64 (i : Int)) = q := by rw [ha.has, ← hq]; simp
  have e2 : v = secV r := by
    have h2 : DataW.held v = D.atKey (.int .i64 (i : Int)) (.held (secV zsec)) := by
      have := congrArg (fun z : Option (DataW Value × List MemPlace) => z.map (·.1)) hv
      simpa [RB] using this
    cases hL : L i with
    | some l =>
      rw [ha.at_ i l hL] at h2
      rw [hL] at hr
      simp only [Option.getD_some] at hr
      rw [← hr]; exact DataW.held.inj h2
    | none =>
      rw [hL] at hr
      simp only [Option.getD_none] at hr
      rw [atKey_of_not_has (by rw [ha.has]; simp [hL])] at h2
      rw [← hr]; exact DataW.held.inj h2
  rw [e1, e2]
  exact hK

/-- 'm[i]', where it is there, as a step of a region that only reads. -/
theorem still_look {ops : Array Oper} {rest : List Oper} {o : Oper} {a : Act} {Q : Act → Prop} (hg : o.guard = none) (m x : Operand) (t e : TypeId) (hop : o.op = Op.lookup t m x false)
    (h : MapAt P kt w b n L) (hk : P.underlying kt = some (.int .i64)) (ht : P.underlying t = some (.map kt e)) (hz : (zeroValue e).run P w = .ok (secV zsec) w) (i : Nat) (hwf : (Lit.int .i64 (i : Int)).wf = true)
    (hm : a.eval m = .map (some b)) (hx : a.eval x = .int .i64 (i : Int)) (r : List UInt8) (hr : L i = some r)
    (hK : wpStill P ops w Q rest (a.put o.dst (secV r))) : wpStill P ops w Q (o :: rest) a := by
  obtain ⟨_, D, ho, ha⟩ := h
  obtain ⟨v, ps, hrun, hv⟩ := World.ownsMap.lookup ho (int_keyed hk) ht hz (zd := .held (secV zsec)) (zp := []) rfl (keyOf_int_mk hk hwf)
  have e2 : v = secV r := by
    have h2 : DataW.held v = D.atKey (.int .i64 (i : Int)) (.held (secV zsec)) := by
      have := congrArg (fun z : Option (DataW Value × List MemPlace) => z.map (·.1)) hv
      simpa [RB] using this
    rw [ha.at_ i r hr] at h2
    exact DataW.held.inj h2
  subst e2
  refine wpStill_step fun K hK' => ?_
  simp only [Region.wanted, hg, if_true]
  unfold Oper.still
  simp [execOp, hop, hm, hx, hrun, Result.andThen, Oper.stillUpon]
  exact hK' _ hK

/-- 'm[i] = l'. -/
theorem wpList_update {ops : Array Oper} {rest : List Oper} {o : Oper} {a : Act} {Q : Exit → Act → World → Prop} (hg : o.guard = none) (m x v : Operand) (t e : TypeId) (hop : o.op = Op.mapUpdate t m x v)
    (h : MapAt P kt w b n L) (hk : P.underlying kt = some (.int .i64)) (ht : P.underlying t = some (.map kt e)) (hn : n < maxLen) (i : Nat) (hi : i < n) (hwf : (Lit.int .i64 (i : Int)).wf = true) (l : List UInt8) (hl : l.length = 64)
    (hm : a.eval m = .map (some b)) (hx : a.eval x = .int .i64 (i : Int)) (hv : a.eval v = secV l)
    (hK : ∀ w', MapAt P kt w' b n (updL L i l) → Stay (· = b) w w' → wpList P ops Q rest (a.put o.dst undef) w') : wpList P ops Q (o :: rest) a w := by
  obtain ⟨hw, D, ho, ha⟩ := h
  refine wpList_mapUpdate_own w hg m x v t hop kt e (int_keyed hk) ht RB b n D hm ho hn _ _ _ hx hv (keyOf_int_mk hk hwf) (.held (secV l)) [] rfl ?_
  intro w' ho' hg'
  obtain ⟨es, hD, _⟩ := ho.entries (int_keyed hk)
  exact hK w' (MapAt.tight ho' hk (agr_put ha ⟨es, hD⟩ i l) (wideL_upd hw hi hl)) (Stay.grown hg' (fun k hk => by simpa using hk.symm))

/-- 'clear(m)', at the operation. -/
theorem wpList_clear {ops : Array Oper} {rest : List Oper} {o : Oper} {a : Act} {Q : Exit → Act → World → Prop} (hg : o.guard = none) (m : Operand) (t e : TypeId) (hop : o.op = Op.call { callee := Callee.builtin Builtin.clear, args := #[m], argTypes := #[t] })
    (h : MapAt P kt w b n L) (ht : P.underlying t = some (.map kt e)) (hm : a.eval m = .map (some b))
    (hK : ∀ w', MapAt P kt w' b n none64 → Stay (· = b) w w' → wpList P ops Q rest (a.put o.dst (.tuple #[])) w') : wpList P ops Q (o :: rest) a w := by
  refine wpList_plain hg fun K' hK' => ?_
  obtain ⟨w', hrun, r1, r2⟩ := run_clear h ht o.type
  unfold Oper.wp
  simp [execOp, hop, resolve, invoke, builtin, hm, hrun, Result.andThen]
  exact hK' _ _ (hK w' r1 r2)

/-- A range over the map is under way: the numbers of 'got' have come. -/
def Rng (P : Program) (kt : TypeId) (w : World) (b r n : Nat) (L : Nat → Option (List UInt8)) (got : Nat → Bool) : Prop :=
  WideL L n ∧ ∃ D left cnt, w.ranges P kt RB b r n D left cnt ∧ Agr D L ∧ ∀ j : Nat, left (.int .i64 (j : Int)) = ((L j).isSome && !got j)

theorem Rng.mapAt {r : Nat} {got : Nat → Bool} (h : Rng P kt w b r n L got) : MapAt P kt w b n L := by
  obtain ⟨hw, D, left, cnt, hr, ha, _⟩ := h
  exact ⟨hw, D, hr.owns, ha⟩

theorem Rng.stay {X : Nat → Prop} {w' : World} {r : Nat} {got : Nat → Bool} (h : Rng P kt w b r n L got) (hs : Stay X w w') (hb : ¬ X b) (hr : ¬ X r) : Rng P kt w' b r n L got := by
  obtain ⟨hw, D, left, cnt, hrg, ha, hl⟩ := h
  have l1 := hrg.owns.lt
  have l2 := hrg.lt
  obtain ⟨es, clock, since, seen, c0, h1, h2, h3, h4, h5, h6⟩ := hrg
  exact ⟨hw, D, left, cnt, ⟨es, clock, since, seen, c0, (hs.block b l1 hb).trans h1, h2, h3, h4, (hs.block r l2 hr).trans h5, h6⟩, ha, hl⟩

theorem rangeLeft_stay {X : Nat → Prop} {w' : World} {r : Nat} (hs : Stay X w w') (hb : ¬ X b) (hr : ¬ X r) (l1 : b < w.heap.size) (l2 : r < w.heap.size) : w'.rangeLeft b r = w.rangeLeft b r := by
  unfold World.rangeLeft
  rw [hs.block b l1 hb, hs.block r l2 hr]

theorem Rng.lt {r : Nat} {got : Nat → Bool} (h : Rng P kt w b r n L got) : r < w.heap.size := by obtain ⟨_, _, _, _, hrg, _⟩ := h; exact hrg.lt

/-- 'range m' begins. -/
theorem wpList_range {ops : Array Oper} {rest : List Oper} {o : Oper} {a : Act} {Q : Exit → Act → World → Prop} (hg : o.guard = none) (m : Operand) (t e : TypeId) (hop : o.op = Op.range t m)
    (h : MapAt P kt w b n L) (hk : P.underlying kt = some (.int .i64)) (ht : P.underlying t = some (.map kt e)) (hm : a.eval m = .map (some b))
    (hK : ∀ w', Rng P kt w' b w.heap.size n L (fun _ => false) → Stay (fun _ => False) w w' → w'.heap.size = w.heap.size + 1 → wpList P ops Q rest (a.put o.dst (.pointer (some ⟨w.heap.size, 0, none⟩))) w') : wpList P ops Q (o :: rest) a w := by
  obtain ⟨hw, D, ho, ha⟩ := h
  refine wpList_range_own w hg m t hop kt e (int_keyed hk) ht RB b n D hm ho ?_
  intro w' hr hgr hsz
  refine hK w' ⟨hw, D, _, _, hr, ha, fun j => ?_⟩ (Stay.grown hgr (fun k hk => by cases hk)) hsz
  rw [ha.has]; simp

/-- Its next step. -/
theorem wpList_next {ops : Array Oper} {rest : List Oper} {o : Oper} {a : Act} {Q : Exit → Act → World → Prop} (hg : o.guard = none) (it : Operand) (hop : o.op = Op.next it false) {r : Nat} {got : Nat → Bool}
    (h : Rng P kt w b r n L got) (hk : P.underlying kt = some (.int .i64)) (hit : a.eval it = .pointer (some ⟨r, 0, none⟩))
    (hDone : (∀ j l, L j = some l → got j = true) → wpList P ops Q rest (a.put o.dst (.tuple #[.bool false])) w)
    (hMore : ∀ (j : Nat) (l : List UInt8) (w' : World), L j = some l → got j = false → Rng P kt w' b r n L (fun i => decide (i = j) || got i) → Stay (· = r) w w' → w'.heap.size = w.heap.size → w'.rangeLeft b r < w.rangeLeft b r →
      (Instr.entry (.pointer (some ⟨r, 0, none⟩))).run P w' = .ok (.tuple #[.int .i64 (j : Int), secV l]) w' → wpList P ops Q rest (a.put o.dst (.tuple #[.bool true, .int .i64 (j : Int), secV l])) w') : wpList P ops Q (o :: rest) a w := by
  obtain ⟨hw, D, left, cnt, hrg, ha, hl⟩ := h
  refine wpList_next_ranges w hg it hop kt (int_keyed hk) RB (fun x : Int => Value.int .i64 x) (fun v : Value => v) (fun key kl hk' => by obtain ⟨x, hx, _⟩ := Maps.keyOf_i64 hk hk'; exact ⟨x, hx⟩) (fun v _ _ => ⟨v, rfl⟩) b r n D left cnt hit hrg ?_ ?_
  · intro _ h0
    refine hDone (fun j l hj => ?_)
    have := hl j
    rw [h0, hj] at this
    simpa using this.symm
  · intro x c kl y w' cnt' hkey hlk hv hat hrg' hlt hgr hsz hen
    obtain ⟨x', hx', hkl, hwf⟩ := Maps.keyOf_i64 hk hkey
    have hx'' : x = x' := by simpa using hx'
    subst hx''
    subst hkl
    have hhas := has_true_of_atKey hat
    rw [ha.has] at hhas
    simp only [decide_eq_true_eq] at hhas
    obtain ⟨j, rfl⟩ := Int.eq_ofNat_of_zero_le hhas.1
    obtain ⟨l, hLj⟩ := Option.isSome_iff_exists.1 (by simpa using hhas.2 : (L j).isSome = true)
    have hc : c = secV l := by
      have h1 := ha.at_ j l hLj (.map [])
      rw [hat] at h1
      have h2 : y = (.held c, []) := by simpa [RB] using hv.symm
      rw [h2] at h1
      exact DataW.held.inj h1
    subst hc
    have hgot : got j = false := by
      have := hl j
      rw [hlk, hLj] at this
      simpa using this.symm
    refine hMore j l w' hLj hgot ⟨hw, D, _, _, hrg', ha, fun i => ?_⟩ (Stay.grown hgr (fun k hk => by simpa using hk.symm)) hsz (by rw [hrg'.left_eq, hrg.left_eq]; exact hlt) hen
    by_cases hij : i = j
    · subst hij; simp [Lit.sameKey]
    · simp [hl i, hij, Lit.sameKey, Int.ofNat_inj]
end

end Go.Proofs.YthbcgimmbcdnmaaDoor
