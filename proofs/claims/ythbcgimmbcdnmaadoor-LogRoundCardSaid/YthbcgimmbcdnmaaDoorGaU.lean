import Derived.Test.YthbcgimmbcdnmaaDoorLoJ
import Derived.Deep.RegionLaw
import Derived.Laws.OwnMore
import Derived.Test.YthbcgimmbcdnmaaDoorRows
import Derived.ProofKit
import Derived.Test.YthbcgimmbcdnmaaDoorPkB
import Derived.Deep.Slices
import Derived.SizedLaws
import Derived.Test.YthbcgimmbcdnmaaDoorRow
import Derived.LaidEql
import Derived.Stop.Asserts
import Derived.RowKitTokens
import Derived.Lib.Hide
import Derived.ChangeVars
import Derived.JoinedOf
import Derived.LaidLaws
import Derived.LaidHandle
import Derived.Stop.Joined
import Derived.Deep.QuietTactic
import Derived.BigQuiet
import Derived.Test.YthbcgimmbcdnmaaDoorCards
import Derived.Test.YthbcgimmbcdnmaaDoorTie
import Derived.SevenTiedAt
/-
  log, plain: which records are read of an area of which some sectors hold what was laid and others what is older; what holds of a device and a log.
-/
namespace Go.Proofs.YthbcgimmbcdnmaaDoor.Lo
open Go.RowKit
open Tg (writeD flushD down DOk)
set_option maxRecDepth 100000
set_option linter.unusedVariables false

/-- The sectors of records, one behind the other. -/
def layout : Nat → List (List UInt8) → List (List UInt8)
  | _, [] => []
  | s, x :: xs => laid s x ++ layout (s + 1) xs
theorem len_layout : ∀ (xs : List (List UInt8)) (s : Nat), (layout s xs).length = (needsR s xs).sum
  | [], _ => rfl
  | x :: xs, s => by
    show (laid s x ++ layout (s + 1) xs).length = (needL s x :: needsR (s + 1) xs).sum
    rw [List.length_append, len_laid, len_layout xs (s + 1), List.sum_cons]
theorem layout_app : ∀ (xs ys : List (List UInt8)) (s : Nat), layout s (xs ++ ys) = layout s xs ++ layout (s + xs.length) ys
  | [], ys, s => by simp [layout]
  | x :: xs, ys, s => by
    show laid s x ++ layout (s + 1) (xs ++ ys) = laid s x ++ layout (s + 1) xs ++ _
    rw [layout_app xs ys (s + 1), List.append_assoc, show s + 1 + xs.length = s + (x :: xs).length by simp; omega]
theorem layout_take (xs : List (List UInt8)) (s k : Nat) : ∃ r, layout s xs = layout s (xs.take k) ++ r := by
  have h := layout_app (xs.take k) (xs.drop k) s
  rw [List.take_append_drop] at h
  exact ⟨_, h⟩
theorem layout_tag : ∀ (xs : List (List UInt8)) (s j : Nat) (b : List UInt8), (layout s xs)[j]? = some b → ∃ t, s ≤ t ∧ t < s + xs.length ∧ b.take 8 = tagB t
  | [], s, j, b, h => by simp [layout] at h
  | x :: xs, s, j, b, h => by
    by_cases hj : j < needL s x
    · have h1 : (laid s x ++ layout (s + 1) xs)[j]? = some b := h
      rw [List.getElem?_append_left (by rw [len_laid]; exact hj)] at h1
      unfold laid at h1
      rw [List.getElem?_map, List.getElem?_range hj] at h1
      simp at h1
      exact ⟨s, Nat.le_refl _, by simp, by rw [← h1]; exact secB_tag _ _ _⟩
    · have h1 : (laid s x ++ layout (s + 1) xs)[j]? = some b := h
      rw [List.getElem?_append_right (by rw [len_laid]; omega)] at h1
      obtain ⟨t, h2, h3, h4⟩ := layout_tag xs (s + 1) _ b h1
      exact ⟨t, by omega, by simp; omega, h4⟩
theorem layout_64 : ∀ (xs : List (List UInt8)) (s j : Nat) (b : List UInt8), (layout s xs)[j]? = some b → b.length = 64
  | [], s, j, b, h => by simp [layout] at h
  | x :: xs, s, j, b, h => by
    have h1 : (laid s x ++ layout (s + 1) xs)[j]? = some b := h
    by_cases hj : j < needL s x
    · rw [List.getElem?_append_left (by rw [len_laid]; exact hj)] at h1
      unfold laid at h1
      rw [List.getElem?_map, List.getElem?_range hj] at h1
      simp at h1
      rw [← h1]
      exact len_secB _ _ _
    · rw [List.getElem?_append_right (by rw [len_laid]; omega)] at h1
      exact layout_64 xs (s + 1) _ b h1

/-- A sector of a number below this one (noughts have the number 0). -/
def Old (m : Nat) (b : List UInt8) : Prop := ∃ t, t < m ∧ b.take 8 = tagB t
theorem old_zero {m : Nat} (h : 1 ≤ m) : Old m zsec := ⟨0, h, tag_zero⟩
theorem Old.mono {m m' : Nat} {b : List UInt8} (h : Old m b) (hm : m ≤ m') : Old m' b := by
  obtain ⟨t, h1, h2⟩ := h
  exact ⟨t, by omega, h2⟩
theorem Old.ne {m s : Nat} {b : List UInt8} (h : Old m b) (hm : m ≤ s) (hs : s ≤ 1099511627777) : b.take 8 ≠ tagB s := by
  obtain ⟨t, h1, h2⟩ := h
  intro h3
  rw [h2] at h3
  have := tagB_inj (by omega) (by omega) h3
  omega
theorem first_bad (P : Nat → Prop) : ∀ n : Nat, (∀ j, j < n → P j) ∨ ∃ j, j < n ∧ ¬ P j ∧ ∀ i, i < j → P i
  | 0 => .inl (fun j h => by omega)
  | n + 1 => by
    rcases first_bad P n with h | ⟨j, h1, h2, h3⟩
    · rcases Classical.em (P n) with h4 | h4
      · exact .inl (fun j hj => by
          by_cases hjn : j = n
          · subst hjn; exact h4
          · exact h j (by omega))
      · exact .inr ⟨n, by omega, h4, h⟩
    · exact .inr ⟨j, by omega, h2, h3⟩
theorem laid_at {s : Nat} {x : List UInt8} {j : Nat} (h : j < needL s x) : (laid s x)[j]? = some (secB s x j) := by
  unfold laid
  rw [List.getElem?_map, List.getElem?_range h]
  rfl

/-- What is read where each sector holds what was laid there or something older. -/
theorem scan_part (m : Nat) : ∀ (R : List (List UInt8)) (s f : Nat) (bs : List (List UInt8)), (∀ x ∈ R, x.length ≤ 65536) → s + R.length ≤ 1099511627777 → R.length < f → m ≤ s → (layout s R).length ≤ bs.length →
    (∀ (j : Nat) (b : List UInt8), (layout s R)[j]? = some b → bs[j]? = some b ∨ ∃ b', bs[j]? = some b' ∧ Old m b') → (∀ (j : Nat) (b : List UInt8), (layout s R).length ≤ j → bs[j]? = some b → Old m b) →
    ∃ r, r ≤ R.length ∧ scan f s bs = R.take r ∧ (∀ (j : Nat) (b : List UInt8), (layout s (R.take r))[j]? = some b → bs[j]? = some b) ∧ (r < R.length → ∃ (j : Nat) (b b' : List UInt8), (layout s (R.take (r + 1)))[j]? = some b ∧ bs[j]? = some b' ∧ Old m b')
  | [], s, f, bs, _, hn, hf, hm, _, _, h2 => by
    refine ⟨0, Nat.le_refl _, ?_, fun j b h => by simp [layout] at h, fun h => absurd h (Nat.lt_irrefl 0)⟩
    rw [scan_stop]
    · rfl
    · intro b hb
      rw [List.head?_eq_getElem?] at hb
      have := h2 0 b (Nat.le_refl _) hb
      exact this.ne hm (by simpa using hn)
  | x :: R, s, f, bs, hok, hn, hf, hm, hl, h1, h2 => by
    obtain ⟨f, rfl⟩ : ∃ f0, f = f0 + 1 := ⟨f - 1, by simp at hf; omega⟩
    have hx : x.length ≤ 65536 := hok x (List.mem_cons_self ..)
    have hs : s ≤ 1099511627776 := by simp at hn; omega
    have hlen : (layout s (x :: R)).length = needL s x + (layout (s + 1) R).length := by
      show (laid s x ++ layout (s + 1) R).length = _
      rw [List.length_append, len_laid]
    have hlay : ∀ j, j < needL s x → (layout s (x :: R))[j]? = some (secB s x j) := fun j hj => by
      show (laid s x ++ layout (s + 1) R)[j]? = _
      rw [List.getElem?_append_left (by rw [len_laid]; exact hj), laid_at hj]
    have hlay2 : ∀ j, (layout s (x :: R))[needL s x + j]? = (layout (s + 1) R)[j]? := fun j => by
      show (laid s x ++ layout (s + 1) R)[needL s x + j]? = _
      rw [List.getElem?_append_right (by rw [len_laid]; omega), len_laid, show needL s x + j - needL s x = j by omega]
    rcases first_bad (fun j => bs[j]? = some (secB s x j)) (needL s x) with hall | ⟨j, hj, hbad, hmin⟩
    · have hbs : bs = laid s x ++ bs.drop (needL s x) := by
        refine List.ext_getElem? (fun i => ?_)
        by_cases hi : i < needL s x
        · rw [List.getElem?_append_left (by rw [len_laid]; exact hi), laid_at hi]
          exact hall i hi
        · rw [List.getElem?_append_right (by rw [len_laid]; omega), len_laid, List.getElem?_drop, show needL s x + (i - needL s x) = i by omega]
      obtain ⟨r, e1, e2, e3, e4⟩ := scan_part m R (s + 1) f (bs.drop (needL s x)) (fun y hy => hok y (List.mem_cons_of_mem _ hy)) (by simp at hn; omega) (by simp at hf; omega) (by omega) (by rw [List.length_drop]; omega)
        (fun i b hi => by
          rw [List.getElem?_drop]
          exact h1 _ b (by rw [hlay2]; exact hi))
        (fun i b hi hb => by
          rw [List.getElem?_drop] at hb
          exact h2 _ b (by omega) hb)
      refine ⟨r + 1, by simp; omega, ?_, fun i b hi => ?_, fun hr => ?_⟩
      · rw [hbs, scan_laid hs hx, e2]
        rfl
      · have hi' : (laid s x ++ layout (s + 1) (R.take r))[i]? = some b := hi
        by_cases hi2 : i < needL s x
        · rw [List.getElem?_append_left (by rw [len_laid]; exact hi2), laid_at hi2] at hi'
          rw [← hi']
          exact hall i hi2
        · rw [List.getElem?_append_right (by rw [len_laid]; omega), len_laid] at hi'
          have := e3 _ b hi'
          rw [List.getElem?_drop, show needL s x + (i - needL s x) = i by omega] at this
          exact this
      · obtain ⟨i, b, b', q1, q2, q3⟩ := e4 (by simp at hr; omega)
        refine ⟨needL s x + i, b, b', ?_, ?_, q3⟩
        · show (laid s x ++ layout (s + 1) (R.take (r + 1)))[needL s x + i]? = _
          rw [List.getElem?_append_right (by rw [len_laid]; omega), len_laid, show needL s x + i - needL s x = i by omega]
          exact q1
        · rw [List.getElem?_drop] at q2
          exact q2
    · have hb := h1 j _ (hlay j hj)
      rcases hb with hb | ⟨b', hb, ho⟩
      · exact absurd hb hbad
      have hbs : bs = ((List.range j).map (secB s x)) ++ bs.drop j := by
        refine List.ext_getElem? (fun i => ?_)
        by_cases hi : i < j
        · rw [List.getElem?_append_left (by simp; exact hi), List.getElem?_map, List.getElem?_range hi]
          exact hmin i hi
        · rw [List.getElem?_append_right (by simp; omega), List.getElem?_drop]
          simp
          rw [show j + (i - j) = i by omega]
      refine ⟨0, Nat.zero_le _, ?_, fun i b h => by simp [layout] at h, fun _ => ⟨j, secB s x j, b', ?_, hb, ho⟩⟩
      · rw [hbs, scan_torn hs hx hj]
        · rfl
        · intro c hc
          rw [List.head?_eq_getElem?, List.getElem?_drop, Nat.add_zero, hb] at hc
          cases hc
          exact ho.ne hm (by omega)
      · show (laid s x ++ layout (s + 1) (R.take 0))[j]? = _
        rw [List.getElem?_append_left (by rw [len_laid]; exact hj), laid_at hj]
end Go.Proofs.YthbcgimmbcdnmaaDoor.Lo

/-
  log, plain: what holds of a device and the records of a log on it, behind each call, and behind each crash.
-/
namespace Go.Proofs.YthbcgimmbcdnmaaDoor.Lo
open Go.RowKit
open Tg (writeD flushD down DOk)
set_option maxRecDepth 100000
set_option linter.unusedVariables false

def posn (F S a j : Nat) : Nat := F + (a + j) % S
theorem posn_inj {F S a j j' : Nat} (h : j < S) (h' : j' < S) (e : posn F S a j = posn F S a j') : j = j' := by
  unfold posn at e
  have e1 : (a + j) % S = (a + j') % S := by omega
  have key : ∀ x y : Nat, x ≤ y → y < S → (a + x) % S = (a + y) % S → x = y := fun x y hxy hy he => by
    have h1 := Nat.sub_mod_eq_zero_of_mod_eq he.symm
    rw [show a + y - (a + x) = y - x by omega, Nat.mod_eq_of_lt (by omega)] at h1
    omega
  rcases Nat.le_total j j' with hl | hl
  · exact key j j' hl h' e1
  · exact (key j' j hl h e1.symm).symm
theorem posn_lt {F S a j n : Nat} (hS : 1 ≤ S) (h : F + S ≤ n) : posn F S a j < n := by
  have := Nat.mod_lt (a + j) (show S > 0 by omega)
  unfold posn
  omega
theorem len_le_needs : ∀ (xs : List (List UInt8)) (s : Nat), xs.length ≤ (needsR s xs).sum
  | [], _ => Nat.le_refl _
  | x :: xs, s => by
    have h1 := len_le_needs xs (s + 1)
    have h2 := needL_pos s x
    show xs.length + 1 ≤ (needL s x :: needsR (s + 1) xs).sum
    rw [List.sum_cons]
    omega

/-- What the sectors hold: each one of a record its part, or what is older, but for those of the first k records; each other one what is older. -/
structure Att (c : Nat → List UInt8) (F S a s : Nat) (R : List (List UInt8)) (k : Nat) : Prop where
  ok : ∀ x ∈ R, x.length ≤ 65536
  u : (layout s R).length ≤ S
  nx : s + R.length ≤ 1099511627777
  s1 : 1 ≤ s
  kl : k ≤ R.length
  here : ∀ (j : Nat) (b : List UInt8), (layout s R)[j]? = some b → c (posn F S a j) = b ∨ ((layout s (R.take k)).length ≤ j ∧ Old s (c (posn F S a j)))
  old : ∀ j, (layout s R).length ≤ j → j < S → Old s (c (posn F S a j))
theorem Att.le {c : Nat → List UInt8} {F S a s : Nat} {R : List (List UInt8)} {k : Nat} (h : Att c F S a s R k) : R.length ≤ S := by
  have h1 := len_le_needs R s
  have h2 := h.u
  rw [len_layout] at h2
  omega
theorem Att.read {d : DS} {F S a s : Nat} {R : List (List UInt8)} {k : Nat} (h : Att d.cur F S a s R k) : ∃ r, k ≤ r ∧ r ≤ R.length ∧ recsD d F S a s = R.take r ∧ ∀ (j : Nat) (b : List UInt8), (layout s (R.take r))[j]? = some b → d.cur (posn F S a j) = b := by
  have hle := h.le
  have hu := h.u
  obtain ⟨r, h1, h2, h3, h4⟩ := scan_part s R s (S + 1) (blksD d F S a S) h.ok h.nx (by omega) (Nat.le_refl _) (by rw [len_blksD]; exact h.u)
    (fun j b hj => by
      have hjl := (List.getElem?_eq_some_iff.1 hj).1
      rw [blksD_at (by omega)]
      rcases h.here j b hj with h5 | ⟨_, h5⟩
      · exact .inl (by rw [← h5]; rfl)
      · exact .inr ⟨_, rfl, h5⟩)
    (fun j b hj hb => by
      have hjl := (List.getElem?_eq_some_iff.1 hb).1
      rw [len_blksD] at hjl
      rw [blksD_at hjl] at hb
      cases hb
      exact h.old j hj hjl)
  have h3' : ∀ (j : Nat) (b : List UInt8), (layout s (R.take r))[j]? = some b → d.cur (posn F S a j) = b := fun j b hj => by
    have h5 := h3 j b hj
    have hjl := (List.getElem?_eq_some_iff.1 h5).1
    rw [len_blksD] at hjl
    rw [blksD_at hjl] at h5
    exact Option.some.inj h5
  refine ⟨r, ?_, h1, h2, h3'⟩
  by_cases hrk : k ≤ r
  · exact hrk
  exfalso
  have hkl := h.kl
  obtain ⟨j, b, b', q1, q2, q3⟩ := h4 (by omega)
  obtain ⟨r1, e1⟩ := layout_take (R.take k) s (r + 1)
  rw [List.take_take, Nat.min_eq_left (by omega)] at e1
  obtain ⟨r2, e2⟩ := layout_take R s k
  have hjr := (List.getElem?_eq_some_iff.1 q1).1
  have hj1 : (layout s R)[j]? = some b := by
    rw [e2, e1, List.append_assoc, List.getElem?_append_left hjr]
    exact q1
  have hjk : j < (layout s (R.take k)).length := by rw [e1, List.length_append]; omega
  have hjl := (List.getElem?_eq_some_iff.1 hj1).1
  have h5 : d.cur (posn F S a j) = b := by
    rcases h.here j b hj1 with h5 | ⟨h5, _⟩
    · exact h5
    · omega
  rw [blksD_at (by omega)] at q2
  have q2' : d.cur (posn F S a j) = b' := Option.some.inj q2
  obtain ⟨t, t1, t2, t3⟩ := layout_tag R s j b hj1
  have hnx := h.nx
  rw [← q2', h5] at q3
  exact q3.ne t1 (by omega) t3

/-- What holds of a device and the records of a log on it, of which k are safe. -/
structure Inv (d : DS) (F S a s : Nat) (R : List (List UInt8)) (k : Nat) : Prop where
  ok : ∀ x ∈ R, x.length ≤ 65536
  u : (layout s R).length ≤ S
  nx : s + R.length ≤ 1099511627777
  s1 : 1 ≤ s
  kl : k ≤ R.length
  cur : ∀ (j : Nat) (b : List UInt8), (layout s R)[j]? = some b → d.cur (posn F S a j) = b
  oldc : ∀ j, (layout s R).length ≤ j → j < S → Old s (d.cur (posn F S a j))
  saf : ∀ (j : Nat) (b : List UInt8), (layout s (R.take k))[j]? = some b → d.s (posn F S a j) = b
  olds : ∀ j, (layout s (R.take k)).length ≤ j → j < S → Old s (d.s (posn F S a j))
theorem Inv.att {d : DS} {F S a s : Nat} {R : List (List UInt8)} {k : Nat} (h : Inv d F S a s R k) {c : Nat → List UInt8} (hc : ∀ i, c i = d.cur i ∨ c i = d.s i) : Att c F S a s R k := by
  obtain ⟨r, hr⟩ := layout_take R s k
  have hu := h.u
  refine ⟨h.ok, h.u, h.nx, h.s1, h.kl, fun j b hj => ?_, fun j hj hS => ?_⟩
  · have hjl := (List.getElem?_eq_some_iff.1 hj).1
    rcases hc (posn F S a j) with h1 | h1
    · exact .inl (h1.trans (h.cur j b hj))
    · by_cases hjk : j < (layout s (R.take k)).length
      · refine .inl (h1.trans (h.saf j b ?_))
        rw [hr, List.getElem?_append_left hjk] at hj
        exact hj
      · exact .inr ⟨by omega, by rw [h1]; exact h.olds j (by omega) (by omega)⟩
  · rcases hc (posn F S a j) with h1 | h1
    · rw [h1]; exact h.oldc j hj hS
    · rw [h1]; exact h.olds j (by rw [hr, List.length_append] at hj; omega) hS

/-- What a write does. -/
theorem writeD_s (d : DS) (i : Int) (l : List UInt8) : (writeD d i l).1.s = d.s := by unfold writeD; (repeat' split) <;> rfl
theorem writeD_cur (d : DS) (i : Nat) (l : List UInt8) : ((writeD d (i : Int) l).2 = 0 → (writeD d (i : Int) l).1.cur i = pad l) ∧ (∀ p, (writeD d (i : Int) l).1.cur p = d.cur p ∨ (p = i ∧ (writeD d (i : Int) l).1.cur p = pad l)) := by
  have hw : ∀ e : DS, (e.wrote i l).cur i = pad l := fun e => by simp [DS.wrote, DS.cur, updL]
  have ho : ∀ (e : DS) (p : Nat), (e.wrote i l).cur p = e.cur p ∨ (p = i ∧ (e.wrote i l).cur p = pad l) := fun e p => by
    by_cases hp : p = i
    · exact .inr ⟨hp, by rw [hp]; exact hw e⟩
    · exact .inl (by simp [DS.wrote, DS.cur, updL, hp])
  unfold writeD
  by_cases h1 : down d = true
  · rw [if_pos h1]
    exact ⟨fun h => absurd h (by simp), fun p => Or.inl rfl⟩
  rw [if_neg h1]
  by_cases h2 : (i : Int) < 0 ∨ (d.n : Int) ≤ (i : Int)
  · rw [if_pos h2]
    exact ⟨fun h => absurd h (by simp), fun p => Or.inl rfl⟩
  rw [if_neg h2]
  by_cases h3 : 64 < l.length
  · rw [if_pos h3]
    exact ⟨fun h => absurd h (by simp), fun p => Or.inl rfl⟩
  rw [if_neg h3, Int.toNat_natCast]
  by_cases h4 : d.ar = true
  · rw [if_pos h4]
    by_cases h5 : d.left = 0
    · rw [if_pos h5]
      exact ⟨fun h => absurd h (by simp), fun p => Or.inl rfl⟩
    · rw [if_neg h5]
      exact ⟨fun _ => hw _, fun p => ho { d with left := d.left - 1 } p⟩
  · rw [if_neg h4]
    exact ⟨fun _ => hw _, fun p => ho d p⟩
theorem writeD_err {d : DS} {i : Nat} {l : List UInt8} (hi : i < d.n) (hl : l.length ≤ 64) (h : (writeD d (i : Int) l).2 ≠ 0) : down (writeD d (i : Int) l).1 = true := by
  unfold writeD at h ⊢
  by_cases h1 : down d = true
  · rw [if_pos h1]; exact h1
  rw [if_neg h1, if_neg (by omega), if_neg (by omega)] at h ⊢
  by_cases h4 : d.ar = true
  · rw [if_pos h4] at h ⊢
    by_cases h5 : d.left = 0
    · rw [if_pos h5]
      rfl
    · rw [if_neg h5] at h
      exact absurd rfl h
  · rw [if_neg h4] at h
    exact absurd rfl h

/-- What a record's writes do. -/
theorem putsD_s (F S s : Nat) (l : List UInt8) : ∀ (ks : List Nat) (d : DS) (i : Nat), (putsD F S s l d i ks).1.s = d.s
  | [], d, i => rfl
  | k :: ks, d, i => by
    simp only [putsD]
    split
    · rw [putsD_s F S s l ks, writeD_s]
    · exact writeD_s _ _ _
theorem putsD_err {F S s : Nat} {l : List UInt8} (hS : 1 ≤ S) : ∀ (ks : List Nat) (d : DS) (i : Nat), F + S ≤ d.n → (putsD F S s l d i ks).2 ≠ 0 → down (putsD F S s l d i ks).1 = true
  | [], d, i, _, h => absurd rfl h
  | k :: ks, d, i, hn, h => by
    have hm := Nat.mod_lt i (show S > 0 by omega)
    simp only [putsD] at h ⊢
    by_cases h0 : (writeD d ((F + i % S : Nat) : Int) (rawB s l k)).2 = 0
    · rw [if_pos h0] at h ⊢
      exact putsD_err hS ks _ (i + 1) (by rw [Tg.writeD_n]; exact hn) h
    · rw [if_neg h0] at h ⊢
      exact writeD_err (by omega) (len_rawB _ _ _) h
theorem putsD_up {F S s : Nat} {l : List UInt8} : ∀ (ks : List Nat) (d : DS) (i : Nat), ¬ down d = true → (putsD F S s l d i ks).2 = 0 → ¬ down (putsD F S s l d i ks).1 = true
  | [], d, i, hu, h => hu
  | k :: ks, d, i, hu, h => by
    simp only [putsD] at h ⊢
    by_cases h0 : (writeD d ((F + i % S : Nat) : Int) (rawB s l k)).2 = 0
    · rw [if_pos h0] at h ⊢
      exact putsD_up ks _ (i + 1) (writeD_up hu h0) h
    · rw [if_neg h0] at h
      exact absurd h h0
/-- Sectors from i on get the parts from o on. -/
theorem putsD_cur (F S s : Nat) (l : List UInt8) : ∀ (m o : Nat) (d : DS) (i : Nat), m ≤ S → (∀ p, (putsD F S s l d i ((List.range m).map (o + ·))).1.cur p = d.cur p ∨ ∃ t, t < m ∧ p = F + (i + t) % S ∧ (putsD F S s l d i ((List.range m).map (o + ·))).1.cur p = pad (rawB s l (o + t))) ∧
    ((putsD F S s l d i ((List.range m).map (o + ·))).2 = 0 → ∀ t, t < m → (putsD F S s l d i ((List.range m).map (o + ·))).1.cur (F + (i + t) % S) = pad (rawB s l (o + t)))
  | 0, o, d, i, _ => ⟨fun p => .inl rfl, fun _ t h => by omega⟩
  | m + 1, o, d, i, hm => by
    have e : (List.range (m + 1)).map (o + ·) = (o + 0) :: (List.range m).map (o + 1 + ·) := by
      rw [List.range_succ_eq_map, List.map_cons, List.map_map]
      congr 1
      refine List.map_congr_left (fun x _ => ?_)
      show o + (x + 1) = o + 1 + x
      omega
    rw [e]
    simp only [putsD, Nat.add_zero]
    obtain ⟨hw1, hw2⟩ := writeD_cur d (F + i % S) (rawB s l o)
    by_cases h0 : (writeD d ((F + i % S : Nat) : Int) (rawB s l o)).2 = 0
    · rw [if_pos h0]
      obtain ⟨ih1, ih2⟩ := putsD_cur F S s l m (o + 1) (writeD d ((F + i % S : Nat) : Int) (rawB s l o)).1 (i + 1) (by omega)
      refine ⟨fun p => ?_, fun hz t ht => ?_⟩
      · rcases ih1 p with h1 | ⟨t, h1, h2, h3⟩
        · rcases hw2 p with h4 | ⟨h4, h5⟩
          · exact .inl (h1.trans h4)
          · exact .inr ⟨0, by omega, h4, by rw [h1, h5]; rfl⟩
        · exact .inr ⟨t + 1, by omega, by rw [h2, show i + 1 + t = i + (t + 1) by omega], by rw [h3, show o + 1 + t = o + (t + 1) by omega]⟩
      · cases t with
        | zero =>
          rcases ih1 (F + (i + 0) % S) with h1 | ⟨t, h1, h2, h3⟩
          · rw [h1]
            exact hw1 h0
          · exfalso
            have := posn_inj (F := F) (S := S) (a := i) (j := 0) (j' := t + 1) (by omega) (by omega) (by unfold posn; rw [h2, show i + 1 + t = i + (t + 1) by omega])
            omega
        | succ t =>
          have := ih2 hz t (by omega)
          rw [show i + (t + 1) = i + 1 + t by omega, show o + (t + 1) = o + 1 + t by omega]
          exact this
    · rw [if_neg h0]
      refine ⟨fun p => ?_, fun hz => absurd hz h0⟩
      rcases hw2 p with h4 | ⟨h4, h5⟩
      · exact .inl h4
      · exact .inr ⟨0, by omega, h4, h5⟩

/-- A record put behind the others. -/
theorem Inv.put {d : DS} {F S a s : Nat} {R : List (List UInt8)} {k : Nat} (h : Inv d F S a s R k) {x : List UInt8} (hx : x.length ≤ 65536) (hn : s + R.length ≤ 1099511627776) (hr : (needsR s R).sum + needL (s + R.length) x ≤ S) {d2 : DS} {e : Nat}
    (hp : (d2, e) = putsD F S (s + R.length) (recB (s + R.length) x) d (a + (needsR s R).sum) (List.range (needL (s + R.length) x))) :
    (e = 0 → Inv d2 F S a s (R ++ [x]) k) ∧ ∀ c : Nat → List UInt8, (∀ i, c i = d2.cur i ∨ c i = d2.s i) → Att c F S a s (R ++ [x]) k := by
  obtain ⟨n, hn0⟩ : ∃ n, n = needL (s + R.length) x := ⟨_, rfl⟩
  have hul := len_layout R s
  obtain ⟨u, hu⟩ : ∃ u, u = (needsR s R).sum := ⟨_, rfl⟩
  rw [← hu] at hul hr hp
  rw [← hn0] at hr hp
  have er : (List.range n).map (0 + ·) = List.range n := by
    have : (fun x : Nat => 0 + x) = id := by funext x; simp
    rw [this, List.map_id]
  obtain ⟨q1, q2⟩ := putsD_cur F S (s + R.length) (recB (s + R.length) x) n 0 d (a + u) (by omega)
  rw [er, ← hp] at q1 q2
  have hs : d2.s = d.s := by
    have := putsD_s F S (s + R.length) (recB (s + R.length) x) (List.range n) d (a + u)
    rw [← hp] at this
    exact this
  simp only [Nat.zero_add] at q1 q2
  have hlay : layout s (R ++ [x]) = layout s R ++ laid (s + R.length) x := by
    rw [layout_app]
    show layout s R ++ (laid (s + R.length) x ++ []) = _
    rw [List.append_nil]
  have hlen : (layout s (R ++ [x])).length = u + n := by rw [hlay, List.length_append, len_laid, hul, hn0]
  have htk : ∀ m, m ≤ R.length → (R ++ [x]).take m = R.take m := fun m hm => by rw [List.take_append_of_le_length hm]
  have hpo : ∀ t, F + (a + u + t) % S = posn F S a (u + t) := fun t => by unfold posn; rw [Nat.add_assoc]
  have same : ∀ j, j < S → (j < u ∨ u + n ≤ j) → d2.cur (posn F S a j) = d.cur (posn F S a j) := fun j hj hjj => by
    rcases q1 (posn F S a j) with h1 | ⟨t, h1, h2, h3⟩
    · exact h1
    · exfalso
      rw [hpo] at h2
      have := posn_inj hj (by omega) h2
      omega
  have hkl := h.kl
  have hok : ∀ y ∈ R ++ [x], y.length ≤ 65536 := fun y hy => by
    rcases List.mem_append.1 hy with h1 | h1
    · exact h.ok y h1
    · simp at h1
      rw [h1]
      exact hx
  have hnew : ∀ (j : Nat) (b : List UInt8), (layout s (R ++ [x]))[j]? = some b → (j < u ∧ (layout s R)[j]? = some b) ∨ (u ≤ j ∧ j < u + n ∧ b = pad (rawB (s + R.length) (recB (s + R.length) x) (j - u))) := fun j b hj => by
    have hjl := (List.getElem?_eq_some_iff.1 hj).1
    rw [hlen] at hjl
    rw [hlay] at hj
    by_cases hju : j < u
    · rw [List.getElem?_append_left (by omega)] at hj
      exact .inl ⟨hju, hj⟩
    · rw [List.getElem?_append_right (by omega), hul, laid_at (by omega)] at hj
      exact .inr ⟨by omega, hjl, (Option.some.inj hj).symm⟩
  refine ⟨fun he => ?_, fun c hc => ?_⟩
  · refine ⟨hok, by rw [hlen]; exact hr, by simp; omega, h.s1, by simp; omega, fun j b hj => ?_, fun j hj hS => ?_, fun j b hj => ?_, fun j hj hS => ?_⟩
    · rcases hnew j b hj with ⟨h1, h2⟩ | ⟨h1, h2, h3⟩
      · rw [same j (by omega) (.inl h1)]
        exact h.cur j b h2
      · have := q2 he (j - u) (by omega)
        rw [hpo, show u + (j - u) = j by omega] at this
        rw [this, h3]
    · rw [hlen] at hj
      rw [same j hS (.inr hj)]
      exact h.oldc j (by omega) hS
    · rw [htk k hkl] at hj
      rw [hs]
      exact h.saf j b hj
    · rw [htk k hkl] at hj
      rw [hs]
      exact h.olds j hj hS
  · obtain ⟨r, hr2⟩ := layout_take R s k
    have hkk : (layout s (R.take k)).length ≤ u := by rw [← hul, hr2, List.length_append]; omega
    refine ⟨hok, by rw [hlen]; exact hr, by simp; omega, h.s1, by simp; omega, fun j b hj => ?_, fun j hj hS => ?_⟩
    · rw [htk k hkl]
      rcases hnew j b hj with ⟨h1, h2⟩ | ⟨h1, h2, h3⟩
      · rcases hc (posn F S a j) with h4 | h4
        · exact .inl (by rw [h4, same j (by omega) (.inl h1)]; exact h.cur j b h2)
        · by_cases hjk : j < (layout s (R.take k)).length
          · refine .inl (by rw [h4, hs]; refine h.saf j b ?_; rw [hr2, List.getElem?_append_left hjk] at h2; exact h2)
          · exact .inr ⟨by omega, by rw [h4, hs]; exact h.olds j (by omega) (by omega)⟩
      · rcases hc (posn F S a j) with h4 | h4
        · rcases q1 (posn F S a j) with h5 | ⟨t, h5, h6, h7⟩
          · exact .inr ⟨by omega, by rw [h4, h5]; exact h.oldc j (by omega) (by omega)⟩
          · rw [hpo] at h6
            have := posn_inj (show j < S by omega) (by omega) h6
            refine .inl ?_
            rw [h4, h7, h3, show j - u = t by omega]
        · exact .inr ⟨by omega, by rw [h4, hs]; exact h.olds j (by omega) (by omega)⟩
    · rw [hlen] at hj
      rcases hc (posn F S a j) with h4 | h4
      · rw [h4, same j hS (.inr hj)]
        exact h.oldc j (by omega) hS
      · rw [h4, hs]
        exact h.olds j (by omega) hS
/-- All is safe. -/
theorem Inv.flushed {d : DS} {F S a s : Nat} {R : List (List UInt8)} {k : Nat} (h : Inv d F S a s R k) : Inv d.flushed F S a s R R.length := by
  have hc : ∀ i, d.flushed.cur i = d.cur i := fun i => cur_flushed d i
  refine ⟨h.ok, h.u, h.nx, h.s1, Nat.le_refl _, fun j b hj => ?_, fun j hj hS => ?_, fun j b hj => ?_, fun j hj hS => ?_⟩
  · rw [hc]; exact h.cur j b hj
  · rw [hc]; exact h.oldc j hj hS
  · rw [List.take_length] at hj
    show d.cur _ = b
    exact h.cur j b hj
  · rw [List.take_length] at hj
    show Old s (d.cur _)
    exact h.oldc j hj hS
end Go.Proofs.YthbcgimmbcdnmaaDoor.Lo

/-
  log, plain: what holds behind Trim and Open.
-/
namespace Go.Proofs.YthbcgimmbcdnmaaDoor.Lo
open Go.RowKit
open Tg (writeD flushD down DOk)
set_option maxRecDepth 100000
set_option linter.unusedVariables false

theorem posn_trim (F S a u j : Nat) : posn F S ((a + u) % S) j = posn F S a (u + j) := by
  unfold posn
  rw [Nat.mod_add_mod, Nat.add_assoc]
theorem posn_wrap (F S a j : Nat) (h : S ≤ j) : posn F S a j = posn F S a (j - S) := by
  unfold posn
  rw [show a + j = a + (j - S) + S by omega, Nat.add_mod_right]
/-- The first t records are dropped. -/
theorem Inv.trim {d : DS} {F S a s : Nat} {R : List (List UInt8)} {k : Nat} (h : Inv d F S a s R k) {t : Nat} (ht : t ≤ R.length) :
    Inv d F S ((a + (needsR s (R.take t)).sum) % S) (s + t) (R.drop t) (k - t) := by
  obtain ⟨u, hu⟩ : ∃ u, u = (needsR s (R.take t)).sum := ⟨_, rfl⟩
  rw [← hu]
  have hul : (layout s (R.take t)).length = u := by rw [len_layout, hu]
  have hlt : (R.take t).length = t := by rw [List.length_take]; omega
  have hsp : layout s R = layout s (R.take t) ++ layout (s + t) (R.drop t) := by
    have := layout_app (R.take t) (R.drop t) s
    rw [List.take_append_drop, hlt] at this
    exact this
  have hL := h.u
  have hlen : (layout s R).length = u + (layout (s + t) (R.drop t)).length := by rw [hsp, List.length_append, hul]
  have hold : ∀ i b, i < u → (layout s R)[i]? = some b → Old (s + t) b := fun i b hi hb => by
    rw [hsp, List.getElem?_append_left (by omega)] at hb
    obtain ⟨t', h1, h2, h3⟩ := layout_tag _ _ _ _ hb
    rw [hlt] at h2
    exact ⟨t', h2, h3⟩
  have hat : ∀ i, i < (layout s R).length → ∃ b, (layout s R)[i]? = some b := fun i hi => ⟨_, List.getElem?_eq_getElem hi⟩
  have hkl := h.kl
  have hnx := h.nx
  -- the safe ones
  have hsf : ∀ i b, (layout s (R.take k))[i]? = some b → (layout s R)[i]? = some b := fun i b hb => by
    obtain ⟨r, hr⟩ := layout_take R s k
    rw [hr, List.getElem?_append_left (List.getElem?_eq_some_iff.1 hb).1]
    exact hb
  have hkt : t ≤ k → layout s (R.take k) = layout s (R.take t) ++ layout (s + t) ((R.drop t).take (k - t)) := fun hk => by
    have h1 := layout_app ((R.take k).take t) ((R.take k).drop t) s
    rw [List.take_append_drop, List.take_take, Nat.min_eq_left hk, hlt] at h1
    rw [h1, List.drop_take]
  have hktl : k ≤ t → (layout s (R.take k)).length ≤ u := fun hk => by
    obtain ⟨r, hr⟩ := layout_take (R.take t) s k
    rw [List.take_take, Nat.min_eq_left hk] at hr
    rw [← hul, hr, List.length_append]
    omega
  refine ⟨fun x hx => h.ok x (List.mem_of_mem_drop hx), by omega, by rw [List.length_drop]; omega, by have := h.s1; omega, by rw [List.length_drop]; omega, fun j b hj => ?_, fun j hj hS => ?_, fun j b hj => ?_, fun j hj hS => ?_⟩
  · rw [posn_trim]
    refine h.cur _ b ?_
    rw [hsp, List.getElem?_append_right (by omega), hul, show u + j - u = j by omega]
    exact hj
  · rw [posn_trim]
    by_cases hi : u + j < S
    · exact (h.oldc _ (by omega) hi).mono (by omega)
    · rw [posn_wrap _ _ _ _ (by omega)]
      obtain ⟨b, hb⟩ := hat (u + j - S) (by omega)
      rw [h.cur _ b hb]
      exact hold _ b (by omega) hb
  · rw [posn_trim]
    by_cases hk : t ≤ k
    · refine h.saf _ b ?_
      rw [hkt hk, List.getElem?_append_right (by omega), hul, show u + j - u = j by omega]
      exact hj
    · rw [show k - t = 0 by omega] at hj
      simp [layout] at hj
  · rw [posn_trim]
    by_cases hi : u + j < S
    · by_cases hk : t ≤ k
      · refine (h.olds _ ?_ hi).mono (by omega)
        rw [hkt hk, List.length_append]
        omega
      · refine (h.olds _ ?_ hi).mono (by omega)
        have := hktl (by omega)
        omega
    · rw [posn_wrap _ _ _ _ (by omega)]
      by_cases hm : u + j - S < (layout s (R.take k)).length
      · obtain ⟨b, hb⟩ : ∃ b, (layout s (R.take k))[u + j - S]? = some b := ⟨_, List.getElem?_eq_getElem hm⟩
        rw [h.saf _ b hb]
        exact hold _ b (by omega) (hsf _ b hb)
      · exact (h.olds _ (by omega) (by omega)).mono (by omega)

theorem pad_nil : pad [] = zsec := by decide
/-- What wiping does. -/
theorem wipeK_eff (F S fr : Nat) : ∀ (ks : List Nat) (d : DS) (b : Bool), ¬ down d = true → (wipeK F S fr ks (d, b)).1.1.s = d.s ∧ (wipeK F S fr ks (d, b)).1.1.n = d.n ∧
    (∀ p, (wipeK F S fr ks (d, b)).1.1.cur p = d.cur p ∨ ((wipeK F S fr ks (d, b)).1.1.cur p = zsec ∧ ∃ i ∈ ks, p = F + (fr + i) % S)) ∧
    ((wipeK F S fr ks (d, b)).2 = 0 → ¬ down (wipeK F S fr ks (d, b)).1.1 = true ∧ (∀ i ∈ ks, (wipeK F S fr ks (d, b)).1.1.cur (F + (fr + i) % S) = zsec) ∧ ((wipeK F S fr ks (d, b)).1.2 = false → (wipeK F S fr ks (d, b)).1.1 = d ∧ b = false))
  | [], d, b, hu => ⟨rfl, rfl, fun p => .inl rfl, fun _ => ⟨hu, fun i hi => (by cases hi), fun h => ⟨rfl, h⟩⟩⟩
  | k :: ks, d, b, hu => by
    simp only [wipeK]
    by_cases h1 : d.cur (F + (fr + k) % S) = zsec
    · rw [if_pos h1]
      obtain ⟨q1, q2, q3, q4⟩ := wipeK_eff F S fr ks d b hu
      refine ⟨q1, q2, fun p => ?_, fun hz => ?_⟩
      · rcases q3 p with h | ⟨h, i, hi, hp⟩
        · exact .inl h
        · exact .inr ⟨h, i, List.mem_cons_of_mem _ hi, hp⟩
      · obtain ⟨p1, p2, p3⟩ := q4 hz
        refine ⟨p1, fun i hi => ?_, p3⟩
        rcases List.mem_cons.1 hi with rfl | hi
        · rcases q3 (F + (fr + i) % S) with h | ⟨h, _⟩
          · rw [h]; exact h1
          · exact h
        · exact p2 i hi
    · rw [if_neg h1]
      obtain ⟨w1, w2⟩ := writeD_cur d (F + (fr + k) % S) []
      have ws := writeD_s d ((F + (fr + k) % S : Nat) : Int) []
      have wn := Tg.writeD_n d ((F + (fr + k) % S : Nat) : Int) []
      rw [pad_nil] at w1 w2
      by_cases h2 : (writeD d ((F + (fr + k) % S : Nat) : Int) []).2 = 0
      · rw [if_pos h2]
        obtain ⟨q1, q2, q3, q4⟩ := wipeK_eff F S fr ks (writeD d ((F + (fr + k) % S : Nat) : Int) []).1 true (writeD_up hu h2)
        refine ⟨q1.trans ws, q2.trans wn, fun p => ?_, fun hz => ?_⟩
        · rcases q3 p with h | ⟨h, i, hi, hp⟩
          · rcases w2 p with h3 | ⟨h3, h4⟩
            · exact .inl (h.trans h3)
            · exact .inr ⟨h.trans h4, k, List.mem_cons_self .., h3⟩
          · exact .inr ⟨h, i, List.mem_cons_of_mem _ hi, hp⟩
        · obtain ⟨p1, p2, p3⟩ := q4 hz
          refine ⟨p1, fun i hi => ?_, fun hb => ?_⟩
          · rcases List.mem_cons.1 hi with rfl | hi
            · rcases q3 (F + (fr + i) % S) with h | ⟨h, _⟩
              · rw [h]; exact w1 h2
              · exact h
            · exact p2 i hi
          · have := (p3 hb).2
            cases this
      · rw [if_neg h2]
        refine ⟨ws, wn, fun p => ?_, fun hz => absurd hz h2⟩
        rcases w2 p with h3 | ⟨h3, h4⟩
        · exact .inl h3
        · exact .inr ⟨h4, k, List.mem_cons_self .., h3⟩
theorem cur_none {d : DS} (h : d.L = none64) (i : Nat) : d.cur i = d.s i := by unfold DS.cur; rw [h]; rfl

/-- What Open reads, and what holds behind it. -/
theorem open_inv {d : DS} {F S a s : Nat} {R : List (List UInt8)} {k : Nat} (h : Att d.cur F S a s R k) (hL : d.L = none64) (hup : ¬ down d = true) (hS : 1 ≤ S) :
    ∃ r, k ≤ r ∧ r ≤ R.length ∧ recsD d F S a s = R.take r ∧ (openD d F S a s).1.n = d.n ∧
      ((openD d F S a s).2 = 0 → Inv (openD d F S a s).1 F S a s (R.take r) r ∧ (openD d F S a s).1.L = none64 ∧ ¬ down (openD d F S a s).1 = true) ∧
      ((openD d F S a s).2 ≠ 0 → ∀ c : Nat → List UInt8, (∀ i, c i = (openD d F S a s).1.cur i ∨ c i = (openD d F S a s).1.s i) → Att c F S a s R k) := by
  obtain ⟨r, h1, h2, h3, h4⟩ := h.read
  obtain ⟨u, hu⟩ : ∃ u, u = usedD d F S a s := ⟨_, rfl⟩
  have hul : (layout s (R.take r)).length = u := by rw [len_layout, hu]; unfold usedD; rw [h3]
  obtain ⟨r1, hr1⟩ := layout_take R s r
  have hlu := h.u
  have huS : u ≤ S := by rw [hr1, List.length_append] at hlu; omega
  obtain ⟨q1, q2, q3, q4⟩ := wipeK_eff F S (a + u) (List.range (S - u)) d false hup
  obtain ⟨⟨⟨d1, b1⟩, e1⟩, hd1⟩ : ∃ y, y = wipeK F S (a + u) (List.range (S - u)) (d, false) := ⟨_, rfl⟩
  rw [← hd1] at q1 q2 q3 q4
  simp only [] at q1 q2 q3 q4
  have hop : openD d F S a s = if e1 = 0 then (if b1 = true then flushD d1 else (d1, 0)) else (d1, e1) := by
    unfold openD wipeD
    rw [← hu, ← hd1]
  have hpo : ∀ i, F + (a + u + i) % S = posn F S a (u + i) := fun i => by unfold posn; rw [Nat.add_assoc]
  have hsame : ∀ j, j < u → d1.cur (posn F S a j) = d.cur (posn F S a j) := fun j hj => by
    rcases q3 (posn F S a j) with h5 | ⟨_, i, hi, hp⟩
    · exact h5
    · exfalso
      have hi := List.mem_range.1 hi
      rw [hpo] at hp
      have := posn_inj (by omega) (by omega) hp
      omega
  have htl : (R.take r).length = r := by rw [List.length_take]; omega
  have hnx := h.nx
  have hs1 := h.s1
  refine ⟨r, h1, h2, h3, ?_, fun he => ?_, fun he c hc => ?_⟩
  · rw [hop]
    split
    · split
      · rw [Tg.flushD_n]; exact q2
      · exact q2
    · exact q2
  · have he1 : e1 = 0 := by
      rw [hop] at he
      by_cases h0 : e1 = 0
      · exact h0
      · rw [if_neg h0] at he
        exact absurd he h0
    obtain ⟨p1, p2, p3⟩ := q4 he1
    have hz : ∀ j, u ≤ j → j < S → d1.cur (posn F S a j) = zsec := fun j hj hjS => by
      have := p2 (j - u) (List.mem_range.2 (by omega))
      rw [hpo, show u + (j - u) = j by omega] at this
      exact this
    have key : ∀ d2 : DS, (∀ p, d2.cur p = d1.cur p) → (∀ p, d2.s p = d1.cur p) → Inv d2 F S a s (R.take r) r := fun d2 g1 g2 => by
      have hA : ∀ (j : Nat) (b : List UInt8), (layout s (R.take r))[j]? = some b → d1.cur (posn F S a j) = b := fun j b hj => by
        have hjl := (List.getElem?_eq_some_iff.1 hj).1
        rw [hsame j (by omega)]
        exact h4 j b hj
      have hB : ∀ j, (layout s (R.take r)).length ≤ j → j < S → Old s (d1.cur (posn F S a j)) := fun j hj hjS => by
        rw [hz j (by omega) hjS]
        exact old_zero hs1
      refine ⟨fun x hx => h.ok x (List.mem_of_mem_take hx), by omega, by omega, hs1, by omega, fun j b hj => by rw [g1]; exact hA j b hj, fun j hj hjS => by rw [g1]; exact hB j hj hjS, fun j b hj => ?_, fun j hj hjS => ?_⟩
      · rw [List.take_take, Nat.min_self] at hj
        rw [g2]; exact hA j b hj
      · rw [List.take_take, Nat.min_self] at hj
        rw [g2]; exact hB j hj hjS
    rw [hop, if_pos he1]
    cases b1 with
    | true =>
      rw [if_pos rfl, show flushD d1 = (d1.flushed, 0) from if_neg p1]
      exact ⟨key _ (fun p => cur_flushed d1 p) (fun p => rfl), rfl, p1⟩
    | false =>
      rw [if_neg (by decide)]
      obtain ⟨g1, _⟩ := p3 rfl
      refine ⟨key d1 (fun p => rfl) (fun p => ?_), by rw [g1]; exact hL, p1⟩
      rw [g1]
      exact (cur_none hL p).symm
  · have he1 : e1 ≠ 0 := by
      intro h0
      obtain ⟨p1, _, _⟩ := q4 h0
      rw [hop, if_pos h0] at he
      split at he
      · rw [show flushD d1 = (d1.flushed, 0) from if_neg p1] at he
        exact he rfl
      · exact he rfl
    rw [hop, if_neg he1] at hc
    simp only [] at hc
    have hcc : ∀ p, c p = d.cur p ∨ (c p = zsec ∧ ∃ i, i < S - u ∧ p = posn F S a (u + i)) := fun p => by
      rcases hc p with h5 | h5
      · rcases q3 p with h6 | ⟨h6, i, hi, hp⟩
        · exact .inl (h5.trans h6)
        · exact .inr ⟨h5.trans h6, i, List.mem_range.1 hi, by rw [hp, hpo]⟩
      · exact .inl (by rw [h5, q1]; exact (cur_none hL p).symm)
    have hkr : (layout s (R.take k)).length ≤ u := by
      obtain ⟨r2, hr2⟩ := layout_take (R.take r) s k
      rw [List.take_take, Nat.min_eq_left h1] at hr2
      rw [← hul, hr2, List.length_append]
      omega
    refine ⟨h.ok, h.u, h.nx, h.s1, h.kl, fun j b hj => ?_, fun j hj hjS => ?_⟩
    · have hjl := (List.getElem?_eq_some_iff.1 hj).1
      rcases hcc (posn F S a j) with h5 | ⟨h5, i, hi, hp⟩
      · rcases h.here j b hj with h6 | ⟨h6, h7⟩
        · exact .inl (h5.trans h6)
        · exact .inr ⟨h6, by rw [h5]; exact h7⟩
      · have := posn_inj (show j < S by omega) (by omega) hp
        exact .inr ⟨by omega, by rw [h5]; exact old_zero hs1⟩
    · rcases hcc (posn F S a j) with h5 | ⟨h5, _⟩
      · rw [h5]; exact h.old j hj hjS
      · rw [h5]; exact old_zero hs1
end Go.Proofs.YthbcgimmbcdnmaaDoor.Lo

/-
  log: the first ones of a row of numbers taken away (slices.Delete); Trim.
-/
namespace Go.Proofs.YthbcgimmbcdnmaaDoor.Lo
open Go.RowKit
open Pk (Slc Owns errV errV_pos errV_zero)
open Tg (writeD flushD down DOk)
set_option maxRecDepth 100000
set_option linter.unusedVariables false

theorem zero_int (w : World) : (zeroValue 3).run Tryd.prog w = .ok (.int .i64 0) w := by kernel_rfl
theorem zeroCells_int (k : Nat) : (Builtin.zeroCells (Value.int .i64 0).cells k).toList = List.replicate k (.int .i64 0) := by
  have h : Builtin.zeroCells (Value.int .i64 0).cells k = madeCells (Value.int .i64 0).cells (k * (Value.int .i64 0).cells.size) := rfl
  rw [h, show (Value.int .i64 0).cells.size = 1 from rfl, Nat.mul_one]
  apply List.ext_getElem
  · simp [madeCells]
  · intro i h1 h2
    simp [madeCells, Nat.mod_one, Value.cells]
theorem run_clear_any {P : Program} (w w' : World) (t ty e : TypeId) (g off k cap : Nat) (z : Value) (ht : P.underlying t = some (.slice e)) (hz : (zeroValue e).run P w = .ok z w)
    (hst : (storeCells ⟨g, off, none⟩ (Builtin.zeroCells z.cells (k + 1)).toList).run P w = .ok () w') : (Builtin.clear_ #[t] ty #[.slice (some ⟨g, off, none⟩) (k + 1) cap]).run P w = .ok (.tuple #[]) w' := by
  simp [Builtin.clear_, run_underlying ht, hz, hst, Result.andThen]
theorem wpList_clear_co {ops : Array Oper} {rest : List Oper} {o : Oper} {a : Act} {w : World} {Q : Exit → Act → World → Prop} (hgd : o.guard = none) (m : Operand) (t : TypeId) (ho : o.op = Op.call { callee := Callee.builtin Builtin.clear, args := #[m], argTypes := #[t] }) (ht : Tryd.prog.underlying t = some (.slice 3))
    (g n c k cap : Nat) (vs : List Value) (hm : a.eval m = .slice (some ⟨g, n, none⟩) (k + 1) cap) (h : CO 0 3 w (.slice (some ⟨g, 0, none⟩) n c) vs) (hn : n = vs.length) (hc : n + k + 1 ≤ c)
    (hK : ∀ w', CO 0 3 w' (.slice (some ⟨g, 0, none⟩) n c) vs → Stay (· = g) w w' → wpList Tryd.prog ops Q rest (a.put o.dst (.tuple #[])) w') : wpList Tryd.prog ops Q (o :: rest) a w := by
  subst hn
  rcases h.2 with ⟨e, _⟩ | ⟨g', cap', cur, e, h4, hg, h5, h6, h7, h8⟩
  · cases e
  · cases e
    have hst := run_storeCells_at Tryd.prog g vs.length 3 (List.replicate (k + 1) (.int .i64 0)) 0 cur w hg (by rw [List.length_replicate]; simp at h7; omega) (fun u hu => by rw [(List.mem_replicate.1 hu).2]; rfl)
    simp only [Nat.add_zero] at hst
    rw [← zeroCells_int (k + 1)] at hst
    have hrun := run_clear_any w _ t o.type _ g vs.length k cap (.int .i64 0) ht (zero_int w) hst
    rw [zeroCells_int] at hrun
    refine wpList_plain hgd fun K' hK' => ?_
    unfold Oper.wp
    simp [execOp, ho, resolve, invoke, builtin, hm, hrun, Result.andThen]
    refine hK' _ _ (hK _ ?_ (Stay.setRow w g _ rfl))
    refine ⟨h.1, .inr ⟨g, c, _, rfl, h4, setRow_heap w g cur _ _ _ hg, h5, h6, ?_, ?_⟩⟩
    · have hal := Array.length_toList (xs := cur)
      simp only [List.size_toArray, List.length_append, List.length_take, List.length_drop, Array.length_toList, List.length_replicate]
      omega
    · have hv : List.take vs.length cur.toList = vs := by simpa using h8
      simp only [Nat.mul_one]
      rw [hv, List.take_left' rfl]
theorem step_append_fits {ops : Array Oper} {o : Oper} {a : Act} {w : World} {K : Act → World → Prop} {Q : Exit → Act → World → Prop} {E : Prop} (hgd : o.guard = none) (s y : Operand) (t : TypeId)
    (ho : o.op = .call { callee := .builtin .append, args := #[s, y], argTypes := #[t, t] }) (ht : Tryd.prog.underlying t = some (.slice 3)) (g c : Nat) (ad : Addr) (m c2 : Nat) (news : List Value) (hs : a.eval s = .slice (some ⟨g, 0, none⟩) 0 c) (hy : a.eval y = .slice (some ad) m c2)
    (h : CO 0 3 w (.slice (some ⟨g, 0, none⟩) 0 c) []) (hl : news.length = m) (hnews : ∀ j u, news[j]? = some u → w.cell? (ad.add j) = some u) (h1 : ∀ u ∈ news, u.oneCell' = true) (hroom : m ≤ c)
    (hK : ∀ w', CO 0 3 w' (.slice (some ⟨g, 0, none⟩) m c) news → Stay (· = g) w w' → K (a.put o.dst (.slice (some ⟨g, 0, none⟩) m c)) w') :
    if Region.wanted o (yielded ops a.tmps) = true then Oper.wp Tryd.prog o a w K Q else E := by
  have hw : Region.wanted o (yielded ops a.tmps) = true := by simp [Region.wanted, hgd]
  rw [if_pos hw]
  obtain ⟨i0, hi, hz, hsize, hby⟩ := info_parts info_int
  obtain ⟨w', hrun, h2, h3⟩ := run_append_fits (P := Tryd.prog) w 0 t o.type _ i0 1 ht hi hsize g 0 c [] h ad m c2 news (by rw [hl, Nat.mul_one]) hnews h1 (by omega)
  rw [Nat.zero_add] at hrun h2
  unfold Oper.wp execOp
  simp only [ho, resolve, invoke, builtin, Sem.run_bind, Sem.run_pure, Result.andThen_ok, List.map_toArray, List.map_cons, List.map_nil, hs, hy, hrun]
  refine hK w' ?_ (Stay.grown h3 (fun k hk => (Option.some.inj hk).symm))
  subst hl
  exact h2

set_option maxHeartbeats 2000000 in
theorem delete_any (w : World) (nv : Value) (ns : List Nat) (t : Nat) (h : CO 0 3 w nv (ints ns)) (ht : t ≤ ns.length) (hl : ns.length ≤ 100000) :
    Calls Tryd.prog 31 #[nv, .int .i64 0, .int .i64 (t : Int)] w fun e w' => ∃ nv', e = .returned nv' ∧ CO 0 3 w' nv' (ints (ns.drop t)) ∧ nv'.ownBlock = nv.ownBlock ∧ Stay (fun k => nv.ownBlock = some k) w w' := by
  have HR := Lib.hid h
  have hli := len_ints ns
  by_cases h0 : t = 0
  · subst h0
    obtain ⟨va, vc, rfl⟩ := h.form
    rw [hli]
    rw [hli] at HR
    have hcs := h.cs
    obtain ⟨a1, c1, e1, hc1, hc2, _⟩ := hcs
    cases e1
    rw [hli] at hc1
    have HE := Lib.hid (show ints (ns.drop 0) = ints ns by rw [List.drop_zero])
    clear h hli
    go_enter Tryd.func31, Tryd.ntmps31
    go_wp2
    go_ret
    exact ⟨_, rfl, by rw [HE.out]; exact HR.out, rfl, Stay.refl _ _⟩
  · obtain ⟨g, c, rfl, hc1, hc2, _, hgl⟩ := h.at (by rw [hli]; omega)
    rw [hli] at hc1 ⊢
    rw [hli] at HR
    obtain ⟨n, hn⟩ : ∃ n, n = ns.length := ⟨_, rfl⟩
    rw [← hn] at hc1 ht hl HR ⊢
    have HN := Lib.hid hn
    have hld : (ints (ns.drop t)).length = n - t := by rw [len_ints, List.length_drop, hn]
    have HLD := Lib.hid hld
    have HAT := Lib.hid (show ∀ j u, (ints (ns.drop t))[j]? = some u → w.cell? ⟨g, t + j, none⟩ = some u from fun j u hu => HR.out.cell (by rw [← hu]; unfold ints; rw [List.map_drop, List.getElem?_drop]))
    have HTK := Lib.hid (show CO 0 3 w (.slice (some ⟨g, 0, none⟩) 0 c) [] from by
      have := HR.out.take (k := 0) (Nat.zero_le _)
      rw [List.take_zero] at this
      exact this)
    obtain ⟨vs, hvs⟩ : ∃ vs, vs = ints (ns.drop t) := ⟨_, rfl⟩
    have HONE := Lib.hid (show ∀ u ∈ vs, u.oneCell' = true by rw [hvs]; exact one_ints _)
    rw [← hvs] at HLD HAT ⊢
    obtain ⟨m, hm⟩ : ∃ m, m = n - t := ⟨_, rfl⟩
    rw [← hm] at HLD
    have hmt : n = m + t := by omega
    obtain ⟨t1, ht1⟩ : ∃ t1, t = t1 + 1 := ⟨t - 1, by omega⟩
    have hcm : ¬ c = m := by omega
    have ht0 : ¬ (0 : Int) = (t : Int) := by omega
    have hti : (0 : Int) ≤ (t : Int) := by omega
    have htn : (t : Int) ≤ (n : Int) := by omega
    clear h hli hn hld hvs h0
    by_cases hct : c = t
    · subst hct
      have hm0 : m = 0 := by omega
      subst hm0
      have hv0 : vs = [] := List.eq_nil_of_length_eq_zero HLD.out
      subst hv0
      have hnc : n = c := by omega
      subst hnc
      clear hm hmt
      have HN1 := Lib.hid (show n = t1 + 1 from ht1)
      have hn0 : 1 ≤ n := by omega
      clear ht1
      go_enter Tryd.func31, Tryd.ntmps31
      go_wp2
      go_region_law (refine step_append_fits rfl (.tmp 22) (.tmp 25) 59 rfl Tryd.underlying59 g n ⟨g, 0, none⟩ 0 0 [] (by simp [Act.eval, Act.put]) (by simp [Act.eval, Act.put]) (HTK.out.stay0 Stay.drew) rfl (fun j u hu => by simp at hu) (fun u hu => by simp at hu) (Nat.zero_le _) ?_; intro w1 hc1' hs1; have HC1 := Lib.hid hc1'; have HS1 := Lib.hid (Stay.drew.trans hs1); clear hc1' hs1)
      go_frame
      go_wp2_with (refine wpList_clear_co rfl (.tmp 31) 59 rfl Tryd.underlying59 g 0 n t1 n [] (by rw [← HN1.out]; rfl) HC1.out rfl (by rw [HN1.out]; omega) ?_; intro w2 hP2 hs2; have HP2 := Lib.hid hP2; have HS2 := Lib.hid (HS1.out.trans hs2); clear hP2 hs2)
      go_ret
      exact ⟨_, rfl, HP2.out, rfl, HS2.out.mono (fun k hk => by rw [hk]; rfl)⟩
    · have hnt : n - t = m := by omega
      have hnm : n - m = t1 + 1 := by omega
      clear hm hmt ht1
      go_enter Tryd.func31, Tryd.ntmps31
      go_wp2
      go_region_law (refine step_append_fits rfl (.tmp 22) (.tmp 25) 59 rfl Tryd.underlying59 g c ⟨g, t, none⟩ m (c - t) vs (by simp [Act.eval, Act.put]) (by simp [Act.eval, Act.put]) (HTK.out.stay0 Stay.drew) HLD.out (fun j u hu => by rw [add_at]; exact HAT.out j u hu) HONE.out (by omega) ?_; intro w1 hc1' hs1; have HC1 := Lib.hid hc1'; have HS1 := Lib.hid (Stay.drew.trans hs1); clear hc1' hs1)
      go_frame
      obtain ⟨c3, hc3⟩ : ∃ c3, c3 = c - m := ⟨_, rfl⟩
      have HC3 := Lib.hid hc3
      have HNM := Lib.hid hnm
      go_wp2_with (refine wpList_clear_co rfl (.tmp 31) 59 rfl Tryd.underlying59 g m c t1 (c - m) vs (by rw [← HNM.out]; rfl) HC1.out HLD.out.symm (by omega) ?_; intro w2 hP2 hs2; have HP2 := Lib.hid hP2; have HS2 := Lib.hid (HS1.out.trans hs2); clear hP2 hs2)
      go_ret
      exact ⟨_, rfl, HP2.out, rfl, HS2.out.mono (fun k hk => by rw [hk]; rfl)⟩
end Go.Proofs.YthbcgimmbcdnmaaDoor.Lo

/-
  log: Trim.
-/
namespace Go.Proofs.YthbcgimmbcdnmaaDoor.Lo
open Go.RowKit
open Pk (Slc Owns errV errV_pos errV_zero)
open Tg (writeD flushD down DOk)
set_option maxRecDepth 100000
set_option linter.unusedVariables false

/-- Trim, as a function: the log, the error's number. -/
def trimL (L : Lg) (z : Nat) : Lg × Nat :=
  if L.dead ≠ 0 then (L, L.dead) else if z < L.s ∨ L.nx < z then (L, 4) else
  ({ L with a := (L.a + (L.ns.take (z - L.s)).sum) % L.S, s := z, ns := L.ns.drop (z - L.s) }, 0)
theorem take_sum_le : ∀ (ns : List Nat) (j : Nat), (ns.take j).sum ≤ ns.sum
  | [], j => by simp
  | n :: ns, 0 => by simp
  | n :: ns, j + 1 => by
    have := take_sum_le ns j
    simp
    exact this
theorem take_sum_succ {ns : List Nat} {j n : Nat} (h : ns[j]? = some n) : (ns.take (j + 1)).sum = (ns.take j).sum + n := by
  rw [List.take_add_one, h]
  simp
theorem drop_sum (ns : List Nat) (t : Nat) : (ns.drop t).sum = ns.sum - (ns.take t).sum := by
  have : ns.sum = (ns.take t).sum + (ns.drop t).sum := by rw [← List.sum_append, List.take_append_drop]
  omega

set_option maxHeartbeats 4000000 in
theorem trim_any (w : World) (q pd n : Nat) (nv : Value) (L : Lg) (z : Nat) (hq : LgAt w q pd nv L) (hL : L.Ok n) (hz : z ≤ 2000000000000) :
    Calls Tryd.prog 12 #[.pointer (some ⟨q, 0, none⟩), .int .i64 (z : Int)] w fun e w' => ∃ nv', e = .returned (errV (trimL L z).2) ∧ LgAt w' q pd nv' (trimL L z).1 ∧ nv'.ownBlock = nv.ownBlock ∧ Stay (lown q nv) w w' := by
  obtain ⟨r, hr⟩ : ∃ r, r = trimL L z := ⟨_, rfl⟩
  rw [← hr]
  have HR := Lib.hid hr
  have HQ := Lib.hid hq
  obtain ⟨s2, fs, nn, al, ul, s1, nx, ln⟩ := hL
  have HSTP := Lib.hid (stopped_any hq)
  have HNXT := Lib.hid (fun W (hW : Stay (fun _ => False) w W) => next_any (hq.stay0 hW) (by omega))
  obtain ⟨m, hm⟩ : ∃ m, m = L.nx := ⟨_, rfl⟩
  obtain ⟨dd, hdd⟩ : ∃ dd, dd = L.dead := ⟨_, rfl⟩
  obtain ⟨s, hs⟩ : ∃ s, s = L.s := ⟨_, rfl⟩
  have HM := Lib.hid hm
  have HDD := Lib.hid hdd
  have HS := Lib.hid hs
  have hms : m = s + L.ns.length := by rw [hm, hs]; rfl
  have c4 : w.cell? ⟨q, 4, none⟩ = some (.int .i64 (s : Int)) := by rw [hs]; exact hq.c4
  rw [← hm] at HNXT nx
  rw [← hdd] at HSTP
  have hql := hq.lt
  clear hr hq hm hdd hs
  by_cases hdead : dd = 0
  · have hst := HSTP.out
    rw [hdead, errV_zero] at hst
    have HST := Lib.hid hst
    have HNR := Lib.hid (show trimL L z = if z < s ∨ m < z then (L, 4) else ({ L with a := (L.a + (L.ns.take (z - s)).sum) % L.S, s := z, ns := L.ns.drop (z - s) }, 0) by
      unfold trimL
      rw [if_neg (by rw [← HDD.out, hdead]; exact fun h => h rfl), HS.out, HM.out])
    clear hst
    by_cases h1 : z < s
    · have HRR := Lib.hid (show r = (L, 4) by rw [HR.out, HNR.out, if_pos (.inl h1)])
      have h1' : (z : Int) < (s : Int) := by omega
      go_enter Tryd.func12, Tryd.ntmps12
      go_wp2_with fail
      refine HST.out.mono ?_
      rintro e w' ⟨rfl, hw'⟩
      subst w'
      go_wp2
      go_ret
      exact ⟨nv, by rw [HRR.out]; rfl, by rw [HRR.out]; exact HQ.out, rfl, Stay.refl _ _⟩
    have h1' : ¬ (z : Int) < (s : Int) := by omega
    by_cases h2 : m < z
    · have HRR := Lib.hid (show r = (L, 4) by rw [HR.out, HNR.out, if_pos (.inr h2)])
      have h2' : (m : Int) < (z : Int) := by omega
      go_enter Tryd.func12, Tryd.ntmps12
      go_wp2_with fail
      refine HST.out.mono ?_
      rintro e w' ⟨rfl, hw'⟩
      subst w'
      go_wp2_with fail
      refine (HNXT.out _ (Stay.refl _ _)).mono ?_
      rintro e w1 ⟨rfl, hs1⟩
      have HS1 := Lib.hid hs1
      clear hs1
      go_wp2
      go_ret
      exact ⟨nv, by rw [HRR.out]; rfl, by rw [HRR.out]; exact HQ.out.stay0 HS1.out, rfl, HS1.out.mono (fun _ x => x.elim)⟩
    have h2' : ¬ (m : Int) < (z : Int) := by omega
    obtain ⟨t, ht⟩ : ∃ t, t = z - s := ⟨_, rfl⟩
    have htl : t ≤ L.ns.length := by omega
    have HRR := Lib.hid (show r = ({ L with a := (L.a + (L.ns.take t).sum) % L.S, s := z, ns := L.ns.drop t }, 0) by rw [HR.out, HNR.out, if_neg (by omega), ht])
    have hzt : (z : Int) - (s : Int) = (t : Int) := by omega
    obtain ⟨va, vc, rfl⟩ := HQ.out.form
    have hcs := HQ.out.row.cs
    obtain ⟨a1, c1, e1, hc1, hc2, hcn, hcg⟩ := hcs
    rw [len_ints] at e1 hc1
    cases e1
    have hti : (t : Int) ≤ (vc : Int) := by omega
    have hS0 : ¬ (L.S : Int) = 0 := by omega
    have hul := ul
    obtain ⟨nl, hnl⟩ : ∃ nl, nl = L.ns.length := ⟨_, rfl⟩
    have HNL := Lib.hid hnl
    rw [← hnl] at htl hc1
    have hnl2 : nl ≤ 16384 := by omega
    clear ht hcn hcg hms hnl
    go_enter Tryd.func12, Tryd.ntmps12
    go_wp2_with fail
    refine HST.out.mono ?_
    rintro e w' ⟨rfl, hw'⟩
    subst w'
    go_wp2_with fail
    refine (HNXT.out _ (Stay.refl _ _)).mono ?_
    rintro e w1 ⟨rfl, hs1⟩
    have HS1 := Lib.hid hs1
    have HQ1 := Lib.hid (HQ.out.stay0 hs1)
    have d4 : w1.cell? ⟨q, 4, none⟩ = some (.int .i64 (s : Int)) := hs1.cell c4 (fun x => x)
    have d5 := HQ1.out.c5
    rw [← HNL.out] at d5
    clear hs1 c4
    obtain ⟨F, hF⟩ : ∃ F, F = L.F := ⟨_, rfl⟩
    obtain ⟨S, hS⟩ : ∃ S, S = L.S := ⟨_, rfl⟩
    obtain ⟨a, ha⟩ : ∃ a, a = L.a := ⟨_, rfl⟩
    obtain ⟨u, hu⟩ : ∃ u, u = L.u := ⟨_, rfl⟩
    obtain ⟨ns, hns⟩ : ∃ ns, ns = L.ns := ⟨_, rfl⟩
    have HHD0 := Lib.hid (show w1.heap[q]? = some (.cells (lgC pd F S a s (.slice va nl vc) u L.dead) 61 (0, 0)) by rw [hF, hS, ha, hu, HS.out, HNL.out]; exact HQ1.out.hd)
    have HROW := Lib.hid (show CO 0 3 w1 (.slice va nl vc) (ints ns) by rw [hns, HNL.out]; exact HQ1.out.row)
    have HNV := Lib.hid (show ∀ k, (Value.slice va nl vc).ownBlock = some k → k ≠ q by rw [HNL.out]; exact HQ1.out.nq)
    have HUS := Lib.hid (show u = ns.sum by rw [hu, hns]; rfl)
    have hSp : ¬ (S : Int) = 0 := by rw [hS]; exact hS0
    have hS2 : 1 ≤ S := by omega
    have hS3 : S ≤ 16384 := by omega
    have hul3 : u ≤ 16384 := by omega
    have hal : a < S := by omega
    have HLL := Lib.hid (show ns.length = nl by rw [hns, HNL.out])
    have HRF := Lib.hid hF
    have HRS := Lib.hid hS
    have HRA := Lib.hid ha
    have HRN := Lib.hid hns
    have hzq : w1.heap.size = w1.heap.size := rfl
    have hq1 : q < w1.heap.size := HQ1.out.lt
    clear hF hS ha hu hns hS0 hul
    go_wp2
    clear d4 d5
    go_loopw [40] (fun i wr => ∃ j : Nat, j ≤ t ∧ i = .int .i64 (j : Int) ∧ Hid (wr.heap[q]? = some (.cells (lgC pd F S ((a + (ns.take j).sum) % S) s (.slice va nl vc) (u - (ns.take j).sum) L.dead) 61 (0, 0))) ∧ Hid (Stay (fun k => k = q) w1 wr)) (fun i _ => t - valI i)
    case atStart => exact ⟨0, Nat.zero_le _, rfl, Lib.hid (by rw [HHD0.out]; simp [Nat.mod_eq_of_lt hal]), Lib.hid (Stay.refl _ _)⟩
    case round =>
      obtain ⟨j, hj, rfl, HHD, HST⟩ := hrel
      obtain ⟨aj, haj⟩ : ∃ aj, aj = (a + (ns.take j).sum) % S := ⟨_, rfl⟩
      obtain ⟨sj, hsj⟩ : ∃ sj, sj = (ns.take j).sum := ⟨_, rfl⟩
      rw [← haj, ← hsj] at HHD
      have HAJ := Lib.hid haj
      have HSJ := Lib.hid hsj
      have hajS : aj < S := by rw [haj]; exact Nat.mod_lt _ (by omega)
      have hsju : sj ≤ u := by rw [hsj, HUS.out]; exact take_sum_le _ _
      clear haj hsj
      by_cases hlt : j < t
      · obtain ⟨nj, hnj⟩ : ∃ nj, ns[j]? = some nj := ⟨_, List.getElem?_eq_getElem (by rw [HLL.out]; omega)⟩
        obtain ⟨g, c, ev, hcc1, _, _, hgl⟩ := HROW.out.at (by rw [len_ints, HLL.out]; omega)
        have hva : va = some ⟨g, 0, none⟩ := by cases ev; rfl
        subst hva
        have d8 : wr.cell? ⟨g, j, none⟩ = some (.int .i64 (nj : Int)) := HST.out.cell (HROW.out.cell (by unfold ints; rw [List.getElem?_map, hnj]; rfl)) (fun h => HNV.out g rfl h)
        have c3 : wr.cell? ⟨q, 3, none⟩ = some (.int .i64 (aj : Int)) := cell_of_row _ _ _ _ _ _ HHD.out
        have c2 : wr.cell? ⟨q, 2, none⟩ = some (.int .i64 (S : Int)) := cell_of_row _ _ _ _ _ _ HHD.out
        have c6 : wr.cell? ⟨q, 6, none⟩ = some (.int .i64 ((u - sj : Nat) : Int)) := cell_of_row _ _ _ _ _ _ HHD.out
        have f3 : wr.frozen? ⟨q, 3, none⟩ = false := frozen_of_row _ _ _ _ _ HHD.out
        have f6 : wr.frozen? ⟨q, 6, none⟩ = false := frozen_of_row _ _ _ _ _ HHD.out
        have hts := take_sum_succ hnj
        have HTS := Lib.hid hts
        have hnu : nj ≤ u - sj := by
          have h3 := take_sum_le ns (j + 1)
          rw [hts, ← HSJ.out, ← HUS.out] at h3
          omega
        have hb1 : (j : Int) < (t : Int) := by omega
        clear hnj ev hcc1 hgl hts
        go_wp2
        go_region
        go_wp2
        have hh1 := heap_setCell_same wr q 3 _ _ (.int .i64 (((aj : Int) + (nj : Int)) % (S : Int))) HHD.out
        have hh2 := heap_setCell_same _ q 6 _ _ (.int .i64 (((u - sj : Nat) : Int) - (nj : Int))) hh1
        have e1 : ((aj : Int) + (nj : Int)) % (S : Int) = (((a + (ns.take (j + 1)).sum) % S : Nat) : Int) := by
          rw [HTS.out, ← HSJ.out, ← Int.natCast_add, ← Int.natCast_emod, HAJ.out, ← HSJ.out, Nat.mod_add_mod, Nat.add_assoc]
        have e2 : ((u - sj : Nat) : Int) - (nj : Int) = ((u - (ns.take (j + 1)).sum : Nat) : Int) := by
          rw [HTS.out, ← HSJ.out]
          omega
        refine ⟨⟨j + 1, by omega, by go_num, Lib.hid ?_, Lib.hid (HST.out.trans (((Stay.setCell (X := fun k => k = q) _ _ _ rfl).trans (Stay.setCell (X := fun k => k = q) _ _ _ rfl)).trans Stay.drew))⟩, by simp [valI]; omega⟩
        show ((wr.setCell ⟨q, 3, none⟩ _).setCell ⟨q, 6, none⟩ _).heap[q]? = _
        rw [hh2]
        unfold lgC
        rw [← e1, ← e2]
        rfl
      · obtain rfl : j = t := by omega
        have c5 : wr.cell? ⟨q, 5, none⟩ = some (.slice va nl vc) := cell_of_row _ _ _ _ _ _ HHD.out
        have HDEL := Lib.hid (delete_any wr (.slice va nl vc) ns j (HROW.out.stay HST.out (fun k hk => HNV.out k hk)) (by rw [HLL.out]; exact htl) (by rw [HLL.out]; omega))
        go_wp2_with fail
        refine HDEL.out.mono ?_
        rintro e w2 ⟨nv', rfl, hrow', hown', hs2⟩
        obtain ⟨a4, n4, c4, rfl⟩ : ∃ a n c, nv' = .slice a n c := (by obtain ⟨p, r, e⟩ := hrow'.form; exact ⟨p, _, r, e⟩)
        have HR2 := Lib.hid hrow'
        have HO2 := Lib.hid hown'
        have HHD2 := Lib.hid ((hs2.block q (Array.getElem?_eq_some_iff.1 HHD.out).1 (fun hk => HNV.out q hk rfl)).trans HHD.out)
        have HS2 := Lib.hid hs2
        have g5 : w2.cell? ⟨q, 5, none⟩ = some (.slice va nl vc) := cell_of_row _ _ _ _ _ _ HHD2.out
        have k5 : w2.frozen? ⟨q, 5, none⟩ = false := frozen_of_row _ _ _ _ _ HHD2.out
        have g4 : w2.cell? ⟨q, 4, none⟩ = some (.int .i64 (s : Int)) := cell_of_row _ _ _ _ _ _ HHD2.out
        have k4 : w2.frozen? ⟨q, 4, none⟩ = false := frozen_of_row _ _ _ _ _ HHD2.out
        clear hrow' hown' hs2 c5
        go_wp2
        go_ret
        have hh1 := heap_setCell_same w2 q 5 _ _ (.slice a4 n4 c4) HHD2.out
        have hh2 := heap_setCell_same _ q 4 _ _ (.int .i64 (z : Int)) hh1
        have hs5 : Stay (fun k => k = q) w2 ((w2.setCell ⟨q, 5, none⟩ (.slice a4 n4 c4)).setCell ⟨q, 4, none⟩ (.int .i64 (z : Int))) := (Stay.setCell (X := fun k => k = q) _ _ _ rfl).trans (Stay.setCell (X := fun k => k = q) _ _ _ rfl)
        have hsl : (Value.slice va nl vc).ownBlock = (Value.slice va L.ns.length vc).ownBlock := by rw [HNL.out]
        refine ⟨.slice a4 n4 c4, by rw [HRR.out]; rfl, ?_, HO2.out.trans hsl, ?_⟩
        · rw [HRR.out]
          refine ⟨?_, ?_⟩
          · rw [hh2]
            show some (Obj.cells #[_, _, _, _, _, _, _, _] _ _) = some (Obj.cells #[_, _, _, _, _, _, _, _] _ _)
            have hu9 : ({ L with a := (L.a + (L.ns.take j).sum) % L.S, s := z, ns := L.ns.drop j } : Lg).u = u - (ns.take j).sum := by
              show (L.ns.drop j).sum = _
              rw [drop_sum, ← HRN.out, ← HUS.out]
            rw [hu9, HSJ.out, HAJ.out, HRF.out, HRS.out, HRA.out, HRN.out]
          · show CO 0 3 _ (.slice a4 n4 c4) (ints (L.ns.drop j))
            rw [← HRN.out]
            exact HR2.out.stay hs5 (fun k hk h => HNV.out k (HO2.out ▸ hk) h)
        · refine ((HS1.out.mono (fun _ x => x.elim)).trans (HST.out.mono (fun k hk => .inl hk))).trans ((HS2.out.mono (fun k hk => .inr (hsl ▸ hk))).trans (hs5.mono (fun k hk => .inl hk)))
  · have HRR := Lib.hid (show r = (L, dd) by
      rw [HR.out]
      unfold trimL
      rw [if_pos (by rw [← HDD.out]; exact hdead), ← HDD.out])
    have hst := HSTP.out
    rw [errV_pos hdead] at hst
    have HST := Lib.hid hst
    have HDE := Lib.hid hdead
    clear hst hdead
    unfold Pk.errI at HST
    go_enter Tryd.func12, Tryd.ntmps12
    go_wp2_with fail
    refine HST.out.mono ?_
    rintro e w' ⟨rfl, hw'⟩
    subst w'
    go_wp2
    go_ret
    refine ⟨nv, ?_, ?_, rfl, Stay.refl _ _⟩
    · rw [HRR.out]
      simp only []
      rw [errV_pos HDE.out]
      rfl
    · rw [HRR.out]; exact HQ.out
end Go.Proofs.YthbcgimmbcdnmaaDoor.Lo

/-
  How a law's row is closed: 'true', and below the old heap's end nothing has turned.
-/
namespace Go.Proofs.YthbcgimmbcdnmaaDoor
open Go.ChangeShapes Go.WideShapes Go.ChangeAt Go.RowKit

theorem Tryd.own : ownKnob Tryd.prog.godebug = none := by kernel_rfl
theorem Tryd.laidOut : laidOutB Tryd.prog = true := by kernel_rfl

section
variable {H : Type} {enc : TypeId × Value → H} {P : Program}

/-- Arguments of whatever types read behind the call as they did. -/
theorem args_stay (hl : laidOutB P = true) {W W' : World} (hb : Below W.heap.size W W') : ∀ (ts : List TypeId) (vs : List Value) (ds : List (DataW H)) (ps : List MemPlace),
    (∀ t ∈ ts, P.readableRec t = true ∧ t < P.types.size) → DataW.TrodAll enc P W 0 (fun _ => true) true ts vs ds ps → (∀ x ∈ ps, x.block < W.heap.size) →
    DataW.TrodAll enc P W' 0 (fun b => decide (b < W.heap.size)) true ts vs ds ps
  | [], vs, ds, ps, _, h, _ => by
    obtain ⟨rfl, rfl, rfl⟩ := trodAll_nil h
    exact trodAll_mk0
  | t :: ts, vs, ds, ps, ht, h, hlt => by
    obtain ⟨v, vs', d, ds', p, q, rfl, rfl, rfl, hd, hr⟩ := trodAll_cons h
    have h1 := Below.trod hl (ht t (by simp)).1 (ht t (by simp)).2 hd hb (fun x hx => hlt x (by simp [hx]))
    have h2 := args_stay hl hb ts vs' ds' q (fun t' ht' => ht t' (by simp [ht'])) hr (fun x hx => hlt x (by simp [hx]))
    exact ⟨p, q, h1, h2, rfl⟩

/-- What a law's row asks behind the call. -/
theorem law_post (hl : laidOutB P = true) {f : Func} {s : ChangeSpec} {W W' : World} {args : Array Value} {ds : List (DataW H)} {before : List MemPlace} {tb : TypeId}
    (hW : DataW.Whole enc P f.params.toList s.vars false W args.toList ds [] before) (hA : DataW.TrodAll enc P W 0 (fun _ => true) true f.params.toList args.toList ds before)
    (hts : ∀ t ∈ f.params.toList, P.readableRec t = true ∧ t < P.types.size) (hv : s.vars = []) (hr : (s.fn H (ds ++ [])).results = [.lit (.bool true)]) (ha : (s.fn H (ds ++ [])).args = ds) (hvs : (s.fn H (ds ++ [])).vars = [])
    (hres : f.resultTypes = #[tb]) (htb : P.underlying tb = some .bool) (hb : Below W.heap.size W W') : s.post enc P f false true false false W args (.bool true) W' := by
  have hlt : ∀ x ∈ before, x.block < W.heap.size := fun x hx => hW.lt x hx
  refine ⟨ds, [], before, [], before, [], hW, ?_, ?_, ?_, hb.frame _, fun h => by cases h⟩
  · rw [hr, hres]; exact trodAll_mk1 (shut_bool htb true)
  · rw [ha]; exact args_stay hl hb _ _ _ _ hts hA hlt
  · rw [hvs, hv]; rfl
end

end Go.Proofs.YthbcgimmbcdnmaaDoor

/-
  log: a fresh device has no records and nothing to wipe; a device that is calm takes what is put; what must come whatever the input is.
-/
namespace Go.Proofs.YthbcgimmbcdnmaaDoor.Lo
open Go.RowKit
open Pk (Slc Owns errV errV_pos errV_zero info5 spellB)
open Tg (writeD flushD down DOk)
set_option maxRecDepth 100000
set_option linter.unusedVariables false

theorem cur_fresh (n i : Nat) : (fresh n).cur i = zsec := by simp [fresh, DS.cur, none64]
theorem tag_ne_zero {s : Nat} (h1 : 1 ≤ s) (h2 : s ≤ 1099511627777) : zsec.take 8 ≠ tagB s := by
  rw [tag_zero]
  intro h
  have := tagB_inj (by omega) (by omega) h
  omega
theorem recs_none {d : DS} {F S a s : Nat} (hS : 1 ≤ S) (h1 : 1 ≤ s) (h2 : s ≤ 1099511627777) (h : d.cur (F + a % S) = zsec) : recsD d F S a s = [] := by
  refine scan_stop (fun b hb => ?_)
  rw [List.head?_eq_getElem?, blksD_at (by omega), Nat.add_zero, h] at hb
  cases hb
  exact tag_ne_zero h1 h2
theorem wipeK_clean (F S fr : Nat) (d : DS) (b : Bool) : ∀ (ks : List Nat), (∀ i ∈ ks, d.cur (F + (fr + i) % S) = zsec) → wipeK F S fr ks (d, b) = ((d, b), 0)
  | [], _ => rfl
  | k :: ks, h => by
    simp only [wipeK]
    rw [if_pos (h k (List.mem_cons_self ..))]
    exact wipeK_clean F S fr d b ks (fun i hi => h i (List.mem_cons_of_mem _ hi))
theorem wipe_clean {d : DS} {F S fr n : Nat} (h : ∀ i, i < n → d.cur (F + (fr + i) % S) = zsec) : wipeD d F S fr n = (d, 0) := by
  unfold wipeD
  rw [wipeK_clean F S fr d false _ (fun i hi => h i (List.mem_range.1 hi)), if_pos rfl]
  rfl
theorem used_none {d : DS} {F S a s : Nat} (h : recsD d F S a s = []) : usedD d F S a s = 0 := by unfold usedD; rw [h]; rfl
theorem open_fresh (n F S a s : Nat) (hS : 1 ≤ S) (h1 : 1 ≤ s) (h2 : s ≤ 1099511627777) : recsD (fresh n) F S a s = [] ∧ openD (fresh n) F S a s = (fresh n, 0) := by
  have h := recs_none (d := fresh n) (F := F) (a := a) hS h1 h2 (cur_fresh _ _)
  refine ⟨h, ?_⟩
  unfold openD
  exact wipe_clean (fun i _ => cur_fresh _ _)

/-- A device that is up, and not armed. -/
def Calm (d : DS) : Prop := d.cr = false ∧ d.lo = false ∧ d.ar = false
theorem calm_fresh (n : Nat) : Calm (fresh n) := ⟨rfl, rfl, rfl⟩
theorem Calm.up {d : DS} (h : Calm d) : ¬ down d = true := by
  unfold down
  rw [h.1, h.2.1]
  decide
theorem writeD_calm {d : DS} (h : Calm d) {i : Nat} {l : List UInt8} (hi : i < d.n) (hl : l.length ≤ 64) : writeD d (i : Int) l = (d.wrote i l, 0) := by
  unfold writeD
  rw [if_neg h.up, if_neg (by omega), if_neg (by omega), if_neg (by rw [h.2.2]; decide)]
  rfl
theorem wrote_calm {d : DS} (h : Calm d) (i : Nat) (l : List UInt8) : Calm (d.wrote i l) := h
theorem flushD_calm {d : DS} (h : Calm d) : flushD d = (d.flushed, 0) := if_neg h.up
theorem putsD_calm {F S s : Nat} {l : List UInt8} (hS : 1 ≤ S) : ∀ (ks : List Nat) (d : DS) (i : Nat), Calm d → F + S ≤ d.n → (putsD F S s l d i ks).2 = 0 ∧ Calm (putsD F S s l d i ks).1
  | [], d, i, h, _ => ⟨rfl, h⟩
  | k :: ks, d, i, h, hn => by
    have hm := Nat.mod_lt i (show S > 0 by omega)
    simp only [putsD]
    rw [writeD_calm h (by omega) (len_rawB _ _ _), if_pos rfl]
    exact putsD_calm hS ks _ (i + 1) (wrote_calm h _ _) hn
theorem ok_fresh (n : Nat) : DOk (fresh n) 0 := ⟨Int.le_refl _, Int.le_refl _, fun h => by cases h⟩

theorem made_one (z : Value) (hz : z.cells = #[z]) (n : Nat) : madeCells z.cells n = (List.replicate n z).toArray := by
  unfold madeCells
  rw [hz]
  apply Array.ext
  · simp
  · intro i h1 h2
    simp [Nat.mod_one]
theorem run_make_u8 (w : World) (n : Nat) (hn : n ≤ 4294967296) : (Instr.makeSlice 36 (.int .i64 (n : Int)) (.int .i64 (n : Int))).run Tryd.prog w = .ok (.slice (some ⟨w.heap.size, 0, none⟩) n n) (w.alloc (.cells (cellsB (List.replicate n 0)).toArray 5)) := by
  obtain ⟨i0, hi, hz0, hz1, hz2⟩ := info_parts info5
  have hm := run_make (P := Tryd.prog) w 36 5 i0 (.int .u8 0) Tryd.underlying36 hi hz0 .i64 .i64 n n (by omega) (Int.le_refl _) (by rw [hz2]; omega) (by omega)
  rw [hz1, Int.toNat_natCast, Nat.mul_one, made_one _ rfl] at hm
  rw [show cellsB (List.replicate n 0) = List.replicate n (.int .u8 0) by simp [cellsB, byteV]]
  exact hm
theorem slc_made (w : World) (n : Nat) (hn : n ≤ 4294967296) : Slc (w.alloc (.cells (cellsB (List.replicate n 0)).toArray 5)) (.slice (some ⟨w.heap.size, 0, none⟩) n n) (List.replicate n 0) := by
  have h := Pk.slc_of_block (b := List.replicate n 0) (cap := n) (heap_alloc_new w (.cells (cellsB (List.replicate n 0)).toArray 5)) (fun j v hv => by simpa using hv) (by simp) (by omega)
  rw [List.length_replicate] at h
  exact h
theorem make_u8 {ops : Array Oper} {rest : List Oper} {o : Oper} {a : Act} {w : World} {Q : Exit → Act → World → Prop} (hgd : o.guard = none) (x y : Operand) (ho : o.op = .makeSlice 36 x y) (n : Nat) (hx : a.eval x = .int .i64 (n : Int)) (hy : a.eval y = .int .i64 (n : Int)) (hn : n ≤ 4294967296)
    (h : ∀ w1, Slc w1 (.slice (some ⟨w.heap.size, 0, none⟩) n n) (List.replicate n 0) → Stay (fun _ => False) w w1 → w1.heap.size = w.heap.size + 1 → wpList Tryd.prog ops Q rest (a.put o.dst (.slice (some ⟨w.heap.size, 0, none⟩) n n)) w1) : wpList Tryd.prog ops Q (o :: rest) a w :=
  wpList_plain hgd fun _ hK => by
    unfold Oper.wp execOp
    simp only [ho, hx, hy, Sem.run_bind, Sem.run_pure, run_make_u8 w n hn, Result.andThen_ok]
    exact hK _ _ (h _ (slc_made w n hn) (Stay.alloc _ _) (by simp))
theorem need_ten : needL 1 (List.replicate 10 0) = 1 := by decide +kernel

set_option maxHeartbeats 2000000 in
theorem sure_any (w : World) : Calls Tryd.prog 14 #[] w fun e w' => e = .returned (.bool true) ∧ Stay (fun _ => False) w w' := by
  have HRC := Lib.hid (open_fresh 4 0 4 0 1 (by decide) (by decide) (by decide))
  have HAP : Hid (∃ d2, appD (fresh 4) ⟨0, 4, 0, 1, [], 0⟩ (List.replicate 10 0) = (d2, ⟨0, 4, 0, 1, [1], 0⟩, 1, 0)) := Lib.hid (by
    unfold appD
    rw [if_neg (by decide), if_neg (by simp), if_neg, if_pos]
    · refine ⟨(putsD 0 4 1 (recB 1 (List.replicate 10 0)) (fresh 4) (0 + 0) (List.range (needL 1 (List.replicate 10 0)))).1, ?_⟩
      show (_, ({ F := 0, S := 4, a := 0, s := 1, ns := [] ++ [needL 1 (List.replicate 10 0)], dead := 0 } : Lg), 1, 0) = _
      rw [need_ten]
      rfl
    · exact (putsD_calm (by decide) _ _ _ (calm_fresh 4) (by decide)).1
    · show ¬ (1099511627776 < 1 ∨ 4 < needL 1 (List.replicate 10 0) + 0 + 1)
      rw [need_ten]
      decide)
  go_enter Tryd.func14, Tryd.ntmps14
  go_wp2_with fail
  refine (new_at 4 w (by decide) (by decide)).mono ?_
  rintro e w1 ⟨pd, ps, pm, rfl, hd, hfr, hs1⟩
  have HD := Lib.hid hd
  have HF := Lib.hid hfr
  have HS1 := Lib.hid hs1
  clear hd hfr hs1
  go_wp2_with fail
  refine (open_any w1 pd ps pm (fresh 4) 0 0 4 0 1 HD.out (calm_fresh 4).up (ok_fresh 4) (by decide) (by decide) (by decide) (by decide) (by decide) (by decide)).mono ?_
  rintro e w2 ⟨hopen, hd2, hs2, _, _, _⟩
  unfold OpenR at hopen
  rw [HRC.out.2, HRC.out.1] at hopen
  rw [HRC.out.2] at hd2
  rcases hopen with ⟨_, q, v, nv, rfl, hlg, hrc, hqb, hnb⟩ | ⟨h, _⟩
  rotate_left
  · exact absurd rfl h
  obtain ⟨va, vc, rfl⟩ := hrc.form
  have HLG := Lib.hid (show LgAt w2 q pd nv ⟨0, 4, 0, 1, [], 0⟩ from hlg)
  have HD2 := Lib.hid hd2
  have HS2 := Lib.hid (Pk.stay_seal (X := own pd ps pm) ((HS1.out.mono (fun _ x => x.elim)).trans hs2) (fun k hk => by
    obtain ⟨h1, h2, h3⟩ := HF.out
    rcases hk with rfl | rfl | rfl <;> assumption))
  have hb1 := HS1.out.size
  have HQB := Lib.hid (show w.heap.size ≤ q by omega)
  have HNB := Lib.hid (show ∀ k, nv.ownBlock = some k → w.heap.size ≤ k from fun k hk => by have := hnb k hk; omega)
  have HLO := Lib.hid (show ∀ k, lown q nv k → ¬ own pd ps pm k from fun k hk hx => by
    have h1 : k < w1.heap.size := by
      rcases hx with rfl | rfl | rfl
      · exact HD.out.lt1
      · exact HD.out.lt2
      · exact HD.out.lt3
    rcases hk with rfl | hk
    · omega
    · have := hnb k hk; omega)
  clear hlg hd2 hs2 hrc hqb hnb
  go_wp2_with (refine make_u8 rfl (.const (.int .i64 10)) (.const (.int .i64 10)) rfl 10 rfl rfl (by decide) ?_; intro w3 hsl3 hs3 hz3; have HSL := Lib.hid hsl3; have HS3 := Lib.hid hs3; clear hsl3 hs3)
  obtain ⟨d2, hap⟩ := HAP.out
  refine (append_any w3 pd ps pm q nv (fresh 4) ⟨0, 4, 0, 1, [], 0⟩ _ (List.replicate 10 0) (HD2.out.stay HS3.out (fun x => x) (fun x => x) (fun x => x)) ((ok_fresh 4).mono (by decide)) (HLG.out.stay0 HS3.out) ⟨by decide, by decide, by decide, by decide, by decide, by decide, by decide, by decide⟩ HSL.out HLO.out).mono ?_
  rintro e w4 ⟨nv', he, hd4, hlg4, hs4, _⟩
  rw [hap] at he hlg4
  have he' : e = .returned (.tuple #[.int .i64 1, .nilIface]) := he
  subst he'
  have HLG4 := Lib.hid hlg4
  have HS4 := Lib.hid (show Stay (fun _ => False) w w4 from Pk.stay_seal (X := fun k => own pd ps pm k ∨ lown q nv k) (((HS2.out.trans HS3.out).mono (fun _ x => x.elim)).trans hs4) (fun k hk => by
    obtain ⟨h1, h2, h3⟩ := HF.out
    rcases hk with (rfl | rfl | rfl) | (rfl | hk)
    · exact h1
    · exact h2
    · exact h3
    · exact HQB.out
    · exact HNB.out k hk))
  clear hap hd4 hlg4 hs4
  go_wp2_with fail
  refine (free_any HLG4.out (by decide) (by decide)).mono ?_
  rintro e w5 ⟨he5, hs5⟩
  have he5' : e = .returned (.int .i64 3) := he5
  subst he5'
  have HLG5 := Lib.hid (HLG4.out.stay0 hs5)
  have HS5 := Lib.hid (HS4.out.trans hs5)
  clear hs5
  go_wp2_with fail
  refine (next_any HLG5.out (by decide)).mono ?_
  rintro e w6 ⟨he6, hs6⟩
  have he6' : e = .returned (.int .i64 2) := he6
  subst he6'
  have HS6 := Lib.hid (HS5.out.trans hs6)
  clear hs6
  go_wp2
  go_ret
  exact ⟨rfl, HS6.out⟩
end Go.Proofs.YthbcgimmbcdnmaaDoor.Lo

/-
  Bytes that come in as an argument: as a slice that reads as bytes; how long they are at most.
-/
namespace Go.Proofs.YthbcgimmbcdnmaaDoor.Pk
open Go.ChangeShapes Go.WideShapes Go.ChangeAt Go.RowKit Go.Deep
set_option maxRecDepth 100000

theorem cells5 : Tryd.prog.cellsOf 5 = 1 := by kernel_rfl
theorem bytes5 : Tryd.prog.bytesOf 5 = 1 := by kernel_rfl

theorem byte_of_wf {x : Int} (h : (Lit.int .u8 x).wf = true) : ∃ b : UInt8, Value.int .u8 x = byteV b := by
  have e1 : IntKind.u8.min = 0 := by decide
  have e2 : IntKind.u8.max = 255 := by decide
  simp only [Lit.wf, e1, e2, Bool.and_eq_true, decide_eq_true_eq] at h
  refine ⟨UInt8.ofNat x.toNat, ?_⟩
  have e3 : (UInt8.ofNat x.toNat).toNat = x.toNat := by simp; omega
  unfold byteV
  rw [e3]
  congr 1
  omega

section
variable {H : Type} {enc : TypeId × Value → H}

theorem open_slc {w : World} {d : DataW H} {p : List MemPlace} {a0 : Option Addr} {n c : Nat} (h : DataW.Trod enc Tryd.prog w 0 (fun _ => true) true 36 (.slice a0 n c) d p) :
    ∃ l : List UInt8, n = l.length ∧ Slc w (.slice a0 n c) l ∧ (0 < l.length → ∃ e s : List (DataW H), d = .slice e s ∧ e.length = l.length) := by
  obtain ⟨fuel, hf⟩ := h
  have hf' : DataW.trod enc Tryd.prog w 0 (fun _ => true) true fuel 36 [.slice a0 n c] = some (d, p) := hf
  rcases open_slice1 Tryd.underlying36 cells5 hf' with ⟨h0, _⟩ | ⟨a, len, cap, m, k, V, D, Pl, h0, _, hl, hm, hmm, hd, hx⟩
  · simp at h0
    obtain ⟨rfl, rfl, rfl⟩ := h0
    exact ⟨[], rfl, ⟨none, 0, rfl, fun h => by simp at h, fun _ => rfl, Nat.le_refl _, by decide⟩, fun h => by simp at h⟩
  · simp at h0
    obtain ⟨rfl, rfl, rfl⟩ := h0
    simp only [if_true] at hmm
    subst hmm
    obtain ⟨B, hB⟩ := choose_lt (α := UInt8) (p := fun i b => V i = byteV b) (fun i hi => by
      obtain ⟨x, h1, _, h3⟩ := DataW.trod_int Tryd.underlying5 (hx i hi).2
      obtain ⟨b, hb⟩ := byte_of_wf h3
      exact ⟨b, by rw [← hb]; simpa using h1⟩)
    have hln : ((List.range n).map B).length = n := by simp
    unfold maxLen at hm
    refine ⟨(List.range n).map B, hln.symm, ⟨some a, _, by rw [hln], fun h0 => ⟨a, rfl, fun j v hv => ?_⟩, (fun h => by cases h), by rw [hln]; exact hl, by omega⟩, fun _ => ?_⟩
    · have hj : j < n := by
        have := (List.getElem?_eq_some_iff.1 hv).1
        rwa [length_cellsB, hln] at this
      rw [(hx j (by omega)).1, hB j (by omega)]
      simp [cellsB, hj] at hv
      rw [← hv]
    · cases hd
      exact ⟨_, _, rfl, by rw [hln]; simp⟩

/-- An argument of bytes takes at most 2^47 of them. -/
theorem len_slc {ts : List TypeId} {ds : List (DataW H)} (hsz : (DataW.weightsEach Tryd.prog ts ds).all (· ≤ reachBytes) = true) {j : Nat} {d : DataW H} {l : List UInt8} (ht : ts[j]? = some 36) (hd : ds[j]? = some d)
    (hl : 0 < l.length → ∃ e s : List (DataW H), d = .slice e s ∧ e.length = l.length) : l.length ≤ 140737488355328 := by
  rcases Nat.eq_zero_or_pos l.length with h0 | h0
  · omega
  · obtain ⟨e, s, rfl, he⟩ := hl h0
    have h1 := sized_slice hsz ht hd Tryd.underlying36
    have h2 := reachBytes_lt
    rw [bytes5] at h1
    omega
end

end Go.Proofs.YthbcgimmbcdnmaaDoor.Pk

/-
  log: what stands apart; Append on a calm device; a row of the law's own that keeps texts.
-/
namespace Go.Proofs.YthbcgimmbcdnmaaDoor.Lo
open Go.RowKit
open Pk (Slc Owns errV errV_pos errV_zero)
open Tg (writeD flushD down DOk)
set_option maxRecDepth 100000
set_option linter.unusedVariables false

theorem own_ty {w : World} {pd ps pm : Nat} {d : DS} (h : DevAt w pd ps pm d) {k : Nat} {t : TypeId} (ho : own pd ps pm k) (ht : Ty w k t) : t = 54 ∨ t = 84 := by
  rcases ho with rfl | rfl | rfl
  · exact .inl (ht.uniq ⟨_, _, h.hd⟩)
  · exact .inr (ht.uniq ⟨_, _, h.sec⟩)
  · obtain ⟨_, D, ⟨es, cl, hb, _⟩, _⟩ := h.map
    obtain ⟨cs, fr, hc⟩ := ht
    rw [hb] at hc
    cases hc
theorem apart {w : World} {pd ps pm q pd' : Nat} {nv : Value} {d : DS} {L : Lg} (h : DevAt w pd ps pm d) (hq : LgAt w q pd' nv L) : ∀ k, lown q nv k → ¬ own pd ps pm k := fun k hk ho => by
  rcases hq.oty k hk with h1 | h1 <;> rcases own_ty h ho h1 with h2 | h2 <;> exact absurd h2 (by decide)
/-- What a call of the log may turn. -/
def mine (pd ps pm q : Nat) (nv : Value) : Nat → Prop := fun k => own pd ps pm k ∨ lown q nv k
theorem mine_ty {w : World} {pd ps pm q pd' : Nat} {nv : Value} {d : DS} {L : Lg} (h : DevAt w pd ps pm d) (hq : LgAt w q pd' nv L) {k : Nat} {t : TypeId} (ht : Ty w k t) (h1 : t ≠ 54) (h2 : t ≠ 84) (h3 : t ≠ 61) (h4 : t ≠ 3) : ¬ mine pd ps pm q nv k := by
  rintro (ho | ho)
  · rcases own_ty h ho ht with h5 | h5
    · exact h1 h5
    · exact h2 h5
  · rcases hq.oty k ho with h5 | h5
    · exact h3 (ht.uniq h5)
    · exact h4 (ht.uniq h5)

theorem appD_calm {d : DS} {L : Lg} (x : List UInt8) (hc : Calm d) (hS : 1 ≤ L.S) (hn : L.F + L.S ≤ d.n) (hd : L.dead = 0) :
    (∃ c, c ≠ 0 ∧ appD d L x = (d, L, 0, c)) ∨ (appD d L x = ((putsD L.F L.S L.nx (recB L.nx x) d (L.a + L.u) (List.range (needL L.nx x))).1, { L with ns := L.ns ++ [needL L.nx x] }, L.nx, 0) ∧ x.length ≤ 65536 ∧ L.nx ≤ 1099511627776 ∧ needL L.nx x + L.u + 1 ≤ L.S) := by
  unfold appD
  rw [if_neg (by rw [hd]; exact fun h => h rfl)]
  by_cases h1 : 65536 < x.length
  · rw [if_pos h1]
    exact .inl ⟨2, by decide, rfl⟩
  rw [if_neg h1]
  by_cases h2 : 1099511627776 < L.nx ∨ L.S < needL L.nx x + L.u + 1
  · rw [if_pos h2]
    exact .inl ⟨10, by decide, rfl⟩
  rw [if_neg h2, if_pos (putsD_calm hS _ _ _ hc hn).1]
  exact .inr ⟨rfl, by omega, by omega, by omega⟩
theorem wipeK_calm {F S fr : Nat} (hS : 1 ≤ S) : ∀ (ks : List Nat) (d : DS) (b : Bool), Calm d → F + S ≤ d.n → (wipeK F S fr ks (d, b)).2 = 0 ∧ Calm (wipeK F S fr ks (d, b)).1.1
  | [], d, b, h, _ => ⟨rfl, h⟩
  | k :: ks, d, b, h, hn => by
    have hm := Nat.mod_lt (fr + k) (show S > 0 by omega)
    simp only [wipeK]
    by_cases h1 : d.cur (F + (fr + k) % S) = zsec
    · rw [if_pos h1]
      exact wipeK_calm hS ks d b h hn
    · rw [if_neg h1, writeD_calm h (by omega) (by simp), if_pos rfl]
      exact wipeK_calm hS ks _ true (wrote_calm h _ _) hn
theorem openD_calm {d : DS} {F S a s : Nat} (h : Calm d) (hS : 1 ≤ S) (hn : F + S ≤ d.n) : (openD d F S a s).2 = 0 ∧ Calm (openD d F S a s).1 := by
  unfold openD wipeD
  obtain ⟨h1, h2⟩ := wipeK_calm (F := F) (S := S) (fr := a + usedD d F S a s) hS (List.range (S - usedD d F S a s)) d false h hn
  rw [if_pos h1]
  split
  · rw [flushD_calm h2]
    exact ⟨rfl, h2⟩
  · exact ⟨rfl, h2⟩
theorem Inv.all {d : DS} {F S a s : Nat} {R : List (List UInt8)} {k : Nat} (h : Inv d F S a s R k) : recsD d F S a s = R := by
  have hA : Att d.cur F S a s R R.length := ⟨h.ok, h.u, h.nx, h.s1, Nat.le_refl _, fun j b hj => .inl (h.cur j b hj), h.oldc⟩
  obtain ⟨r, h1, h2, h3, _⟩ := hA.read
  rw [h3, List.take_of_length_le h1]
theorem inv_fresh (n F S a s : Nat) (hs1 : 1 ≤ s) (hs2 : s ≤ 1099511627777) : Inv (fresh n) F S a s [] 0 :=
  ⟨fun x hx => by simp at hx, Nat.zero_le _, by simpa using hs2, hs1, Nat.le_refl _, fun j b h => by simp [layout] at h, fun j _ _ => by rw [cur_fresh]; exact old_zero hs1, fun j b h => by simp [layout] at h, fun j _ _ => old_zero hs1⟩

theorem ok_lg {d : DS} {F S a s n : Nat} {R : List (List UInt8)} {k : Nat} (s2 : 2 ≤ S) (fs : F + S ≤ n) (nn : n ≤ 16384) (al : a < S) (h : Inv d F S a s R k) : (⟨F, S, a, s, needsR s R, 0⟩ : Lg).Ok n := by
  have hu := h.u
  rw [len_layout] at hu
  exact ⟨s2, fs, nn, al, hu, h.s1, by unfold Lg.nx; simp only [len_needsR]; exact h.nx, by simp only [len_needsR]; exact len_le_needs _ _⟩
/-- A row of texts of the law's own; the texts are as they were at first. -/
def AllR (B : Nat) (w0 w : World) (v : Value) (R : List (List UInt8)) : Prop :=
  ∃ ds : List Value, ds.length = R.length ∧ CO B 36 w v ds ∧ ∀ (i : Nat) (u : Value) (x : List UInt8), ds[i]? = some u → R[i]? = some x → Slc w0 u x
theorem info_bs : (Tryd.prog.info? 36).map (fun i => (i.zero, i.size, i.bytes)) = some (some (.slice none 0 0), 1, 24) := by kernel_rfl
section
variable {B : Nat} {w0 w w' : World} {v : Value} {R : List (List UInt8)} {X : Nat → Prop}
theorem AllR.stay (h : AllR B w0 w v R) (hs : Stay X w w') (hx : ∀ k, Ty w k 36 → ¬ X k) : AllR B w0 w' v R := by
  obtain ⟨ds, h1, h2, h3⟩ := h
  exact ⟨ds, h1, h2.stay hs (fun k hk => hx k (h2.ty k hk)), h3⟩
theorem AllR.stay0 (h : AllR B w0 w v R) (hs : Stay (fun _ => False) w w') : AllR B w0 w' v R := h.stay hs (fun _ _ x => x)
theorem AllR.nil (B : Nat) (w0 w : World) : AllR B w0 w (.slice none 0 0) [] := ⟨[], rfl, CO.nil _ _ _, fun i u x h => by simp at h⟩
theorem AllR.form (h : AllR B w0 w v R) : ∃ a c, v = .slice a R.length c := by
  obtain ⟨ds, h1, h2, h3⟩ := h
  obtain ⟨a, c, e⟩ := h2.form
  exact ⟨a, c, by rw [e, h1]⟩
theorem AllR.at (h : AllR B w0 w v R) {i : Nat} {x : List UInt8} (hi : R[i]? = some x) : ∃ g c u, v = .slice (some ⟨g, 0, none⟩) R.length c ∧ w.cell? ⟨g, i, none⟩ = some u ∧ Slc w0 u x := by
  obtain ⟨ds, h1, h2, h3⟩ := h
  have hil := (List.getElem?_eq_some_iff.1 hi).1
  obtain ⟨u, hu⟩ : ∃ u, ds[i]? = some u := ⟨_, List.getElem?_eq_getElem (by omega)⟩
  obtain ⟨g, c, e, _⟩ := h2.at (by omega)
  subst e
  exact ⟨g, c, u, by rw [h1], h2.cell hu, h3 i u x hu hi⟩
theorem AllR.lt (h : AllR B w0 w v R) : ∀ k, v.ownBlock = some k → B ≤ k := by
  obtain ⟨ds, h1, h2, h3⟩ := h
  exact fun k hk => (h2.lt k hk).1
theorem AllR.ty (h : AllR B w0 w v R) : ∀ k, v.ownBlock = some k → Ty w k 36 := by
  obtain ⟨ds, h1, h2, h3⟩ := h
  exact h2.ty
/-- The row of texts grows: the device and the log stand. -/
theorem keep_row {q pd ps pm : Nat} {nv : Value} {d : DS} {L : Lg} {w5 : World} (hd : DevAt w pd ps pm d) (hq : LgAt w q pd nv L) (ha : AllR B w0 w v R) (h5 : Stay (fun _ => False) w w5) (h6 : Stay (fun k => v.ownBlock = some k) w5 w') : DevAt w' pd ps pm d ∧ LgAt w' q pd nv L := by
  have hd5 := hd.stay h5 (fun x => x) (fun x => x) (fun x => x)
  have hq5 := hq.stay0 h5
  have hn : ∀ k, v.ownBlock = some k → ¬ mine pd ps pm q nv k := fun k hk => mine_ty hd hq (ha.ty k hk) (by decide) (by decide) (by decide) (by decide)
  exact ⟨hd5.stay h6 (fun h => hn _ h (.inl (.inl rfl))) (fun h => hn _ h (.inl (.inr (.inl rfl)))) (fun h => hn _ h (.inl (.inr (.inr rfl)))), hq5.stay h6 (fun h => hn _ h (.inr (.inl rfl))) (fun k hk h => hn _ h (.inr (.inr hk)))⟩
theorem needsR_take : ∀ (xs : List (List UInt8)) (s k : Nat), (needsR s xs).take k = needsR s (xs.take k)
  | [], s, k => by simp [needsR]
  | x :: xs, s, 0 => by simp [needsR]
  | x :: xs, s, k + 1 => by simp only [needsR, List.take_succ_cons, needsR_take xs (s + 1) k]
theorem needsR_drop : ∀ (xs : List (List UInt8)) (s k : Nat), (needsR s xs).drop k = needsR (s + k) (xs.drop k)
  | [], s, k => by simp [needsR]
  | x :: xs, s, 0 => by simp
  | x :: xs, s, k + 1 => by
    simp only [needsR, List.drop_succ_cons]
    rw [needsR_drop xs (s + 1) k, show s + 1 + k = s + (k + 1) by omega]
theorem trimL_ok {F S a s : Nat} {R : List (List UInt8)} {k : Nat} (hk : k ≤ R.length) : trimL ⟨F, S, a, s, needsR s R, 0⟩ (s + k) = (⟨F, S, (a + (needsR s (R.take k)).sum) % S, s + k, needsR (s + k) (R.drop k), 0⟩, 0) := by
  unfold trimL
  rw [if_neg (fun h => h rfl), if_neg (by unfold Lg.nx; simp only [len_needsR]; omega)]
  simp only [Nat.add_sub_cancel_left, needsR_take, needsR_drop]
theorem trimL_no {L : Lg} {z : Nat} (hd : L.dead = 0) (hz : z < L.s ∨ L.nx < z) : trimL L z = (L, 4) := by
  unfold trimL
  rw [if_neg (fun h => h hd), if_pos hz]
theorem wpList_append_all {ops : Array Oper} {rest : List Oper} {o : Oper} {a : Act} {Q : Exit → Act → World → Prop} (hgd : o.guard = none) (s y : Operand) (t : TypeId) (ho : o.op = .call { callee := .builtin .append, args := #[s, y], argTypes := #[t, t] }) (ht : Tryd.prog.underlying t = some (.slice 36))
    (g : Nat) (u : Value) (x : List UInt8) (hs : a.eval s = v) (hy : a.eval y = .slice (some ⟨g, 0, none⟩) 1 1) (hown : AllR B w0 w v R) (hc : w.cell? ⟨g, 0, none⟩ = some u) (hu : Slc w0 u x) (hl : R.length ≤ 100000) (hb : B ≤ w.heap.size)
    (h : ∀ v' w', AllR B w0 w' v' (R ++ [x]) → Stay (fun k => v.ownBlock = some k) w w' → wpList Tryd.prog ops Q rest (a.put o.dst v') w') : wpList Tryd.prog ops Q (o :: rest) a w := by
  obtain ⟨ds, h1, h2, h3⟩ := hown
  refine wpList_append_co hgd s y t ho (.slice none 0 0) 24 ht info_bs rfl (by decide) (v := v) (vs := ds) (x := .slice (some ⟨g, 0, none⟩) 1 1) (us := [u]) hs hy h2 ⟨_, 1, rfl, Nat.le_refl _, by decide, (fun e => by cases e), fun _ => ⟨g, 0, rfl, fun i u' hu' => ?_⟩⟩ (by intro u' hu'; simp at hu'; subst hu'; obtain ⟨p, r, e, _⟩ := hu; rw [e]; rfl) (by rw [List.length_singleton]; omega) hb ?_
  · have hi : i = 0 := by
      have := (List.getElem?_eq_some_iff.1 hu').1
      simp at this
      exact this
    subst hi
    simp at hu'
    subst hu'
    exact hc
  · intro v' w' hco hst _
    refine h v' w' ⟨ds ++ [u], by rw [List.length_append, List.length_append, h1]; rfl, hco, fun i u' x' hu' hx' => ?_⟩ hst
    by_cases hi : i < ds.length
    · rw [List.getElem?_append_left hi] at hu'
      rw [List.getElem?_append_left (by omega)] at hx'
      exact h3 i u' x' hu' hx'
    · have hi2 : i = ds.length := by
        have := (List.getElem?_eq_some_iff.1 hu').1
        rw [List.length_append] at this
        simp at this
        omega
      subst hi2
      rw [List.getElem?_append_right (Nat.le_refl _)] at hu'
      rw [h1, List.getElem?_append_right (Nat.le_refl _)] at hx'
      simp at hu' hx'
      subst hu'
      subst hx'
      exact hu
end
end Go.Proofs.YthbcgimmbcdnmaaDoor.Lo

/-
  Texts that come in as an argument: a slice of slices of bytes.
-/
namespace Go.Proofs.YthbcgimmbcdnmaaDoor.Lo
open Go.ChangeShapes Go.WideShapes Go.ChangeAt Go.RowKit Go.Deep
open Pk (Slc open_slc)
set_option maxRecDepth 100000

/-- A slice of texts: each one's value and bytes. -/
def Txts (w : World) (lp : Option Addr) (xs : List (Value × List UInt8)) : Prop :=
  xs.length ≤ 9223372036854775807 ∧ (0 < xs.length → ∃ lb lo, lp = some ⟨lb, lo, none⟩ ∧ lb < w.heap.size ∧ ∀ k v, xs[k]? = some v → w.cell? ⟨lb, lo + k, none⟩ = some v.1 ∧ Slc w v.1 v.2)

theorem cells_txt : Tryd.prog.cellsOf 36 = 1 := by kernel_rfl

section
variable {H : Type} {enc : TypeId × Value → H}
theorem open_txts {w : World} {d : DataW H} {p : List MemPlace} {a0 : Option Addr} {n c : Nat} (h : DataW.Trod enc Tryd.prog w 0 (fun _ => true) true 22 (.slice a0 n c) d p) :
    ∃ xs : List (Value × List UInt8), n = xs.length ∧ Txts w a0 xs := by
  obtain ⟨fuel, hf⟩ := h
  have hf' : DataW.trod enc Tryd.prog w 0 (fun _ => true) true fuel 22 [.slice a0 n c] = some (d, p) := hf
  rcases open_slice Tryd.underlying22 hf' with ⟨h0, _⟩ | ⟨a, len, cap, m, k, D, Pl, h0, _, hl, hm, hmm, _, hx⟩
  · simp at h0
    obtain ⟨rfl, rfl, rfl⟩ := h0
    exact ⟨[], rfl, by decide, fun h => by simp at h⟩
  · simp at h0
    obtain ⟨rfl, rfl, rfl⟩ := h0
    simp only [if_true] at hmm
    subst hmm
    rw [cells_txt] at hx
    by_cases hn0 : n = 0
    · subst hn0; exact ⟨[], rfl, by decide, fun h => by simp at h⟩
    · have one : ∀ i, i < n → ∃ cv : Value, w.cell? (a.add (i * 1)) = some cv ∧ ∃ x y m, DataW.trod enc Tryd.prog w 0 (fun _ => true) true m 36 [cv] = some (x, y) := by
        intro i hi
        obtain ⟨cs, hc, ht⟩ := hx i (by omega)
        obtain ⟨_, hlen, hcell⟩ := World.cells?_some hc
        match cs, hlen with
        | [cv], _ =>
          have h0 := hcell 0 (by omega)
          refine ⟨cv, ?_, _, _, _, ht⟩
          have e0 : (a.add (i * 1)).add 0 = a.add (i * 1) := rfl
          rw [e0] at h0
          simpa using h0
      have ha : a = ⟨a.block, a.off, none⟩ ∧ a.block < w.heap.size := by
        obtain ⟨cv, h0, _⟩ := one 0 (by omega)
        have e0 : a.add (0 * 1) = a := rfl
        rw [e0] at h0
        refine ⟨?_, World.block_lt_of_cell? w a h0⟩
        obtain ⟨b, o, sp⟩ := a
        cases sp with
        | none => rfl
        | some q =>
          have : w.cell? ⟨b, o, some q⟩ = none := by unfold World.cell?; split <;> simp
          rw [this] at h0; cases h0
      obtain ⟨V, hV⟩ := choose_lt (α := Value × List UInt8) (p := fun i v => w.cell? ⟨a.block, a.off + i, none⟩ = some v.1 ∧ Slc w v.1 v.2) (fun i hi => by
        obtain ⟨cv, hc, x, y, m, ht⟩ := one i hi
        rw [ha.1, add_at, Nat.mul_one] at hc
        have hs : ∃ kp q c, cv = .slice kp q c := by
          rcases open_slice Tryd.underlying36 ht with ⟨h0, _⟩ | ⟨a, len, cap, m, n, D, Pl, h0, _⟩
          · simp only [List.cons.injEq, and_true] at h0; exact ⟨_, _, _, h0⟩
          · simp only [List.cons.injEq, and_true] at h0; exact ⟨_, _, _, h0⟩
        obtain ⟨kp, q, c, rfl⟩ := hs
        obtain ⟨l, rfl, hsl, _⟩ := open_slc (p := y) (d := x) ⟨m, ht⟩
        exact ⟨(_, l), hc, hsl⟩)
      have hln : ((List.range n).map V).length = n := by simp
      unfold maxLen at hm
      refine ⟨(List.range n).map V, hln.symm, by rw [hln]; omega, fun _ => ⟨a.block, a.off, by rw [← ha.1], ha.2, fun i v hv => ?_⟩⟩
      have hi : i < n := by
        have := (List.getElem?_eq_some_iff.1 hv).1
        rwa [hln] at this
      have hvi : v = V i := by simpa [hi] using hv.symm
      rw [hvi]
      exact hV i (by omega)
end

end Go.Proofs.YthbcgimmbcdnmaaDoor.Lo

/-
  errors.As at a target *api.Errno, and the laws' own 'num': the number of an error that is nil or an api.Errno.
-/
namespace Go.Proofs.YthbcgimmbcdnmaaDoor
open Go.RowKit Go.Extern.Stop Go.Stop Go.Extern
set_option maxRecDepth 100000

/-- A type's handle. -/
def hnd (t : Nat) : Value := .pointer (some ⟨1, t, none⟩)
/-- The cell that errors.As reads. -/
def ErrCell (w : World) : Prop := w.cell? ⟨0, 0, none⟩ = some (.iface 126 (.agg #[hnd 26]))

theorem as_nil (t : Value) (w : World) : Calls Tryd.prog 29 #[.nilIface, t] w fun e w' => e = .returned (.bool false) ∧ w' = w := by
  go_enter Tryd.func29, Tryd.ntmps29
  go_wp2
  go_ret
  exact ⟨rfl, rfl⟩

theorem nm_valueP (t : Addr) (w : World) : (ReflectliteValue.unpack (.iface 75 (.pointer (some t)))).run Tryd.prog w
    = .ok (.agg #[.pointer (some ⟨1, 75, none⟩), .pointer (some ⟨w.heap.size, 0, none⟩), .int .u64 150]) (w.alloc (.cells #[.pointer (some t)] 75)) := by kernel_rfl
theorem nm_typeP (a : Addr) (w : World) : (ReflectliteValue.methodAny (ReflectliteValue.valueError "reflectlite.Value.Type" 0) (fun t _ _ _ => ReflectliteType.toType t) #[.agg #[.pointer (some ⟨1, 75, none⟩), .pointer (some a), .int .u64 150]]).run Tryd.prog w
    = .ok (.iface 126 (.agg #[.pointer (some ⟨1, 75, none⟩)])) w := by kernel_rfl
theorem nm_kindP (w : World) : ((ReflectliteType.abiMethod fun t => (fun a : Nat => Value.int IntKind.u8 (a : Int)) <$> Rtype.kind t) #[.pointer (some ⟨1, 75, none⟩)]).run Tryd.prog w = .ok (.int .u8 22) w := by kernel_rfl
theorem nm_kindE (w : World) : ((ReflectliteType.abiMethod fun t => (fun a : Nat => Value.int IntKind.u8 (a : Int)) <$> Rtype.kind t) #[.pointer (some ⟨1, 50, none⟩)]).run Tryd.prog w = .ok (.int .u8 2) w := by kernel_rfl

theorem nm_method1 (z : Sem Value) (f : TypeId → Addr → Nat → Nat → Sem Value) (v : Value) (t : TypeId) (a : Addr) (fl : Nat) (w : World) (h : (ReflectliteValue.parts v).run Tryd.prog w = .ok (some (t, a, fl)) w) :
    (ReflectliteValue.method z f #[v]).run Tryd.prog w = (f t a fl (fl % 32)).run Tryd.prog w := by
  change (ReflectliteValue.parts v >>= ?k).run _ _ = _
  rw [Sem.run_bind, h]
  rfl
theorem nm_partsP (a : Addr) (w : World) : (ReflectliteValue.parts (.agg #[.pointer (some ⟨1, 75, none⟩), .pointer (some a), .int .u64 150])).run Tryd.prog w = .ok (some (75, a, 150)) w := by kernel_rfl
theorem nm_isNil (a p : Addr) (W : World) (ha : W.cell? a = some (.pointer (some p))) :
    (ReflectliteValue.method (ReflectliteValue.valueError "reflectlite.Value.IsNil" 0) ReflectliteValue.isNil #[.agg #[.pointer (some ⟨1, 75, none⟩), .pointer (some a), .int .u64 150]]).run Tryd.prog W = .ok (.bool false) W := by
  rw [nm_method1 _ _ _ _ _ _ _ (nm_partsP a W)]
  simp [ReflectliteValue.isNil, loadVar, isAgg, underlying, Tryd.underlying75, ha, Result.andThen]

theorem nm_mKind (h : Value) (w : World) : (Go.method 277 126 (.agg #[h]) "Kind").run Tryd.prog w = .ok (90, h) w := by kernel_rfl
theorem nm_mElem (h : Value) (w : World) : (Go.method 277 126 (.agg #[h]) "Elem").run Tryd.prog w = .ok (102, .agg #[h]) w := by kernel_rfl
theorem nm_mImpl (h : Value) (w : World) : (Go.method 277 126 (.agg #[h]) "Implements").run Tryd.prog w = .ok (103, .agg #[h]) w := by kernel_rfl
theorem nm_mAssign (h : Value) (w : World) : (Go.method 277 126 (.agg #[h]) "AssignableTo").run Tryd.prog w = .ok (100, .agg #[h]) w := by kernel_rfl
theorem nm_elemP (w : World) : (ReflectliteType.method ReflectliteType.elem #[.agg #[.pointer (some ⟨1, 75, none⟩)]]).run Tryd.prog w = .ok (.iface 126 (.agg #[.pointer (some ⟨1, 50, none⟩)])) w := by kernel_rfl
theorem nm_implE (w : World) : (ReflectliteType.relation "Implements" ReflectliteType.implements_ #[.agg #[.pointer (some ⟨1, 50, none⟩)], .iface 126 (.agg #[.pointer (some ⟨1, 26, none⟩)])]).run Tryd.prog w = .ok (.bool true) w := by kernel_rfl
theorem nm_typeOfE (v : Value) (w : World) : (ReflectliteType.typeOf #[.iface 50 v]).run Tryd.prog w = .ok (.iface 126 (.agg #[.pointer (some ⟨1, 50, none⟩)])) w := by kernel_rfl
theorem nm_assignE (w : World) : (ReflectliteType.relation "AssignableTo" ReflectliteType.assignableTo #[.agg #[.pointer (some ⟨1, 50, none⟩)], .iface 126 (.agg #[.pointer (some ⟨1, 50, none⟩)])]).run Tryd.prog w = .ok (.bool true) w := by kernel_rfl
theorem nm_valueE (n : Int) (w : World) : (ReflectliteValue.unpack (.iface 50 (.int .i64 n))).run Tryd.prog w
    = .ok (.agg #[.pointer (some ⟨1, 50, none⟩), .pointer (some ⟨w.heap.size, 0, none⟩), .int .u64 130]) (w.alloc (.cells #[.int .i64 n] 50)) := by kernel_rfl
theorem nm_elemOf (w : World) : (Rtype.elem? 75).run Tryd.prog w = .ok (some 50) w := by kernel_rfl
theorem nm_mkE (p : Addr) (w : World) : (ReflectliteValue.mk 50 p ReflectliteValue.flagAddr).run Tryd.prog w = .ok (.agg #[.pointer (some ⟨1, 50, none⟩), .pointer (some p), .int .u64 386]) w := by kernel_rfl
theorem nm_elemV (a p : Addr) (W : World) (ha : W.cell? a = some (.pointer (some p))) :
    (ReflectliteValue.method (ReflectliteValue.valueError "reflectlite.Value.Elem" 0) ReflectliteValue.elem #[.agg #[.pointer (some ⟨1, 75, none⟩), .pointer (some a), .int .u64 150]]).run Tryd.prog W
      = .ok (.agg #[.pointer (some ⟨1, 50, none⟩), .pointer (some p), .int .u64 386]) W := by
  rw [nm_method1 _ _ _ _ _ _ _ (nm_partsP a W)]
  simp [ReflectliteValue.elem, loadVar, isAgg, underlying, Tryd.underlying75, ha, Result.andThen, nm_elemOf, nm_mkE]
theorem nm_partsA (a : Addr) (w : World) : (ReflectliteValue.parts (.agg #[.pointer (some ⟨1, 50, none⟩), .pointer (some a), .int .u64 386])).run Tryd.prog w = .ok (some (50, a, 386)) w := by kernel_rfl
theorem nm_partsE (a : Addr) (w : World) : (ReflectliteValue.parts (.agg #[.pointer (some ⟨1, 50, none⟩), .pointer (some a), .int .u64 130])).run Tryd.prog w = .ok (some (50, a, 130)) w := by kernel_rfl
theorem nm_direct (w : World) : (Rtype.directlyAssignable 50 50).run Tryd.prog w = .ok true w := by kernel_rfl
theorem nm_size (w : World) : (sizeOf 50).run Tryd.prog w = .ok 1 w := by kernel_rfl
theorem nm_set (ta b : Addr) (n : Int) (old : Value) (W : World) (hb : W.cell? b = some (.int .i64 n)) (ht : W.cell? ta = some old) (hf : W.frozen? ta = false) :
    (ReflectliteValue.set #[.agg #[.pointer (some ⟨1, 50, none⟩), .pointer (some ta), .int .u64 386], .agg #[.pointer (some ⟨1, 50, none⟩), .pointer (some b), .int .u64 130]]).run Tryd.prog W
      = .ok (.tuple #[]) (W.setCell ta (.int .i64 n)) := by
  change (ReflectliteValue.parts (.agg #[.pointer (some ⟨1, 50, none⟩), .pointer (some ta), .int .u64 386]) >>= ?k).run _ _ = _
  rw [Sem.run_bind, nm_partsA]
  change (ReflectliteValue.parts (.agg #[.pointer (some ⟨1, 50, none⟩), .pointer (some b), .int .u64 130]) >>= ?k2).run _ _ = _
  rw [Sem.run_bind, nm_partsE]
  simp only [Result.andThen]
  simp [ReflectliteValue.flagAddr, loadVar, isAgg, underlying, Tryd.underlying50, hb, Result.andThen, nm_direct, storeVar, Value.cells, storeCells, Addr.add]
  rw [run_store Tryd.prog W ta _ _ (by rfl)]
  simp [ht, hf]

set_option maxHeartbeats 4000000 in
theorem as_hit (n : Int) (t : Addr) (old : Value) (w : World) (hg : ErrCell w) (ht0 : w.cell? t = some old) (hf0 : w.frozen? t = false) :
    Calls Tryd.prog 29 #[.iface 50 (.int .i64 n), .iface 75 (.pointer (some t))] w fun ev w' => ev = .returned (.bool true) ∧ w' = ((((w.alloc (.cells #[.pointer (some t)] 75)).alloc (.cells #[.pointer (some ⟨1, 75, none⟩), .pointer (some ⟨w.heap.size, 0, none⟩), .int .u64 150] 106)).alloc (.cells #[.pointer (some ⟨1, 75, none⟩), .pointer (some ⟨w.heap.size, 0, none⟩), .int .u64 150] 106)).alloc (.cells #[.int .i64 n] 50)).setCell t (.int .i64 n) := by
  have x1 := @run_callFunc_extern Tryd.prog 47 _ (fun args => ReflectliteValue.unpack (args.getD 0 (.tuple #[]))) Tryd.func47 (by kernel_rfl) (by kernel_rfl) (by kernel_rfl) (by kernel_rfl)
  have x2 := @run_callFunc_extern Tryd.prog 48 _ (ReflectliteValue.methodAny (ReflectliteValue.valueError "reflectlite.Value.Type" 0) (fun t _ _ _ => ReflectliteType.toType t)) Tryd.func48 (by kernel_rfl) (by kernel_rfl) (by kernel_rfl) (by kernel_rfl)
  have x3 := @run_callFunc_extern Tryd.prog 49 _ (ReflectliteValue.method (ReflectliteValue.valueError "reflectlite.Value.IsNil" 0) ReflectliteValue.isNil) Tryd.func49 (by kernel_rfl) (by kernel_rfl) (by kernel_rfl) (by kernel_rfl)
  have x4 := @run_callFunc_extern Tryd.prog 90 _ (ReflectliteType.abiMethod fun t => do pure (.int .u8 (← Rtype.kind t))) Tryd.func90 (by kernel_rfl) (by kernel_rfl) (by kernel_rfl) (by kernel_rfl)
  have x5 := @run_callFunc_extern Tryd.prog 102 _ (ReflectliteType.method ReflectliteType.elem) Tryd.func102 (by kernel_rfl) (by kernel_rfl) (by kernel_rfl) (by kernel_rfl)
  have x6 := @run_callFunc_extern Tryd.prog 103 _ (ReflectliteType.relation "Implements" ReflectliteType.implements_) Tryd.func103 (by kernel_rfl) (by kernel_rfl) (by kernel_rfl) (by kernel_rfl)
  have x7 := @run_callFunc_extern Tryd.prog 63 _ ReflectliteType.typeOf Tryd.func63 (by kernel_rfl) (by kernel_rfl) (by kernel_rfl) (by kernel_rfl)
  have x8 := @run_callFunc_extern Tryd.prog 100 _ (ReflectliteType.relation "AssignableTo" ReflectliteType.assignableTo) Tryd.func100 (by kernel_rfl) (by kernel_rfl) (by kernel_rfl) (by kernel_rfl)
  have x9 := @run_callFunc_extern Tryd.prog 64 _ (ReflectliteValue.method (ReflectliteValue.valueError "reflectlite.Value.Elem" 0) ReflectliteValue.elem) Tryd.func64 (by kernel_rfl) (by kernel_rfl) (by kernel_rfl) (by kernel_rfl)
  have x10 := @run_callFunc_extern Tryd.prog 65 _ ReflectliteValue.set Tryd.func65 (by kernel_rfl) (by kernel_rfl) (by kernel_rfl) (by kernel_rfl)
  have y1 := nm_typeOfE
  have y2 := nm_mAssign
  have y3 := nm_assignE
  have y4 := nm_valueE
  have y5 := nm_valueP
  have y6 := nm_typeP
  have y7 := nm_mKind
  have y8 := nm_mElem
  have y9 := nm_mImpl
  have y10 := nm_kindP
  have y11 := nm_kindE
  have y12 := nm_elemP
  have y13 := nm_implE
  have z1 := nm_isNil ⟨w.heap.size, 0, none⟩ t ((w.alloc (.cells #[.pointer (some t)] 75)).alloc (.cells #[.pointer (some ⟨1, 75, none⟩), .pointer (some ⟨w.heap.size, 0, none⟩), .int .u64 150] 106)) (by simp)
  have hlt : 0 < w.heap.size := World.block_lt_of_cell? w ⟨0, 0, none⟩ hg
  have hg2 : ((w.alloc (.cells #[.pointer (some t)] 75)).alloc (.cells #[.pointer (some ⟨1, 75, none⟩), .pointer (some ⟨w.heap.size, 0, none⟩), .int .u64 150] 106)).cell? ⟨0, 0, none⟩ = some (.iface 126 (.agg #[.pointer (some ⟨1, 26, none⟩)])) := by
    rw [World.cell?_alloc_lt _ _ ⟨0, 0, none⟩ (by simp <;> omega), World.cell?_alloc_lt _ _ ⟨0, 0, none⟩ hlt]; exact hg
  have htl : t.block < w.heap.size := World.block_lt_of_cell? w t ht0
  have z2 := nm_elemV ⟨w.heap.size, 0, none⟩ t (((w.alloc (.cells #[.pointer (some t)] 75)).alloc (.cells #[.pointer (some ⟨1, 75, none⟩), .pointer (some ⟨w.heap.size, 0, none⟩), .int .u64 150] 106)).alloc (.cells #[.pointer (some ⟨1, 75, none⟩), .pointer (some ⟨w.heap.size, 0, none⟩), .int .u64 150] 106)) (by rw [World.cell?_alloc_lt _ _ ⟨w.heap.size, 0, none⟩ (by simp; omega)]; simp)
  have z3 := nm_set t ⟨w.heap.size + 1 + 1 + 1, 0, none⟩ n old ((((w.alloc (.cells #[.pointer (some t)] 75)).alloc (.cells #[.pointer (some ⟨1, 75, none⟩), .pointer (some ⟨w.heap.size, 0, none⟩), .int .u64 150] 106)).alloc (.cells #[.pointer (some ⟨1, 75, none⟩), .pointer (some ⟨w.heap.size, 0, none⟩), .int .u64 150] 106)).alloc (.cells #[.int .i64 n] 50))
    (by rw [World.cell?_alloc_at _ _ _ _ (by simp)]; rfl)
    (by rw [World.cell?_alloc_lt _ _ t (by simp; omega), World.cell?_alloc_lt _ _ t (by simp; omega), World.cell?_alloc_lt _ _ t (by simp; omega), World.cell?_alloc_lt _ _ t htl]; exact ht0)
    (by rw [World.frozen?_alloc_old _ _ t (by simp; omega), World.frozen?_alloc_old _ _ t (by simp; omega), World.frozen?_alloc_old _ _ t (by simp; omega), World.frozen?_alloc_old _ _ t (Nat.ne_of_lt htl)]; exact hf0)
  clear hg
  go_enter Tryd.func29, Tryd.ntmps29
  go_wp2
  refine wp_loop_rounds 1 ?_
  rw [rounds_succ]
  go_wp2
  go_ret
  exact ⟨rfl, rfl⟩

/-- errors.As sets the target, and nothing else that there was. -/
theorem as_sets (n : Int) (t : Addr) (old : Value) (w : World) (hg : ErrCell w) (ht0 : w.cell? t = some old) (hf0 : w.frozen? t = false) :
    Calls Tryd.prog 29 #[.iface 50 (.int .i64 n), .iface 75 (.pointer (some t))] w fun ev w' => ev = .returned (.bool true) ∧ w'.cell? t = some (.int .i64 n) ∧ Stay (· = t.block) w w' := by
  refine (as_hit n t old w hg ht0 hf0).mono ?_
  rintro e w' ⟨rfl, rfl⟩
  have htl : t.block < w.heap.size := World.block_lt_of_cell? w t ht0
  refine ⟨rfl, World.cell?_setCell_same _ _ _ (u := old) ?_, (((Stay.alloc _ _).trans (Stay.alloc _ _)).trans (Stay.alloc _ _)).trans (Stay.alloc _ _) |>.trans (Stay.setCell _ _ _ rfl)⟩
  rw [World.cell?_alloc_lt _ _ t (by simp; omega), World.cell?_alloc_lt _ _ t (by simp; omega), World.cell?_alloc_lt _ _ t (by simp; omega), World.cell?_alloc_lt _ _ t htl]; exact ht0

set_option maxHeartbeats 1000000 in
/-- num(nil) = 0. -/
theorem num_nil (w : World) : Calls Tryd.prog 9 #[.nilIface] w fun e w' => e = .returned (.int .i64 0) ∧ Stay (fun _ => False) w w' := by
  go_enter Tryd.func9, Tryd.ntmps9
  go_wp2_with fail
  go_ret
  exact ⟨rfl, Stay.alloc _ _⟩

set_option maxHeartbeats 1000000 in
/-- num of an api.Errno is its number. -/
theorem num_errno (n : Int) (w : World) (hg : ErrCell w) : Calls Tryd.prog 9 #[.iface 50 (.int .i64 n)] w fun e w' => e = .returned (.int .i64 n) ∧ Stay (fun _ => False) w w' := by
  have hlt : 0 < w.heap.size := World.block_lt_of_cell? w ⟨0, 0, none⟩ hg
  have hg2 : ErrCell (w.alloc (.cells #[.int .i64 0] 50)) := (World.cell?_alloc_lt w _ ⟨0, 0, none⟩ hlt).trans hg
  have HG2 := Lib.hid hg2
  clear hg hg2
  go_enter Tryd.func9, Tryd.ntmps9
  go_wp2_with fail
  refine (as_sets n ⟨w.heap.size, 0, none⟩ (.int .i64 0) _ HG2.out (by simp) (by simp)).mono ?_
  rintro e w' ⟨rfl, hc, hs⟩
  have hs' : Stay (fun _ => False) w w' := (Stay.alloc (X := fun _ => False) w _).andThen hs (fun k hk e => by
    have e' : k = w.heap.size := e
    omega)
  clear hs
  go_wp2
  go_ret
  exact ⟨rfl, hs'⟩

end Go.Proofs.YthbcgimmbcdnmaaDoor

/-
  What a law over errors.As wants beside its walk: the variable errors.errorType by its handle; a world that meets the condition; bytes that come in as an argument.
-/
namespace Go.Proofs.YthbcgimmbcdnmaaDoor.Pk
open Go.ChangeShapes Go.WideShapes Go.ChangeAt Go.RowKit Go.Deep
set_option maxRecDepth 100000

theorem et_at : Tryd.prog.globalNamed "errors.errorType" = some 0 := by kernel_rfl
theorem rt_at : (Tryd.prog.cutTypes.find? (·.1 == "internal/reflectlite.rtype")).map (·.2) = some 126 := by kernel_rfl
theorem oneRow : ((List.range Tryd.prog.types.size).filter fun t => Tryd.prog.rowNamed t [101, 114, 114, 111, 114]) = [26] := by kernel_rfl

/-- What the rows list. -/
def laidErr : List (String × DataW Unit) := [("errors.errorType", Rows.laid_errors_errorType)]

/-- What the condition gives a walk: the variable's one cell. -/
theorem err_of_laid {W : World} (h : laidMetH Tryd.prog laidErr W) : ErrCell W := by
  have h' : laidMet Tryd.prog [] W ∧ handlesMet Tryd.prog laidErr W := h
  obtain ⟨name, u, ty, e1, e2, e3, e4, e5⟩ := h'.2 _ (List.mem_singleton.2 rfl)
  have en : name = [101, 114, 114, 111, 114] := (Option.some.inj e1).symm
  subst en
  obtain rfl := Option.some.inj (rt_at.symm.trans e2)
  have hm : ty ∈ (List.range Tryd.prog.types.size).filter fun t => Tryd.prog.rowNamed t [101, 114, 114, 111, 114] := List.mem_filter.2 ⟨List.mem_range.2 e3, e4⟩
  rw [oneRow] at hm
  obtain rfl := List.mem_singleton.1 hm
  have hh : typeHandle Tryd.prog 26 = .pointer (some ⟨1, 26, none⟩) := by kernel_rfl
  rw [hh] at e5
  unfold ErrCell hnd
  simpa using World.var?_cell et_at e5 0

/-- A world that meets the condition: the settled one, with the variable's cell laid. -/
noncomputable def laidWorld (os : Os) : World :=
  let w0 := World.holding Tryd.prog os ⟨#[], #[], []⟩
  { w0 with heap := w0.heap.modify 0 fun
      | .cells _ t frozen => .cells #[.iface 126 (.agg #[.pointer (some ⟨1, 26, none⟩)])] t frozen
      | o => o }
theorem laidWorld_met (os : Os) (args : Array Value) : laidMetH Tryd.prog laidErr ((laidWorld os).forCall (fun _ _ => 0) ⟨#[], args, []⟩).memory :=
  laidMetH_of_parts (laidMet_nil _ _) (by kernel_rfl)

theorem ErrCell.stay {X : Nat → Prop} {w w' : World} (h : ErrCell w) (hs : Stay X w w') (hx : ¬ X 0) : ErrCell w' := hs.cell h hx
theorem ErrCell.stay0 {w w' : World} (h : ErrCell w) (hs : Stay (fun _ => False) w w') : ErrCell w' := hs.cell h (fun x => x)

theorem num_any (c : Nat) (w : World) (hg : ErrCell w) (v : Value) (hv : v = if c = 0 then .nilIface else .iface 50 (.int .i64 (c : Int))) : Calls Tryd.prog 9 #[v] w fun e w' => e = .returned (.int .i64 (c : Int)) ∧ Stay (fun _ => False) w w' := by
  subst hv
  by_cases h : c = 0
  · subst h
    exact num_nil w
  · rw [if_neg h]
    exact num_errno (c : Int) w hg

end Go.Proofs.YthbcgimmbcdnmaaDoor.Pk

/-
  LogRound: the walk.
-/
namespace Go.Proofs.YthbcgimmbcdnmaaDoor.Lo
open Go.RowKit
open Pk (Slc Owns errV errV_pos errV_zero stay_seal)
open Tg (writeD flushD down DOk)
set_option maxRecDepth 100000
set_option linter.unusedVariables false

theorem wipeK_ok (F S fr : Nat) : ∀ (ks : List Nat) (d : DS) (b : Bool) (K : Int), DOk d K → DOk (wipeK F S fr ks (d, b)).1.1 (K + ks.length)
  | [], d, b, K, h => h.mono (by simp)
  | k :: ks, d, b, K, h => by
    simp only [wipeK]
    split
    · exact (wipeK_ok F S fr ks d b K h).mono (by simp; omega)
    · split
      · exact (wipeK_ok F S fr ks _ true _ (Tg.writeD_ok h _ _)).mono (by simp; omega)
      · exact (Tg.writeD_ok h _ _).mono (by simp; omega)
theorem openD_ok {d : DS} {F S a s : Nat} {K : Int} (h : DOk d K) : DOk (openD d F S a s).1 (K + S) := by
  unfold openD wipeD
  have h1 := (wipeK_ok F S (a + usedD d F S a s) (List.range (S - usedD d F S a s)) d false K h).mono (K' := K + S) (by rw [List.length_range]; omega)
  split
  · split
    · exact Tg.flushD_ok h1
    · exact h1
  · exact h1
theorem appD_bad {d : DS} {L : Lg} (x : List UInt8) (hc : Calm d) (hS : 1 ≤ L.S) (hn : L.F + L.S ≤ d.n) (hd : L.dead = 0) :
    appD d L x = (d, L, 0, 2) ∨ appD d L x = (d, L, 0, 10) ∨ (appD d L x = ((putsD L.F L.S L.nx (recB L.nx x) d (L.a + L.u) (List.range (needL L.nx x))).1, { L with ns := L.ns ++ [needL L.nx x] }, L.nx, 0) ∧ x.length ≤ 65536 ∧ L.nx ≤ 1099511627776 ∧ needL L.nx x + L.u + 1 ≤ L.S) := by
  unfold appD
  rw [if_neg (by rw [hd]; exact fun h => h rfl)]
  by_cases h1 : 65536 < x.length
  · rw [if_pos h1]
    exact .inl rfl
  rw [if_neg h1]
  by_cases h2 : 1099511627776 < L.nx ∨ L.S < needL L.nx x + L.u + 1
  · rw [if_pos h2]
    exact .inr (.inl rfl)
  rw [if_neg h2, if_pos (putsD_calm hS _ _ _ hc hn).1]
  exact .inr (.inr ⟨rfl, by omega, by omega, by omega⟩)

/-- A record is appended, flushed, opened and trimmed. -/
theorem round_plain {d : DS} {n a s : Nat} {x : List UInt8} (hn : 2 ≤ n) (ha : a < n) (hc : Calm d) (hdn : d.n = n) {K : Int} (hok : DOk d K) (hi : Inv d 0 n a s [] 0) (hx : x.length ≤ 65536) (hs : s ≤ 1099511627776) (hl : needL s x + 1 ≤ n) :
    ∃ d1 d2 d3, d1 = (putsD 0 n s (recB s x) d (a + 0) (List.range (needL s x))).1 ∧ fluD d1 ⟨0, n, a, s, [needL s x], 0⟩ = (d2, ⟨0, n, a, s, [needL s x], 0⟩, 0) ∧ recsD d2 0 n a s = [x] ∧ openD d2 0 n a s = (d3, 0) ∧ DOk d2 (K + n) ∧ d2.n = n ∧ Calm d2 ∧
      Calm d3 ∧ d3.n = n ∧ DOk d3 (K + 2 * n) ∧ Inv d3 0 n ((a + needL s x) % n) (s + 1) [] 0 := by
  obtain ⟨⟨d1, e1⟩, hp⟩ : ∃ y, y = putsD 0 n s (recB s x) d (a + 0) (List.range (needL s x)) := ⟨_, rfl⟩
  obtain ⟨pc0, pc1⟩ := putsD_calm (F := 0) (S := n) (s := s) (l := recB s x) (by omega) (List.range (needL s x)) d (a + 0) hc (by omega)
  have pok := putsD_ok 0 n s (recB s x) (List.range (needL s x)) d (a + 0) _ hok
  have pn := putsD_n 0 n s (recB s x) (List.range (needL s x)) d (a + 0)
  rw [← hp] at pc0 pc1 pok pn
  simp only [] at pc0 pc1 pok pn
  rw [List.length_range] at pok
  have hi1 := (hi.put hx (by simpa using hs) (by simp [needsR]; omega) (by simpa [needsR] using hp)).1 pc0
  simp only [List.nil_append] at hi1
  obtain ⟨d2, hd2⟩ : ∃ d2, d2 = d1.flushed := ⟨_, rfl⟩
  have hf : flushD d1 = (d2, 0) := by rw [hd2]; exact if_neg pc1.up
  have hi2 : Inv d2 0 n a s [x] 1 := by rw [hd2]; exact hi1.flushed
  have hc2 : Calm d2 := by rw [hd2]; exact pc1
  have hok2 := (Tg.flushD_ok pok)
  rw [hf] at hok2
  have hn2 : d2.n = n := by have := Tg.flushD_n d1; rw [hf] at this; exact this.trans (pn.trans hdn)
  have hL2 : d2.L = none64 := by rw [hd2]; rfl
  obtain ⟨oc0, oc1⟩ := openD_calm (d := d2) (F := 0) (S := n) (a := a) (s := s) hc2 (by omega) (by omega)
  obtain ⟨r, r1, r2, r3, r4, r5, _⟩ := open_inv (hi2.att (c := d2.cur) (fun i => .inl rfl)) hL2 hc2.up (by omega)
  have hr : r = 1 := by simp at r2; omega
  subst hr
  obtain ⟨i3, l3, u3⟩ := r5 oc0
  have t1 := i3.trim (t := 1) (by simp)
  refine ⟨d1, d2, (openD d2 0 n a s).1, by rw [← hp], ?_, r3, ?_, hok2.mono (by omega), hn2, hc2, oc1, r4.trans hn2, (openD_ok hok2).mono (by omega), ?_⟩
  · unfold fluD
    rw [if_neg (fun h => h rfl), hf]
  · exact Prod.ext rfl oc0
  · simpa [needsR] using t1

theorem small_n (x : Int) (n : Nat) (hn : n ≤ 1000) : ∃ k : Nat, k ≤ n ∧ wrap64 ((IntKind.u64.wrap x).tmod ((n : Int) + 1)) = (k : Int) := by
  have h0 : 0 ≤ IntKind.u64.wrap x := by rw [IntKind.wrap_u64]; omega
  rw [Int.tmod_eq_emod_of_nonneg h0]
  have h1 := Int.emod_nonneg (IntKind.u64.wrap x) (show ((n : Int) + 1) ≠ 0 by omega)
  have h2 := Int.emod_lt_of_pos (IntKind.u64.wrap x) (show 0 < (n : Int) + 1 by omega)
  refine ⟨((IntKind.u64.wrap x) % ((n : Int) + 1)).toNat, by omega, ?_⟩
  unfold wrap64
  omega

/-- The law's own area, in a box. -/
def ArAt (w : World) (g n : Nat) : Prop := w.heap[g]? = some (.cells #[.int .i64 0, .int .i64 (n : Int)] 30 (0, 0))
theorem ArAt.lt {w : World} {g n : Nat} (h : ArAt w g n) : g < w.heap.size := (Array.getElem?_eq_some_iff.1 h).1
theorem ArAt.stay {X : Nat → Prop} {w w' : World} {g n : Nat} (h : ArAt w g n) (hs : Stay X w w') (hx : ¬ X g) : ArAt w' g n := (hs.block g h.lt hx).trans h
theorem ArAt.stay0 {w w' : World} {g n : Nat} (h : ArAt w g n) (hs : Stay (fun _ => False) w w') : ArAt w' g n := h.stay hs (fun x => x)
theorem ArAt.ty {w : World} {g n : Nat} (h : ArAt w g n) : Ty w g 30 := ⟨_, _, h⟩
theorem ArAt.new (w : World) (n : Nat) : ArAt (w.alloc (.cells #[.int .i64 0, .int .i64 (n : Int)] 30)) w.heap.size n := by
  unfold ArAt World.alloc
  simp
theorem info_ar : (Tryd.prog.info? 30).map (·.size) = some 2 := by kernel_rfl
theorem ArAt.run {w : World} {g n : Nat} (h : ArAt w g n) : (loadVar 30 ⟨g, 0, none⟩).run Tryd.prog w = .ok (.agg #[.int .i64 0, .int .i64 (n : Int)]) w :=
  run_loadVar_mid (P := Tryd.prog) w g 0 30 30 #[.int .i64 0, .int .i64 (n : Int)] #[.int .i64 0, .int .i64 (n : Int)] (0, 0) _ h Tryd.underlying30 rfl info_ar (fun j hj => by rw [Nat.zero_add])

set_option maxHeartbeats 8000000 in
theorem round_walk (w : World) (z : Int) (a0 : Option Addr) (xs : List (Value × List UInt8)) (c : Nat) (hx : Txts w a0 xs) (hg : ErrCell w) :
    Calls Tryd.prog 3 #[.int .i64 z, .slice a0 xs.length c] w fun e w' => e = .returned (.bool true) ∧ Stay (fun _ => False) w w' := by
  have HX := Lib.hid hx
  have HG := Lib.hid hg
  have hxl := hx.1
  obtain ⟨m, hm, hmw⟩ := small_n z 8 (by decide)
  have hmw : wrap64 ((IntKind.u64.wrap z).tmod 9) = (m : Int) := hmw
  obtain ⟨n, hn⟩ : ∃ n, n = 4 + m := ⟨_, rfl⟩
  have HN4 := Lib.hid (show (4 : Int) + (m : Int) = (n : Int) by omega)
  have HN := Lib.hid (show 4 ≤ n ∧ n ≤ 12 by omega)
  have HOF := Lib.hid (open_fresh n 0 n 0 1 (by omega) (by decide) (by decide))
  clear hx hg hn
  go_enter Tryd.func3, Tryd.ntmps3
  go_wp2_with fail
  rw [hmw]
  clear hmw
  go_wp2_with fail
  rw [HN4.out]
  clear hm HN4
  refine (new_at n w (by have := HN.out; omega) (by have := HN.out; omega)).mono ?_
  rintro e w1 ⟨pd, ps, pm, rfl, hd, hfr, hs1⟩
  have HD := Lib.hid hd
  have HF := Lib.hid hfr
  have HS1 := Lib.hid hs1
  have hb1 := hs1.size
  clear hd hfr hs1
  go_wp2_with fail
  obtain ⟨wA, hwA⟩ : ∃ wA, wA = w1.alloc (.cells #[.int .i64 0, .int .i64 (n : Int)] 30) := ⟨_, rfl⟩
  obtain ⟨ga, hga⟩ : ∃ ga, ga = w1.heap.size := ⟨_, rfl⟩
  have harA : ArAt wA ga n := by rw [hwA, hga]; exact ArAt.new w1 n
  have hsA : Stay (fun _ => False) w1 wA := by rw [hwA]; exact Stay.alloc _ _
  have HDA := Lib.hid (HD.out.stay hsA (fun x => x) (fun x => x) (fun x => x))
  have HSA := Lib.hid (HS1.out.trans hsA)
  have hbA := (HS1.out.trans hsA).size
  rw [← hwA, ← hga]
  have hga0 : w.heap.size ≤ ga := by omega
  clear hwA hga hsA HD
  refine (open_any wA pd ps pm (fresh n) 0 0 n 0 1 HDA.out (calm_fresh n).up (ok_fresh n) (by decide) (by have := HN.out; omega) (by show 0 + n ≤ n; omega) (by have := HN.out; omega) (by decide) (by decide)).mono ?_
  rintro e w2 ⟨hopen, hd2, hs2, _, _, _⟩
  unfold OpenR at hopen
  rw [HOF.out.2, HOF.out.1] at hopen
  rw [HOF.out.2] at hd2
  rcases hopen with ⟨_, q, v, nv, rfl, hlg, hrc, hqb, hnb⟩ | ⟨h, _⟩
  rotate_left
  · exact absurd rfl h
  obtain ⟨va, vc, rfl⟩ := hrc.form
  have HLG := Lib.hid (show LgAt w2 q pd nv ⟨0, n, 0, 1, [], 0⟩ from hlg)
  have HD2 := Lib.hid hd2
  have HAR := Lib.hid (harA.stay hs2 (fun ho => by rcases own_ty HDA.out ho harA.ty with h | h <;> exact absurd h (by decide)))
  have HS2 := Lib.hid (stay_seal (X := own pd ps pm) ((HSA.out.mono (fun _ x => x.elim)).trans hs2) (fun k hk => by
    obtain ⟨h1, h2, h3⟩ := HF.out
    rcases hk with rfl | rfl | rfl <;> assumption))
  have HQB := Lib.hid (show w.heap.size ≤ q by omega)
  have HNB := Lib.hid (show ∀ k, nv.ownBlock = some k → w.heap.size ≤ k from fun k hk => by have := hnb k hk; omega)
  clear hlg hd2 hs2 hrc hqb hnb harA
  go_wp2
  go_loopw [12, 13] (fun kv iv wr => ∃ (kk j a : Nat) (d : DS) (nv : Value), kv = .int .i64 (kk : Int) ∧ iv = .int .i64 (j : Int) ∧ j ≤ xs.length ∧ j ≤ 30 ∧ kk ≤ j ∧ Hid (a < n) ∧ Hid (Calm d) ∧ Hid (d.n = n) ∧ Hid (DOk d (100 * (j : Int))) ∧ Hid (Inv d 0 n a (kk + 1) [] 0) ∧ Hid (DevAt wr pd ps pm d) ∧ Hid (LgAt wr q pd nv ⟨0, n, a, kk + 1, [], 0⟩) ∧ Hid (ArAt wr ga n) ∧ Hid (∀ k, nv.ownBlock = some k → w.heap.size ≤ k) ∧ Hid (Stay (fun _ => False) w wr)) (fun _ i _ => xs.length - valI i)
  case atStart => exact ⟨0, 0, 0, fresh n, nv, rfl, rfl, Nat.zero_le _, Nat.zero_le _, Nat.le_refl _, Lib.hid (by have := HN.out; omega), Lib.hid (calm_fresh n), Lib.hid rfl, Lib.hid (ok_fresh n), Lib.hid (inv_fresh n 0 n 0 1 (by decide) (by decide)), HD2, HLG, HAR, HNB, HS2⟩
  case round =>
    obtain ⟨kk, j, a, d, nv, rfl, rfl, hj, hj30, hkj, HAN, HC, HDN, HOK, HIV, HDW, HLW, HAR, HNV, HST⟩ := hrel
    have SEAL := Lib.hid (show ∀ (nv : Value) W W', (∀ k, nv.ownBlock = some k → w.heap.size ≤ k) → Stay (fun _ => False) w W → Stay (mine pd ps pm q nv) W W' → Stay (fun _ => False) w W' from fun nv W W' hn h1 h2 => stay_seal ((h1.mono (fun _ x => x.elim)).trans h2) (fun k hk => by
      obtain ⟨g1, g2, g3⟩ := HF.out
      rcases hk with (rfl | rfl | rfl) | (rfl | hk)
      · exact g1
      · exact g2
      · exact g3
      · exact HQB.out
      · exact hn k hk))
    by_cases hgo : j < xs.length ∧ j < 30
    · obtain ⟨hlt, hlt30⟩ := hgo
      obtain ⟨lb, lo, ea, hlb, hcell⟩ := HX.out.2 (by omega)
      subst ea
      obtain ⟨⟨xv, x⟩, hxj⟩ : ∃ y, xs[j]? = some y := ⟨_, List.getElem?_eq_getElem hlt⟩
      obtain ⟨hcx, hsx⟩ := hcell j _ hxj
      have HCX := Lib.hid hcx
      have HSX := Lib.hid hsx
      obtain ⟨xa, xc, exv, _⟩ := id hsx
      have exv' : xv = .slice xa x.length xc := exv
      subst exv'
      have cx := HST.out.cell hcx (fun y => y)
      have hl0 : ¬ (j : Int) = 30 := by omega
      clear hcx hsx hcell
      go_wp2_with fail
      refine (need_any wr _ _).mono ?_
      rintro e w3 ⟨rfl, hs3⟩
      generalize needP (x.length : Int) ((kk : Int) + 1) = nd
      have cx3 := hs3.cell cx (fun y => y)
      have HS3 := Lib.hid (HST.out.trans hs3)
      have HD3 := Lib.hid (HDW.out.stay hs3 (fun x => x) (fun x => x) (fun x => x))
      have HL3 := Lib.hid (HLW.out.stay0 hs3)
      have HA3 := Lib.hid (HAR.out.stay0 hs3)
      clear hs3 cx
      have hok0 : Lg.Ok d.n ⟨0, n, a, kk + 1, [], 0⟩ := by
        rw [HDN.out]
        exact ok_lg (R := []) (by have := HN.out; omega) (by omega) (by have := HN.out; omega) HAN.out HIV.out
      have HRES := Lib.hid (append_any w3 pd ps pm q nv d ⟨0, n, a, kk + 1, [], 0⟩ _ x HD3.out (HOK.out.mono (by omega)) HL3.out hok0 (HSX.out.stay0 HS3.out) (apart HD3.out HL3.out))
      have hcase := appD_bad (d := d) (L := ⟨0, n, a, kk + 1, [], 0⟩) x HC.out (by show 1 ≤ n; have := HN.out; omega) (by show 0 + n ≤ d.n; rw [HDN.out]; omega) rfl
      have hnx : (⟨0, n, a, kk + 1, [], 0⟩ : Lg).nx = kk + 1 := rfl
      have hu : (⟨0, n, a, kk + 1, [], 0⟩ : Lg).u = 0 := rfl
      rw [hnx, hu] at hcase
      clear hok0 hnx hu
      rcases hcase with hap | hap | ⟨hap, hx6, hnx2, hfit⟩
      · rw [hap] at HRES
        unfold AppR at HRES
        simp only [] at HRES
        rw [errV_pos (by decide)] at HRES
        unfold Pk.errI at HRES
        clear hap
        have hnc : (¬ (0 : Int) < (nd : Int)) ∨ ((0 : Int) < (nd : Int) ∧ ¬ (nd : Int) ≤ (n : Int) - 1) ∨ ((0 : Int) < (nd : Int) ∧ (nd : Int) ≤ (n : Int) - 1) := by omega
        rcases hnc with g1 | ⟨g1, g2⟩ | ⟨g1, g2⟩
        all_goals
          go_wp2_with fail
          refine HRES.out.mono ?_
          rintro e w5 ⟨nv5, rfl, hd5, hlg5, hs5, hmv⟩
          have HD5 := Lib.hid hd5
          have HL5 := Lib.hid hlg5
          have HA5 := Lib.hid (HA3.out.stay hs5 (mine_ty HD3.out HL3.out HA3.out.ty (by decide) (by decide) (by decide) (by decide)))
          have HS5 := Lib.hid (SEAL.out nv _ _ HNV.out HS3.out hs5)
          have HN5 := Lib.hid (show ∀ k, nv5.ownBlock = some k → w.heap.size ≤ k from fun k hk => by
            rcases hmv with h | ⟨k', h, hk'⟩
            · exact HNV.out k (h ▸ hk)
            · rw [h] at hk
              have := Option.some.inj hk
              have := HS3.out.size
              omega)
          clear hd5 hlg5 hs5 hmv cx3
          have hst : Stay (fun _ => False) w5 w5 := Stay.refl _ _
          go_wp2_with (first
            | (go_at_call 9
               refine (Pk.num_any 2 _ (Pk.ErrCell.stay0 HG.out (HS5.out.trans hst)) _ (by rfl)).mono ?_
               rintro e z ⟨rfl, s⟩
               replace hst := hst.trans s
               clear s)
            | fail)
          all_goals exact ⟨⟨kk, j + 1, a, d, nv5, rfl, by go_num, by omega, by omega, by omega, HAN, HC, HDN, Lib.hid (HOK.out.mono (by omega)), HIV, Lib.hid (HD5.out.stay hst (fun x => x) (fun x => x) (fun x => x)), Lib.hid (HL5.out.stay0 hst), Lib.hid (HA5.out.stay0 hst), HN5, Lib.hid (HS5.out.trans hst)⟩, by simp [valI]; omega⟩
      · rw [hap] at HRES
        unfold AppR at HRES
        simp only [] at HRES
        rw [errV_pos (by decide)] at HRES
        unfold Pk.errI at HRES
        clear hap
        have hnc : (¬ (0 : Int) < (nd : Int)) ∨ ((0 : Int) < (nd : Int) ∧ ¬ (nd : Int) ≤ (n : Int) - 1) ∨ ((0 : Int) < (nd : Int) ∧ (nd : Int) ≤ (n : Int) - 1) := by omega
        rcases hnc with g1 | ⟨g1, g2⟩ | ⟨g1, g2⟩
        all_goals
          go_wp2_with fail
          refine HRES.out.mono ?_
          rintro e w5 ⟨nv5, rfl, hd5, hlg5, hs5, hmv⟩
          have HD5 := Lib.hid hd5
          have HL5 := Lib.hid hlg5
          have HA5 := Lib.hid (HA3.out.stay hs5 (mine_ty HD3.out HL3.out HA3.out.ty (by decide) (by decide) (by decide) (by decide)))
          have HS5 := Lib.hid (SEAL.out nv _ _ HNV.out HS3.out hs5)
          have HN5 := Lib.hid (show ∀ k, nv5.ownBlock = some k → w.heap.size ≤ k from fun k hk => by
            rcases hmv with h | ⟨k', h, hk'⟩
            · exact HNV.out k (h ▸ hk)
            · rw [h] at hk
              have := Option.some.inj hk
              have := HS3.out.size
              omega)
          clear hd5 hlg5 hs5 hmv cx3
          have hst : Stay (fun _ => False) w5 w5 := Stay.refl _ _
          go_wp2_with (first
            | (go_at_call 9
               refine (Pk.num_any 10 _ (Pk.ErrCell.stay0 HG.out (HS5.out.trans hst)) _ (by rfl)).mono ?_
               rintro e z ⟨rfl, s⟩
               replace hst := hst.trans s
               clear s)
            | fail)
          all_goals exact ⟨⟨kk, j + 1, a, d, nv5, rfl, by go_num, by omega, by omega, by omega, HAN, HC, HDN, Lib.hid (HOK.out.mono (by omega)), HIV, Lib.hid (HD5.out.stay hst (fun x => x) (fun x => x) (fun x => x)), Lib.hid (HL5.out.stay0 hst), Lib.hid (HA5.out.stay0 hst), HN5, Lib.hid (HS5.out.trans hst)⟩, by simp [valI]; omega⟩
      · obtain ⟨d1, d2, d3, e1, e2, e3, e4, ok2, n2, c2, c3, n3, ok3, iv3⟩ := round_plain (x := x) (by have := HN.out; omega) HAN.out HC.out HDN.out HOK.out HIV.out hx6 hnx2 (by simp only [] at hfit; omega)
        simp only [List.nil_append] at hap
        rw [← e1] at hap
        rw [hap] at HRES
        unfold AppR at HRES
        simp only [] at HRES
        rw [errV_zero] at HRES
        rw [show ((kk + 1 : Nat) : Int) = (kk : Int) + 1 by omega] at HRES
        have E2 := Lib.hid e2
        have E3 := Lib.hid e3
        have E4 := Lib.hid e4
        have OK2 := Lib.hid (show DOk d2 100000 from ok2.mono (by have := HN.out; omega))
        have N2 := Lib.hid n2
        have C2 := Lib.hid c2
        have C3 := Lib.hid c3
        have N3 := Lib.hid n3
        have OK3 := Lib.hid (show DOk d3 (100 * ((j : Int) + 1)) from ok3.mono (by have := HN.out; omega))
        have IV3 := Lib.hid iv3
        have HFIT := Lib.hid (show needL (kk + 1) x ≤ n by simp only [] at hfit; omega)
        clear hap hx6 hnx2 hfit e1 e2 e3 e4 ok2 n2 c2 c3 n3 ok3 iv3
        go_wp2_with fail
        refine HRES.out.mono ?_
        rintro e w5 ⟨nv5, rfl, hd5, hlg5, hs5, hmv⟩
        have HD5 := Lib.hid hd5
        have HL5 := Lib.hid hlg5
        have HA5 := Lib.hid (HA3.out.stay hs5 (mine_ty HD3.out HL3.out HA3.out.ty (by decide) (by decide) (by decide) (by decide)))
        have HS5 := Lib.hid (SEAL.out nv _ _ HNV.out HS3.out hs5)
        have HN5 := Lib.hid (show ∀ k, nv5.ownBlock = some k → w.heap.size ≤ k from fun k hk => by
          rcases hmv with h | ⟨k', h, hk'⟩
          · exact HNV.out k (h ▸ hk)
          · rw [h] at hk
            have := Option.some.inj hk
            have := HS3.out.size
            omega)
        clear hd5 hlg5 hs5 hmv cx3
        go_wp2_with fail
        have HFL := flush_any w5 pd ps pm q nv5 d1 ⟨0, n, a, kk + 1, [needL (kk + 1) x], 0⟩ HD5.out HL5.out (apart HD5.out HL5.out)
        rw [E2.out] at HFL
        simp only [] at HFL
        rw [errV_zero] at HFL
        refine HFL.mono ?_
        rintro e w6 ⟨rfl, hd6, hlg6, hs6⟩
        have HD6 := Lib.hid hd6
        have HL6 := Lib.hid hlg6
        have HA6 := Lib.hid (HA5.out.stay hs6 (mine_ty HD5.out HL5.out HA5.out.ty (by decide) (by decide) (by decide) (by decide)))
        have HS6 := Lib.hid (SEAL.out nv5 _ _ HN5.out HS5.out hs6)
        clear hd6 hlg6 hs6 HFL
        go_wp2_with fail
        refine (at_any HL6.out).mono ?_
        rintro e w7 ⟨rfl, hs7⟩
        have HD7 := Lib.hid (HD6.out.stay hs7 (fun x => x) (fun x => x) (fun x => x))
        have HL7 := Lib.hid (HL6.out.stay0 hs7)
        have HA7 := Lib.hid (HA6.out.stay0 hs7)
        have HS7 := Lib.hid (HS6.out.trans hs7)
        have ra0 : w7.cell? ⟨ga, 0, none⟩ = some (.int .i64 0) := by rw [cell_of_row w7 ga 0 _ _ _ HA7.out]; rfl
        have ra1 : w7.cell? ⟨ga, 1, none⟩ = some (.int .i64 (n : Int)) := by rw [cell_of_row w7 ga 1 _ _ _ HA7.out]; rfl
        clear hs7
        simp only []
        rw [show ((kk + 1 : Nat) : Int) = (kk : Int) + 1 by omega]
        go_wp2_with fail
        have hop := open_any w7 pd ps pm d2 100000 0 n a (kk + 1) HD7.out C2.out.up OK2.out (by decide) (by have := HN.out; omega) (by rw [N2.out]; omega) HAN.out (by omega) (by omega)
        rw [E3.out, E4.out] at hop
        simp only [] at hop
        rw [show ((kk + 1 : Nat) : Int) = (kk : Int) + 1 by omega] at hop
        refine hop.mono ?_
        rintro e w8 ⟨hopen, hd8, hs8, _, _, _⟩
        unfold OpenR at hopen
        rcases hopen with ⟨_, q2, v2, nv2, rfl, _, hrc, _, _⟩ | ⟨h, _⟩
        rotate_left
        · exact absurd rfl h
        obtain ⟨ra8, rc8, rfl⟩ := hrc.form
        have HD8 := Lib.hid hd8
        have hap7 := apart HD7.out HL7.out
        have HL8 := Lib.hid (HL7.out.stay hs8 (hap7 _ (.inl rfl)) (fun k hk => hap7 _ (.inr hk)))
        have HA8 := Lib.hid (HA7.out.stay hs8 (fun ho => by rcases own_ty HD7.out ho HA7.out.ty with h | h <;> exact absurd h (by decide)))
        have HS8 := Lib.hid (SEAL.out nv5 _ _ HN5.out HS7.out (hs8.mono (fun _ h => .inl h)))
        have hrc' : RcO w7.heap.size w8 (.slice ra8 1 rc8) (kk + 1) [x] := hrc
        have HRC := Lib.hid hrc'
        have cx8 := HS8.out.cell HCX.out (fun y => y)
        clear ra0 ra1 hop hd8 hs8 hrc hrc' hap7
        obtain ⟨gr, gc, gu, ev, r0, r1, hou⟩ := HRC.out.at (i := 0) rfl
        cases ev
        rw [show ((kk + 1 + 0 : Nat) : Int) = (kk : Int) + 1 by omega] at r0
        have r0 : w8.cell? ⟨gr, 0, none⟩ = some (.int .i64 ((kk : Int) + 1)) := r0
        have r1 : w8.cell? ⟨gr, 1, none⟩ = some gu := r1
        have e1 : (j : Int) < (xs.length : Int) := by omega
        have cv := fun n => Pk.conv_slc (hou.slc.stay0 (Stay.drewN (X := fun _ => False) w8 n))
        have cw := fun n => Pk.conv_slc ((HSX.out.stay0 HS8.out).stay0 (Stay.drewN (X := fun _ => False) w8 n))
        unfold Pk.strV at cv cw
        go_wp2_with fail
        go_quiet (fail)
        have HS9 := Lib.hid (HS8.out.trans (Stay.drewN (X := fun _ => False) w8 nq))
        have HD9 := Lib.hid (HD8.out.stay (Stay.drewN (X := fun _ => False) w8 nq) (fun x => x) (fun x => x) (fun x => x))
        have HL9 := Lib.hid (HL8.out.stay0 (Stay.drewN w8 nq))
        have HA9 := Lib.hid (HA8.out.stay0 (Stay.drewN w8 nq))
        clear cv cw r0 r1 hou e1 cx8
        generalize w8.drewN nq = w9 at *
        have T1 : trimL ⟨0, n, a, kk + 1, [needL (kk + 1) x], 0⟩ (kk + 1 + 1) = (⟨0, n, (a + needL (kk + 1) x) % n, kk + 1 + 1, [], 0⟩, 0) := by
          have := trimL_ok (F := 0) (S := n) (a := a) (s := kk + 1) (R := [x]) (k := 1) (by simp)
          simpa [needsR] using this
        have hok1 : Lg.Ok n ⟨0, n, a, kk + 1, [needL (kk + 1) x], 0⟩ := by
          have h1 := len_le_needs [x] (kk + 1)
          simp only [needsR, List.length_singleton, List.sum_cons, List.sum_nil] at h1
          have h2 := HFIT.out
          have h3 := HN.out
          exact ⟨by show 2 ≤ n; omega, by show 0 + n ≤ n; omega, by omega, HAN.out, by unfold Lg.u; simpa using h2, by show 1 ≤ kk + 1; omega, by show kk + 1 + 1 ≤ 1099511627777; omega, by unfold Lg.u; simpa using h1⟩
        have HT := trim_any w9 q pd n nv5 _ (kk + 1 + 1) HL9.out hok1 (by omega)
        rw [T1, errV_zero, show ((kk + 1 + 1 : Nat) : Int) = (kk : Int) + 1 + 1 by omega] at HT
        have HT := Lib.hid HT
        clear T1 hok1
        go_wp2_with fail
        refine HT.out.mono ?_
        rintro e w10 ⟨nv10, rfl, hl10, ho10, hs10⟩
        have hap9 := apart HD9.out HL9.out
        have HD10 := Lib.hid (HD9.out.stay hs10 (fun h => hap9 _ h (.inl rfl)) (fun h => hap9 _ h (.inr (.inl rfl))) (fun h => hap9 _ h (.inr (.inr rfl))))
        have HL10 := Lib.hid hl10
        have HA10 := Lib.hid (HA9.out.stay hs10 (fun h => mine_ty HD9.out HL9.out HA9.out.ty (by decide) (by decide) (by decide) (by decide) (.inr h)))
        have HS10 := Lib.hid (SEAL.out nv5 _ _ HN5.out HS9.out (hs10.mono (fun _ h => .inr h)))
        have HN10 := Lib.hid (show ∀ k, nv10.ownBlock = some k → w.heap.size ≤ k from fun k hk => HN5.out k (ho10 ▸ hk))
        clear hl10 ho10 hs10 hap9
        have hfr := free_any HL10.out (Nat.zero_le _) (by show n ≤ 16384; have := HN.out; omega)
        have hfn : ((⟨0, n, (a + needL (kk + 1) x) % n, kk + 1 + 1, [], 0⟩ : Lg).S - (⟨0, n, (a + needL (kk + 1) x) % n, kk + 1 + 1, [], 0⟩ : Lg).u) = n := Nat.sub_zero n
        rw [hfn] at hfr
        have HFR := Lib.hid hfr
        clear hfr hfn
        go_wp2_with fail
        refine HFR.out.mono ?_
        rintro e w11 ⟨rfl, hs11⟩
        have HD11 := Lib.hid (HD10.out.stay hs11 (fun x => x) (fun x => x) (fun x => x))
        have HL11 := Lib.hid (HL10.out.stay0 hs11)
        have HA11 := Lib.hid (HA10.out.stay0 hs11)
        have HS11 := Lib.hid (HS10.out.trans hs11)
        clear hs11
        go_wp2
        exact ⟨⟨kk + 1, j + 1, (a + needL (kk + 1) x) % n, d3, nv10, by go_num, by go_num, by omega, by omega, by omega, Lib.hid (Nat.mod_lt _ (by have := HN.out; omega)), C3, N3, OK3, IV3, HD11, HL11, HA11, HN10, HS11⟩, by simp [valI]; omega⟩
    · have hjj : (¬ (j : Int) < (xs.length : Int)) ∨ ((j : Int) < (xs.length : Int) ∧ ¬ (j : Int) < 30) := by omega
      rcases hjj with h1 | ⟨h1, h2⟩
      all_goals
        go_wp2_with fail
        refine (sure_any wr).mono ?_
        rintro e w12 ⟨rfl, hs12⟩
        have HSE := Lib.hid (HST.out.trans hs12)
        clear hs12
        go_wp2
        go_ret
        exact ⟨rfl, HSE.out⟩
  all_goals skip
  done
end Go.Proofs.YthbcgimmbcdnmaaDoor.Lo

/-
  LogRound answers true for every input, and each argument reads afterwards as it read before; errors.errorType stands as the program's text lays it (the card ties it).
-/
namespace Go.Proofs.YthbcgimmbcdnmaaDoor
open Go.ChangeShapes Go.WideShapes Go.ChangeAt Go.RowKit
set_option maxRecDepth 100000

theorem logRound_lifted (os : Os) (started : os.Started) (H : Type) (enc : TypeId × Value → H) :
    ReturnsInHanded {} Tryd.checked os 3 .any (fun w args => (Rows.logRoundSpec.pre enc Tryd.prog Tryd.f3 [] false w args ∧ laidMetH Tryd.prog Pk.laidErr w) ∧ sizedMet enc Tryd.prog Tryd.f3 (OpenSpec.ofChange Rows.logRoundSpec) false w args)
      (Rows.logRoundSpec.post enc Tryd.prog Tryd.f3 false true false false) := by
  refine returnsInHanded_of_change_and (C := Tryd.checked) (X := fun w _ => laidMetH Tryd.prog Pk.laidErr w) (fun _ _ _ hh h => h.of_heap hh) Tryd.own started (by kernel_rfl) Tryd.func3
    (ChangeSpec.witness_at (enc := enc) (C := Tryd.checked) (os := os) (X := fun w _ => laidMetH Tryd.prog Pk.laidErr w) false (Pk.laidWorld os) #[.int .i64 0, .slice none 0 0] 8 rfl (by kernel_rfl) (by kernel_rfl) (by kernel_rfl) (by kernel_rfl) (by kernel_rfl) (Pk.laidWorld_met os _)) ?_
  intro W base args ds gs before hval0 hW _ hsz hL _
  have hval : ∀ (j : Nat) t v, Tryd.f3.params[j]? = some t → args[j]? = some v → Value.okWide Tryd.prog W .any base t v := hval0
  have hW' := hW
  obtain ⟨p, q, hA0, hV0, rfl, hfz, hnd⟩ := hW
  have hA : DataW.TrodAll enc Tryd.prog W 0 (fun _ => true) true Tryd.f3.params.toList args.toList ds p := hA0
  have hAk := hA
  have hV : DataW.TrodVars enc Tryd.prog W (fun _ => true) [] gs q := hV0
  rw [Tryd.params3] at hA hval
  obtain ⟨v0, v1, d0, d1, p0, p1, rfl, rfl, rfl, h0, h1⟩ := trodAll_two hA
  obtain ⟨z0, rfl, rfl, rfl, wz0⟩ := open_int Tryd.underlying3 (hval 0 3 v0 rfl rfl) h0
  obtain ⟨a1, m1, c1, rfl⟩ := okWide_slice Tryd.underlying22 (hval 1 22 v1 rfl rfl)
  obtain ⟨x1, rfl, hx1⟩ := Lo.open_txts h1
  have hg := Pk.err_of_laid hL
  obtain ⟨rfl, rfl⟩ : gs = [] ∧ q = [] := by
    cases gs with
    | nil => exact ⟨rfl, hV⟩
    | cons g r => exact absurd hV (by intro h; cases h)
  simp only [List.append_nil] at hW' hAk
  refine (Lo.round_walk W z0 a1 x1 c1 hx1 hg).mono fun e W' ⟨he, hst⟩ => ?_
  subst he
  exact ⟨_, rfl, law_post Tryd.laidOut hW' hAk (fun t ht => by
      rw [Tryd.params3] at ht
      simp at ht
      rcases ht with rfl | rfl <;> exact ⟨by kernel_rfl, of_decide_eq_true (by kernel_rfl)⟩) rfl rfl rfl rfl (by kernel_rfl) Tryd.underlying4 (hst.toBelow (Nat.le_refl _) (fun _ x => x.elim))⟩

theorem logRound_row : Rows.LogRoundSaid :=
  OpenClaim.holds_of_wide 3 Tryd.f3 rfl rfl rfl rfl rfl rfl rfl ⟨rfl, rfl, rfl, rfl, rfl⟩ rfl rfl rfl rfl rfl (by kernel_rfl) Tryd.func3 (by kernel_rfl)
    (of_decide_eq_true (by kernel_rfl)) (by unfold Func.isWrapper; rw [if_neg (of_decide_eq_false (by kernel_rfl))]; exact ⟨rfl, rfl⟩)
    (fun os started H enc _ => logRound_lifted os started H enc)

theorem logRound_holds : Rows.LogRoundCardSaid :=
  Claim7.holds_tied_plain_at .later [] [.handle] true _ true
    logRound_row (fun _ h => by cases h) (by kernel_rfl) (fun _ h => by cases h) logRound_row_tie rfl ⟨rfl, rfl⟩ (by kernel_rfl) rfl
    (fun f fn hf hfn => by
      obtain rfl : f = 3 := Option.some.inj ((show Tryd.prog.funcNamed "drydock/drydocklaw16.LogRound" = some 3 by kernel_rfl).symm.trans hf) |>.symm
      obtain rfl : fn = Tryd.f3 := (Option.some.inj (Tryd.func3.symm.trans hfn)).symm
      exact ⟨by kernel_rfl, fun j t ht => by
        rw [Tryd.params3] at ht
        have h3 : t = 3 ∨ t = 22 := by
          rcases j with _ | _ | j
          · exact .inl (by simpa using ht.symm)
          · exact .inr (by simpa using ht.symm)
          · simp at ht
        rcases h3 with rfl | rfl
        · exact (show Tryd.prog.wantsStandIn 3 = false by kernel_rfl)
        · exact (show Tryd.prog.wantsStandIn 22 = false by kernel_rfl)⟩)
    (by kernel_rfl)

end Go.Proofs.YthbcgimmbcdnmaaDoor

