/-
  log, plain: a record's bytes and its sectors; what is read of sectors; which records lie from a sector on.
-/
import Derived.Test.YthbcgimmbcdnmaaDoorTgB
import Derived.Test.YthbcgimmbcdnmaaDoorHnCp
namespace Go.Proofs.YthbcgimmbcdnmaaDoor.Lo
open Go.RowKit
open Pk (spellB bytesB takeB numB textB RS)
open Tg (writeD flushD down DOk)
set_option maxRecDepth 100000
set_option linter.unusedVariables false

/-- A record's bytes. -/
def recB (s : Nat) (x : List UInt8) : List UInt8 := Hn.sealB (spellB s ++ bytesB x)
/-- How many sectors so many bytes take. -/
def secs (n : Nat) : Nat := (n + 55) / 56
def needL (s : Nat) (x : List UInt8) : Nat := secs (recB s x).length
def needN (n s : Nat) : Nat := secs ((spellB s).length + (spellB n).length + n + 4)
theorem len_recB (s : Nat) (x : List UInt8) : (recB s x).length = (spellB s).length + (spellB x.length).length + x.length + 4 := by
  simp [recB, Hn.length_sealB, bytesB]
  omega
theorem needL_eq (s : Nat) (x : List UInt8) : needL s x = needN x.length s := by rw [needL, len_recB, needN]
theorem recB_long (s : Nat) (x : List UInt8) : 6 ≤ (recB s x).length := by
  rw [len_recB, Pk.length_spellB, Pk.length_spellB]
  omega
theorem needL_pos (s : Nat) (x : List UInt8) : 1 ≤ needL s x := by
  have := recB_long s x
  unfold needL secs
  omega
theorem secs_lt {n k : Nat} : k < secs n ↔ 56 * k < n := by unfold secs; omega
theorem needN_le {n s : Nat} (hn : n ≤ 65536) : needN n s ≤ 1200 := by
  have h1 := Pk.len_spell n
  have h2 := Pk.len_spell s
  unfold needN secs
  omega

/-- A number's tag. -/
def tagB (s : Nat) : List UInt8 := (List.range 8).map fun i => UInt8.ofNat (s / 256 ^ (7 - i))
theorem len_tagB (s : Nat) : (tagB s).length = 8 := by simp [tagB]
theorem tagB_lit (s : Nat) : tagB s = [UInt8.ofNat (s / 72057594037927936), UInt8.ofNat (s / 281474976710656), UInt8.ofNat (s / 1099511627776), UInt8.ofNat (s / 4294967296), UInt8.ofNat (s / 16777216), UInt8.ofNat (s / 65536), UInt8.ofNat (s / 256), UInt8.ofNat s] := by
  simp [tagB, List.range_succ]
theorem ofNat_eq {a b : Nat} (h : UInt8.ofNat a = UInt8.ofNat b) : a % 256 = b % 256 := by
  have := congrArg UInt8.toNat h
  simpa using this
theorem tagB_inj {s t : Nat} (hs : s < 18446744073709551616) (ht : t < 18446744073709551616) (h : tagB s = tagB t) : s = t := by
  rw [tagB_lit, tagB_lit] at h
  simp only [List.cons.injEq, and_true] at h
  obtain ⟨h7, h6, h5, h4, h3, h2, h1, h0⟩ := h
  have e7 := ofNat_eq h7
  have e6 := ofNat_eq h6
  have e5 := ofNat_eq h5
  have e4 := ofNat_eq h4
  have e3 := ofNat_eq h3
  have e2 := ofNat_eq h2
  have e1 := ofNat_eq h1
  have e0 := ofNat_eq h0
  clear h7 h6 h5 h4 h3 h2 h1 h0
  omega

/-- Part number k of a record's bytes, and the sector that has it. -/
def piece (l : List UInt8) (k : Nat) : List UInt8 := (l.drop (56 * k)).take 56
theorem length_piece (l : List UInt8) (k : Nat) : (piece l k).length = min 56 (l.length - 56 * k) := by simp [piece]
def rawB (s : Nat) (l : List UInt8) (k : Nat) : List UInt8 := tagB s ++ piece l k
theorem len_rawB (s : Nat) (l : List UInt8) (k : Nat) : (rawB s l k).length ≤ 64 := by
  rw [rawB, List.length_append, len_tagB, length_piece]
  omega
def secB (s : Nat) (x : List UInt8) (k : Nat) : List UInt8 := pad (rawB s (recB s x) k)
theorem len_secB (s : Nat) (x : List UInt8) (k : Nat) : (secB s x k).length = 64 := length_pad (len_rawB _ _ _)
theorem pad_take8 (s : Nat) (l : List UInt8) (k : Nat) : (pad (rawB s l k)).take 8 = tagB s := by
  unfold pad rawB
  rw [List.append_assoc, List.take_left' (len_tagB s)]
theorem pad_drop8 (s : Nat) (l : List UInt8) (k : Nat) : (pad (rawB s l k)).drop 8 = piece l k ++ List.replicate (56 - (piece l k).length) 0 := by
  unfold pad rawB
  rw [List.append_assoc, List.drop_left' (len_tagB s), List.length_append, len_tagB, show 64 - (8 + (piece l k).length) = 56 - (piece l k).length by omega]
theorem secB_tag (s : Nat) (x : List UInt8) (k : Nat) : (secB s x k).take 8 = tagB s := pad_take8 _ _ _
theorem tag_zero : (zsec.take 8 : List UInt8) = tagB 0 := by decide

/-- What stands behind the tags of sectors, as long as they have this one. -/
def takeT (s : Nat) : List (List UInt8) → List UInt8
  | [] => []
  | b :: bs => if b.take 8 = tagB s then b.drop 8 ++ takeT s bs else []
/-- Blocks that a record's bytes take, all of them or some. -/
def laidK (s : Nat) (l : List UInt8) (ks : List Nat) : List (List UInt8) := ks.map fun k => pad (rawB s l k)
def laid (s : Nat) (x : List UInt8) : List (List UInt8) := (List.range (needL s x)).map (secB s x)
theorem len_laid (s : Nat) (x : List UInt8) : (laid s x).length = needL s x := by simp [laid]
theorem takeT_laid (s : Nat) (bs : List (List UInt8)) : ∀ (j : Nat) (l : List UInt8), takeT s (((List.range j).map fun k => pad (rawB s l k)) ++ bs) = ((List.range j).map fun k => (pad (rawB s l k)).drop 8).flatten ++ takeT s bs
  | 0, l => by simp
  | j + 1, l => by
    have e : ∀ k, pad (rawB s l (k + 1)) = pad (rawB s (l.drop 56) k) := fun k => by
      simp only [rawB, piece, List.drop_drop]
      rw [show 56 * (k + 1) = 56 + 56 * k by omega]
    rw [List.range_succ_eq_map, List.map_cons, List.map_map, List.map_cons, List.map_map, List.cons_append]
    show (if (pad (rawB s l 0)).take 8 = tagB s then _ else _) = _
    rw [if_pos (pad_take8 s l 0), List.flatten_cons, List.append_assoc]
    congr 1
    have := takeT_laid s bs j (l.drop 56)
    simp only [Function.comp_def, Nat.succ_eq_add_one, e]
    exact this
/-- Parts that are all full, one behind the other. -/
theorem flat_pieces (s : Nat) : ∀ (j : Nat) (l : List UInt8), 56 * j ≤ l.length → ((List.range j).map fun k => (pad (rawB s l k)).drop 8).flatten = l.take (56 * j)
  | 0, l, h => by simp
  | j + 1, l, h => by
    rw [List.range_succ, List.map_append, List.flatten_append, flat_pieces s j l (by omega)]
    simp only [List.map_cons, List.map_nil, List.flatten_cons, List.flatten_nil, List.append_nil]
    rw [pad_drop8, length_piece, show 56 - min 56 (l.length - 56 * j) = 0 by omega, List.replicate_zero, List.append_nil, piece, show 56 * (j + 1) = 56 * j + 56 by omega, List.take_add]
/-- All parts of a text, and noughts behind it. -/
theorem flat_all (s : Nat) (l : List UInt8) : ∃ r, ((List.range (secs l.length)).map fun k => (pad (rawB s l k)).drop 8).flatten = l ++ r := by
  by_cases h0 : l.length = 0
  · have : l = [] := List.eq_nil_of_length_eq_zero h0
    subst this
    exact ⟨_, (List.nil_append _).symm⟩
  obtain ⟨j, hj⟩ : ∃ j, secs l.length = j + 1 := ⟨secs l.length - 1, by unfold secs; omega⟩
  have h1 : 56 * j < l.length := secs_lt.1 (by omega)
  have h2 : ¬ 56 * (j + 1) < l.length := fun h => by have := secs_lt.2 h; omega
  refine ⟨List.replicate (56 - (piece l j).length) 0, ?_⟩
  rw [hj, List.range_succ, List.map_append, List.flatten_append, flat_pieces s j l (by omega)]
  simp only [List.map_cons, List.map_nil, List.flatten_cons, List.flatten_nil, List.append_nil]
  rw [pad_drop8, ← List.append_assoc]
  congr 1
  unfold piece
  rw [List.take_of_length_le (i := 56) (by rw [List.length_drop]; omega), List.take_append_drop]

/-- The data of the record with a number that bytes begin with. -/
def tellR (s : Nat) (b : List UInt8) : Option (List UInt8) :=
  if (takeB (textB 65536) [] (takeB (numB 1099511627776) 0 ⟨b, 0⟩).2).2.err = 0 ∧ (recB s (takeB (textB 65536) [] (takeB (numB 1099511627776) 0 ⟨b, 0⟩).2).1) <+: b then
    some (takeB (textB 65536) [] (takeB (numB 1099511627776) 0 ⟨b, 0⟩).2).1 else none
theorem tell_none {s : Nat} : tellR s [] = none := by
  unfold tellR
  rw [if_neg]
  rintro ⟨_, h⟩
  have h1 := h.length_le
  have := recB_long s (takeB (textB 65536) [] (takeB (numB 1099511627776) 0 ⟨[], 0⟩).2).1
  have h2 : (recB s (takeB (textB 65536) [] (takeB (numB 1099511627776) 0 ⟨[], 0⟩).2).1).length ≤ 0 := h1
  omega
theorem tell_some {s : Nat} {b x : List UInt8} (h : tellR s b = some x) : recB s x <+: b ∧ x.length ≤ 65536 := by
  unfold tellR at h
  split at h
  · rename_i hc
    have hx := Option.some.inj h
    obtain ⟨h1, h2⟩ := hc
    rw [hx] at h2
    refine ⟨h2, ?_⟩
    by_cases h0 : (takeB (numB 1099511627776) 0 ⟨b, 0⟩).2.err = 0
    · cases hr : textB 65536 (takeB (numB 1099511627776) 0 ⟨b, 0⟩).2.b with
      | error c =>
        rw [Pk.takeB_error h0 hr] at h1
        have := Pk.textB_codes hr
        have h1' : c = 0 := h1
        omega
      | ok v =>
        obtain ⟨t, r⟩ := v
        rw [Pk.takeB_ok h0 hr] at hx
        have hx' : t = x := hx
        subst hx'
        unfold textB at hr
        rw [if_neg (by omega)] at hr
        cases hn : numB Pk.M64 (takeB (numB 1099511627776) 0 ⟨b, 0⟩).2.b with
        | error c => rw [hn] at hr; cases hr
        | ok v =>
          obtain ⟨n, r0⟩ := v
          rw [hn] at hr
          simp only [] at hr
          split at hr
          · cases hr
          · split at hr
            · cases hr
            · cases hr
              rw [List.length_take]
              omega
    · rw [Pk.takeB_bad h0] at h1
      exact absurd h1 h0
  · cases h
theorem tell_rec {s : Nat} {x r : List UInt8} (hs : s ≤ 1099511627776) (hx : x.length ≤ 65536) : tellR s (recB s x ++ r) = some x := by
  obtain ⟨q, hq⟩ : ∃ q, recB s x ++ r = spellB s ++ (bytesB x ++ q) := ⟨Hn.tailB (Hn.moreN 1 (spellB s ++ bytesB x)) ++ r, by simp [recB, Hn.sealB]⟩
  have e1 : takeB (numB 1099511627776) 0 (⟨recB s x ++ r, 0⟩ : RS) = (s, ⟨bytesB x ++ q, 0⟩) := by
    rw [hq]
    exact Pk.takeB_ok rfl (Pk.num_spell (by omega) hs _)
  have e2 : takeB (textB 65536) [] (⟨bytesB x ++ q, 0⟩ : RS) = (x, ⟨q, 0⟩) := by
    refine Pk.takeB_ok rfl ?_
    show textB 65536 (bytesB x ++ q) = _
    unfold bytesB
    rw [List.append_assoc]
    have hn : numB Pk.M64 (spellB x.length ++ (x ++ q)) = .ok (x.length, x ++ q) := Pk.num_spell (by omega) (by unfold Pk.M64; omega) _
    rw [Pk.textB_ok (by omega) hn (by omega) (by rw [List.length_append]; omega)]
    rw [List.take_left', List.drop_left'] <;> rfl
  unfold tellR
  rw [e1, e2]
  exact if_pos ⟨rfl, List.prefix_append _ _⟩
/-- Bytes that are cut short ahead of their end tell of no record. -/
theorem tell_torn {s : Nat} {x : List UInt8} (hs : s ≤ 1099511627776) (hx : x.length ≤ 65536) {j : Nat} (hj : j < needL s x) : tellR s ((recB s x).take (56 * j)) = none := by
  have hlt : 56 * j < (recB s x).length := secs_lt.1 hj
  cases j with
  | zero => simpa using tell_none
  | succ j =>
    cases ht : tellR s ((recB s x).take (56 * (j + 1))) with
    | none => rfl
    | some y =>
      exfalso
      obtain ⟨⟨r, hr⟩, hy⟩ := tell_some ht
      have h2 : tellR s (recB s x ++ []) = some x := tell_rec hs hx
      have h3 : recB s y ++ (r ++ (recB s x).drop (56 * (j + 1))) = recB s x ++ [] := by rw [← List.append_assoc, hr, List.take_append_drop, List.append_nil]
      have h4 := tell_rec (r := r ++ (recB s x).drop (56 * (j + 1))) hs hy
      rw [h3, h2] at h4
      cases h4
      have h5 := congrArg List.length hr
      rw [List.length_append, List.length_take] at h5
      omega

/-- The records that lie in sectors, from the first of them on, the first with this number. -/
def scan : Nat → Nat → List (List UInt8) → List (List UInt8)
  | 0, _, _ => []
  | f + 1, s, bs => if 1099511627776 < s then [] else match tellR s (takeT s bs) with
    | none => []
    | some x => x :: scan f (s + 1) (bs.drop (needL s x))
theorem scan_succ (f s : Nat) (bs : List (List UInt8)) : scan (f + 1) s bs = if 1099511627776 < s then [] else match tellR s (takeT s bs) with
    | none => []
    | some x => x :: scan f (s + 1) (bs.drop (needL s x)) := rfl
theorem takeT_len (s : Nat) : ∀ (bs : List (List UInt8)), (∀ b ∈ bs, b.length = 64) → (takeT s bs).length ≤ 56 * bs.length
  | [], _ => by simp [takeT]
  | b :: bs, h => by
    unfold takeT
    split
    · rw [List.length_append, List.length_drop, h b (List.mem_cons_self ..), List.length_cons]
      have := takeT_len s bs (fun c hc => h c (List.mem_cons_of_mem _ hc))
      omega
    · simp
theorem tell_need {s : Nat} {bs : List (List UInt8)} {x : List UInt8} (hb : ∀ b ∈ bs, b.length = 64) (h : tellR s (takeT s bs) = some x) : needL s x ≤ bs.length := by
  obtain ⟨h1, _⟩ := tell_some h
  have h2 := h1.length_le
  have h3 := takeT_len s bs hb
  unfold needL secs
  omega
theorem scan_laid {f s : Nat} {x : List UInt8} {bs : List (List UInt8)} (hs : s ≤ 1099511627776) (hx : x.length ≤ 65536) : scan (f + 1) s (laid s x ++ bs) = x :: scan f (s + 1) bs := by
  have e1 : takeT s (laid s x ++ bs) = ((List.range (secs (recB s x).length)).map fun k => (pad (rawB s (recB s x) k)).drop 8).flatten ++ takeT s bs := takeT_laid s bs _ _
  obtain ⟨r, hr⟩ := flat_all s (recB s x)
  rw [hr, List.append_assoc] at e1
  rw [scan_succ, if_neg (by omega), e1, tell_rec hs hx]
  simp only []
  rw [List.drop_left' (len_laid s x)]
/-- There is none where the first of these sectors has another tag, or there is no sector. -/
theorem scan_stop {f s : Nat} {bs : List (List UInt8)} (h : ∀ b, bs.head? = some b → b.take 8 ≠ tagB s) : scan f s bs = [] := by
  cases f with
  | zero => rfl
  | succ f =>
    rw [scan_succ]
    have e : takeT s bs = [] := by
      cases bs with
      | nil => rfl
      | cons b bs => exact if_neg (h b rfl)
    rw [e, tell_none]
    split <;> rfl
/-- Nor where of a record's sectors some of the first ones lie there alone. -/
theorem scan_torn {f s j : Nat} {x : List UInt8} {bs : List (List UInt8)} (hs : s ≤ 1099511627776) (hx : x.length ≤ 65536) (hj : j < needL s x) (h : ∀ b, bs.head? = some b → b.take 8 ≠ tagB s) : scan f s (((List.range j).map (secB s x)) ++ bs) = [] := by
  cases f with
  | zero => rfl
  | succ f =>
    have hlt : 56 * j < (recB s x).length := secs_lt.1 hj
    have e : takeT s (((List.range j).map (secB s x)) ++ bs) = (recB s x).take (56 * j) := by
      have e1 : takeT s (((List.range j).map (secB s x)) ++ bs) = _ := takeT_laid s bs j (recB s x)
      have e2 : takeT s bs = [] := by
        cases bs with
        | nil => rfl
        | cons b bs => exact if_neg (h b rfl)
      rw [e1, e2, List.append_nil, flat_pieces s j _ (by omega)]
    rw [scan_succ, e, tell_torn hs hx hj]
    split <;> rfl

end Go.Proofs.YthbcgimmbcdnmaaDoor.Lo
