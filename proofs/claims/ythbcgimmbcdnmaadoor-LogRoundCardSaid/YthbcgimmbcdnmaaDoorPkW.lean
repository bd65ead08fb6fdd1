/-
  pack: what the writer's other calls lay: ints, texts, bytes, prints.
-/
import Derived.Test.YthbcgimmbcdnmaaDoorPkT
namespace Go.Proofs.YthbcgimmbcdnmaaDoor.Pk
open Go.RowKit
set_option maxRecDepth 100000

theorem WrAt.lt {X : Nat → Prop} {w : World} {p : Nat} {l : List UInt8} (h : WrAt X w p l) : p < w.heap.size := by
  obtain ⟨_, v, hv, _⟩ := h
  exact lt_of_block hv

theorem uint_base (base : Nat) (w : World) (p : Nat) (l : List UInt8) (n : Nat) (h : WrAt (fun k => base ≤ k) w p l) (hn : (n : Int) ≤ 18446744073709551615) (hlen : l.length + 9 ≤ 140737488355328) :
    Calls Tryd.prog 22 #[.pointer (some ⟨p, 0, none⟩), .int .u64 n] w fun e w' => e = .returned (.pointer (some ⟨p, 0, none⟩)) ∧ WrAt (fun k => base ≤ k) w' p (l ++ spellB n) ∧ Stay (fun k => base ≤ k) w w' :=
  (uint_any _ w p l n h hn hlen).mono fun e w' ⟨h1, h2, h3⟩ => ⟨h1, h2.mono (fun k hk => by have h4 := h.lt; have h5 : base ≤ p := h.own; rcases hk with hk | hk <;> omega), h3⟩
theorem lay_base' (base : Nat) (w : World) (p : Nat) (l b : List UInt8) (x : Value) (h : WrAt (fun k => base ≤ k) w p l) (hx : Slc w x b) (hlen : l.length + b.length ≤ 140737488355328) :
    Calls Tryd.prog 41 #[.pointer (some ⟨p, 0, none⟩), x] w fun e w' => e = .returned (.pointer (some ⟨p, 0, none⟩)) ∧ WrAt (fun k => base ≤ k) w' p (l ++ b) ∧ Stay (fun k => base ≤ k) w w' :=
  lay_base base w p l b x h hx hlen (by have h4 := h.lt; have h5 : base ≤ p := h.own; omega)

theorem uint_at' (base : Nat) (w : World) (p : Nat) (l : List UInt8) (n : Nat) (m : Int) (hm : m = (n : Int)) (h : WrAt (fun k => base ≤ k) w p l) (hn : (n : Int) ≤ 18446744073709551615) (hlen : l.length + 9 ≤ 140737488355328) :
    Calls Tryd.prog 22 #[.pointer (some ⟨p, 0, none⟩), .int .u64 m] w fun e w' => e = .returned (.pointer (some ⟨p, 0, none⟩)) ∧ WrAt (fun k => base ≤ k) w' p (l ++ spellB n) ∧ Stay (fun k => base ≤ k) w w' := by
  subst hm
  exact uint_base base w p l n h hn hlen

/-- An int as bytes. -/
def intB (n : Int) : List UInt8 := if n < 0 then boolB true ++ spellB (-1 - n).toNat else boolB false ++ spellB n.toNat

/-- A block that begins with these bytes reads as them. -/
theorem slc_of_block {w : World} {g cap : Nat} {cs : Array Value} {t : TypeId} {fr : Nat × Nat} {b : List UInt8} (h : w.heap[g]? = some (.cells cs t fr)) (hc : ∀ (j : Nat) (v : Value), (cellsB b)[j]? = some v → cs[j]? = some v) (h1 : b.length ≤ cap) (h2 : cap ≤ 9223372036854775807) : Slc w (.slice (some ⟨g, 0, none⟩) b.length cap) b := by
  refine ⟨_, cap, rfl, fun _ => ⟨_, rfl, fun j v hv => ?_⟩, (fun e => by cases e), h1, h2⟩
  have e : (Addr.add ⟨g, 0, none⟩ j : Addr) = ⟨g, j, none⟩ := by simp [Addr.add]; exact fun e => e.symm
  rw [e, cell_of_row w g j _ _ _ h]
  exact hc j v hv

theorem WrAt.tight {X : Nat → Prop} {w : World} {p : Nat} {l : List UInt8} (h : WrAt X w p l) : WrAt (fun k => X k ∧ k < w.heap.size) w p l := by
  have h4 := h.lt
  obtain ⟨hp, v, hv, ho, hk⟩ := h
  exact ⟨⟨hp, h4⟩, v, hv, ho, fun k e => ⟨⟨(hk k e).1, (ho.lt k e).2⟩, (hk k e).2⟩⟩

/-- A text as bytes. -/
theorem conv_txt (w : World) (b : List UInt8) (hb : b.length ≤ 140737488355328) : ∃ cap w', (convert 9 36 (strV b)).run Tryd.prog w = .ok (.slice (some ⟨w.heap.size, 0, none⟩) b.length cap) w' ∧ Slc w' (.slice (some ⟨w.heap.size, 0, none⟩) b.length cap) b ∧ Stay (fun _ => False) w w' ∧ w.heap.size < w'.heap.size := by
  have hs : (⟨b.toArray⟩ : ByteArray).size = b.length := by simp [ByteArray.size]
  refine ⟨_, _, run_bytes_of_string (P := Tryd.prog) w 9 36 5 ⟨b.toArray⟩ Tryd.underlying9 Tryd.underlying36 Tryd.underlying5, ?_⟩
  have hc1 : b.length ≤ grownCap w (⟨b.toArray⟩ : ByteArray).size 0 5 := by
    have := grownCap_ge w (⟨b.toArray⟩ : ByteArray).size 0 5
    omega
  have hc2 : grownCap w (⟨b.toArray⟩ : ByteArray).size 0 5 ≤ 9223372036854775807 := by
    have := grownCap_le_maxLen w (⟨b.toArray⟩ : ByteArray).size 0 5 (by unfold maxLen; omega)
    unfold maxLen at this
    omega
  refine ⟨slc_of_block (heap_alloc_new w.drew _) (fun j v hv => ?_) hc1 hc2, Stay.drew.trans (Stay.alloc _ _), by simp⟩
  have hj : j < b.length := by
    have := (List.getElem?_eq_some_iff.1 hv).1
    rwa [length_cellsB] at this
  rw [bytesRow_at _ _ j (by simpa using hj), ← hv]
  simp [cellsB, byteV, hj]

/-- Bytes as they are laid. -/
def bytesB (b : List UInt8) : List UInt8 := spellB b.length ++ b
theorem len_spell (n : Nat) : (spellB n).length ≤ 9 := by
  rw [length_spellB]
  have := kOf_le n
  omega

theorem wbytes_any (X : Nat → Prop) (w : World) (p : Nat) (l b : List UInt8) (x : Value) (h : WrAt X w p l) (hx : Slc w x b) (hq : 0 < b.length → ∀ k, x.ownBlock = some k → ¬ X k) (hlen : l.length + 9 + b.length ≤ 140737488355328) :
    Calls Tryd.prog 46 #[.pointer (some ⟨p, 0, none⟩), x] w fun e w' => e = .returned (.pointer (some ⟨p, 0, none⟩)) ∧ WrAt (fun k => X k ∨ w.heap.size ≤ k) w' p (l ++ bytesB b) ∧ Stay X w w' := by
  obtain ⟨a0, c, rfl, hr, hn, hc1, hc2⟩ := id hx
  have H := Lib.hid h
  have HX := Lib.hid hx
  have HR := Lib.hid hr
  clear h hx hr
  have hs := len_spell b.length
  go_enter Tryd.func46, Tryd.ntmps46
  go_wp2_with fail
  refine (uint_any X w p l b.length H.out (by omega) (by omega)).mono ?_
  rintro e w1 ⟨rfl, hw1, hst1⟩
  have H1 := Lib.hid hw1
  clear hw1
  have hx1 : Slc w1 (.slice a0 b.length c) b := ⟨a0, c, rfl, HR.out.stay hst1 (fun h0 ad e => by
    subst e
    exact hq h0 ad.block rfl), hn, hc1, hc2⟩
  have HX1 := Lib.hid hx1
  clear hx1
  go_wp2_with fail
  refine (lay_any _ w1 p (l ++ spellB b.length) b _ H1.out HX1.out (by rw [List.length_append]; omega)).mono ?_
  rintro e w2 ⟨rfl, hw2, hst2⟩
  go_wp2
  go_ret
  refine ⟨rfl, ?_, hst1.andThen hst2 (fun k hk hY => by rcases hY with hY | hY; exact hY; omega)⟩
  unfold bytesB
  rw [← List.append_assoc]
  exact hw2.mono (fun k hk => by
    have := hst1.size
    rcases hk with (hk | hk) | hk
    · exact .inl hk
    · exact .inr hk
    · exact .inr (by omega))

theorem wbytes_base (base : Nat) (w : World) (p : Nat) (l b : List UInt8) (x : Value) (h : WrAt (fun k => base ≤ k) w p l) (hx : Slc w x b) (hq : 0 < b.length → ∀ k, x.ownBlock = some k → k < base ∨ w.heap.size ≤ k) (hlen : l.length + 9 + b.length ≤ 140737488355328) :
    Calls Tryd.prog 46 #[.pointer (some ⟨p, 0, none⟩), x] w fun e w' => e = .returned (.pointer (some ⟨p, 0, none⟩)) ∧ WrAt (fun k => base ≤ k) w' p (l ++ bytesB b) ∧ Stay (fun k => base ≤ k) w w' :=
  (wbytes_any _ w p l b x h.tight hx (fun h0 k e => by rcases hq h0 k e with h5 | h5 <;> omega) hlen).mono fun e w' ⟨h1, h2, h3⟩ => ⟨h1, h2.mono (fun k hk => by have h4 := h.lt; have h5 : base ≤ p := h.own; rcases hk with hk | hk <;> omega), h3.mono (fun k hk => hk.1)⟩

theorem RdAt.stayE {X Y : Nat → Prop} {w w' : World} {p : Nat} {s : RS} (h : RdAt X w p s) (h0 : ¬ 0 < s.b.length) (hs : Stay Y w w') (hY : ¬ Y p) : RdAt X w' p s := by
  obtain ⟨hp, x, hx, ⟨a0, c, e, hr, hn⟩, hk⟩ := h
  exact ⟨hp, x, (hs.block p (lt_of_block hx) hY).trans hx, ⟨a0, c, e, fun h => absurd h h0, hn⟩, hk⟩
theorem RdAt.narrow {X : Nat → Prop} {w : World} {p : Nat} {s : RS} (h : RdAt X w p s) (h0 : 0 < s.b.length) : RdAt (fun k => X k ∧ k < w.heap.size) w p s := by
  obtain ⟨hp, x, hx, hsl, hk⟩ := h
  exact ⟨⟨hp, lt_of_block hx⟩, x, hx, hsl, fun k e => ⟨⟨(hk k e).1, hsl.blk_lt h0 k e⟩, (hk k e).2⟩⟩
theorem take_shorter {s : RS} (h : ¬ 0 < s.b.length) : (takeB sumB z32 s).2.b = s.b := by
  by_cases he : s.err = 0
  · cases hr : sumB s.b with
    | error c => rw [takeB_error he hr]
    | ok q =>
      unfold sumB at hr
      rw [if_pos (by omega)] at hr
      cases hr
  · rw [takeB_bad he]

end Go.Proofs.YthbcgimmbcdnmaaDoor.Pk
