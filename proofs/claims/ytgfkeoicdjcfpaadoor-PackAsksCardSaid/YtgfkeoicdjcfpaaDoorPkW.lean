/-
  pack: what the writer's other calls lay: ints, texts, bytes, prints.
-/
import Derived.Test.YtgfkeoicdjcfpaaDoorPkT
namespace Go.Proofs.YtgfkeoicdjcfpaaDoor.Pk
open Go.RowKit
set_option maxRecDepth 100000

theorem WrAt.lt {X : Nat → Prop} {w : World} {p : Nat} {l : List UInt8} (h : WrAt X w p l) : p < w.heap.size := by
  obtain ⟨_, v, hv, _⟩ := h
  exact lt_of_block hv

theorem uint_base (base : Nat) (w : World) (p : Nat) (l : List UInt8) (n : Nat) (h : WrAt (fun k => base ≤ k) w p l) (hn : (n : Int) ≤ 18446744073709551615) (hlen : l.length + 9 ≤ 140737488355328) :
    Calls Tryd.prog 27 #[.pointer (some ⟨p, 0, none⟩), .int .u64 n] w fun e w' => e = .returned (.pointer (some ⟨p, 0, none⟩)) ∧ WrAt (fun k => base ≤ k) w' p (l ++ spellB n) ∧ Stay (fun k => base ≤ k) w w' :=
  (uint_any _ w p l n h hn hlen).mono fun e w' ⟨h1, h2, h3⟩ => ⟨h1, h2.mono (fun k hk => by have h4 := h.lt; have h5 : base ≤ p := h.own; rcases hk with hk | hk <;> omega), h3⟩
theorem bool_base (base : Nat) (w : World) (p : Nat) (l : List UInt8) (b : Bool) (h : WrAt (fun k => base ≤ k) w p l) (hlen : l.length + 1 ≤ 140737488355328) :
    Calls Tryd.prog 47 #[.pointer (some ⟨p, 0, none⟩), .bool b] w fun e w' => e = .returned (.pointer (some ⟨p, 0, none⟩)) ∧ WrAt (fun k => base ≤ k) w' p (l ++ boolB b) ∧ Stay (fun k => base ≤ k) w w' :=
  (bool_any _ w p l b h hlen).mono fun e w' ⟨h1, h2, h3⟩ => ⟨h1, h2.mono (fun k hk => by have h4 := h.lt; have h5 : base ≤ p := h.own; rcases hk with hk | hk <;> omega), h3⟩
theorem lay_base' (base : Nat) (w : World) (p : Nat) (l b : List UInt8) (x : Value) (h : WrAt (fun k => base ≤ k) w p l) (hx : Slc w x b) (hlen : l.length + b.length ≤ 140737488355328) :
    Calls Tryd.prog 48 #[.pointer (some ⟨p, 0, none⟩), x] w fun e w' => e = .returned (.pointer (some ⟨p, 0, none⟩)) ∧ WrAt (fun k => base ≤ k) w' p (l ++ b) ∧ Stay (fun k => base ≤ k) w w' :=
  lay_base base w p l b x h hx hlen (by have h4 := h.lt; have h5 : base ≤ p := h.own; omega)

theorem uint_at' (base : Nat) (w : World) (p : Nat) (l : List UInt8) (n : Nat) (m : Int) (hm : m = (n : Int)) (h : WrAt (fun k => base ≤ k) w p l) (hn : (n : Int) ≤ 18446744073709551615) (hlen : l.length + 9 ≤ 140737488355328) :
    Calls Tryd.prog 27 #[.pointer (some ⟨p, 0, none⟩), .int .u64 m] w fun e w' => e = .returned (.pointer (some ⟨p, 0, none⟩)) ∧ WrAt (fun k => base ≤ k) w' p (l ++ spellB n) ∧ Stay (fun k => base ≤ k) w w' := by
  subst hm
  exact uint_base base w p l n h hn hlen

/-- An int as bytes. -/
def intB (n : Int) : List UInt8 := if n < 0 then boolB true ++ spellB (-1 - n).toNat else boolB false ++ spellB n.toNat

/-- A block that begins with these bytes reads as them. -/
theorem slc_of_block {w : World} {g cap : Nat} {cs : Array Value} {t : TypeId} {fr : Nat × Nat} {b : List UInt8} (h : w.heap[g]? = some (.cells cs t fr)) (hc : ∀ (j : Nat) (v : Value), (cellsB b)[j]? = some v → cs[j]? = some v) (h1 : b.length ≤ cap) (h2 : cap ≤ 9223372036854775807) : Slc w (.slice (some ⟨g, 0, none⟩) b.length cap) b := by
  refine ⟨_, cap, rfl, fun _ => ⟨_, rfl, fun j v hv => ?_⟩, (fun e => by cases e), h1, h2⟩
  have e : (Addr.add ⟨g, 0, none⟩ j : Addr) = ⟨g, j, none⟩ := by simp [Addr.add]; exact fun e => e.symm
  rw [e, cell_of_row w g j _ _ _ h]
  exact hc j v hv

theorem WrAt.tight {X : Nat → Prop} {w : World} {p : Nat} {l : List UInt8} (h : WrAt X w p l) : WrAt (fun k => X k ∧ k < w.heap.size) w p l := by
  have h4 := h.lt
  obtain ⟨hp, v, hv, ho, hk⟩ := h
  exact ⟨⟨hp, h4⟩, v, hv, ho, fun k e => ⟨⟨(hk k e).1, (ho.lt k e).2⟩, (hk k e).2⟩⟩

/-- A text as bytes. -/
theorem conv_txt (w : World) (b : List UInt8) (hb : b.length ≤ 140737488355328) : ∃ cap w', (convert 9 22 (strV b)).run Tryd.prog w = .ok (.slice (some ⟨w.heap.size, 0, none⟩) b.length cap) w' ∧ Slc w' (.slice (some ⟨w.heap.size, 0, none⟩) b.length cap) b ∧ Stay (fun _ => False) w w' ∧ w.heap.size < w'.heap.size := by
  have hs : (⟨b.toArray⟩ : ByteArray).size = b.length := by simp [ByteArray.size]
  refine ⟨_, _, run_bytes_of_string (P := Tryd.prog) w 9 22 5 ⟨b.toArray⟩ Tryd.underlying9 Tryd.underlying22 Tryd.underlying5, ?_⟩
  have hc1 : b.length ≤ grownCap w (⟨b.toArray⟩ : ByteArray).size 0 5 := by
    have := grownCap_ge w (⟨b.toArray⟩ : ByteArray).size 0 5
    omega
  have hc2 : grownCap w (⟨b.toArray⟩ : ByteArray).size 0 5 ≤ 9223372036854775807 := by
    have := grownCap_le_maxLen w (⟨b.toArray⟩ : ByteArray).size 0 5 (by unfold maxLen; omega)
    unfold maxLen at this
    omega
  refine ⟨slc_of_block (heap_alloc_new w.drew _) (fun j v hv => ?_) hc1 hc2, Stay.drew.trans (Stay.alloc _ _), by simp⟩
  have hj : j < b.length := by
    have := (List.getElem?_eq_some_iff.1 hv).1
    rwa [length_cellsB] at this
  rw [bytesRow_at _ _ j (by simpa using hj), ← hv]
  simp [cellsB, byteV, hj]

/-- Bytes as they are laid. -/
def bytesB (b : List UInt8) : List UInt8 := spellB b.length ++ b
theorem len_spell (n : Nat) : (spellB n).length ≤ 9 := by
  rw [length_spellB]
  have := kOf_le n
  omega

theorem RdAt.stayE {X Y : Nat → Prop} {w w' : World} {p : Nat} {s : RS} (h : RdAt X w p s) (h0 : ¬ 0 < s.b.length) (hs : Stay Y w w') (hY : ¬ Y p) : RdAt X w' p s := by
  obtain ⟨hp, x, hx, ⟨a0, c, e, hr, hn⟩, hk⟩ := h
  exact ⟨hp, x, (hs.block p (lt_of_block hx) hY).trans hx, ⟨a0, c, e, fun h => absurd h h0, hn⟩, hk⟩
theorem RdAt.narrow {X : Nat → Prop} {w : World} {p : Nat} {s : RS} (h : RdAt X w p s) (h0 : 0 < s.b.length) : RdAt (fun k => X k ∧ k < w.heap.size) w p s := by
  obtain ⟨hp, x, hx, hsl, hk⟩ := h
  exact ⟨⟨hp, lt_of_block hx⟩, x, hx, hsl, fun k e => ⟨⟨(hk k e).1, hsl.blk_lt h0 k e⟩, (hk k e).2⟩⟩
theorem take_shorter {s : RS} (h : ¬ 0 < s.b.length) : (takeB sumB z32 s).2.b = s.b := by
  by_cases he : s.err = 0
  · cases hr : sumB s.b with
    | error c => rw [takeB_error he hr]
    | ok q =>
      unfold sumB at hr
      rw [if_pos (by omega)] at hr
      cases hr
  · rw [takeB_bad he]

theorem rprint_any (X : Nat → Prop) (w : World) (p : Nat) (s : RS) (h : RdAt X w p s) :
    Calls Tryd.prog 19 #[.pointer (some ⟨p, 0, none⟩)] w fun e w' => e = .returned (prtV (takeB sumB z32 s).1) ∧ RdAt X w' p (takeB sumB z32 s).2 ∧ Stay (fun k => k = p) w w' := by
  have p0 := PrtAt.new w z32
  have hst0 : Stay (fun _ => False) w (w.alloc (.cells (cellsB z32).toArray 48)) := Stay.alloc _ _
  have hltp : p < w.heap.size := by
    obtain ⟨_, x, hx, _⟩ := h
    exact lt_of_block hx
  obtain ⟨X', h', hback⟩ : ∃ X', RdAt X' w p s ∧ ∀ w1 w3, RdAt X' w1 p (takeB sumB z32 s).2 → Stay (fun k => k = w.heap.size) w1 w3 → RdAt X w3 p (takeB sumB z32 s).2 := by
    by_cases hb : 0 < s.b.length
    · exact ⟨_, h.narrow hb, fun w1 w3 h1 hs => (h1.stay hs (fun k hk _ e => by omega)).mono (fun k hk => hk.1)⟩
    · exact ⟨X, h, fun w1 w3 h1 hs => h1.stayE (by rw [take_shorter hb]; exact hb) hs (by omega)⟩
  have h0 := h'.stay0 hst0
  have P0 := Lib.hid p0
  have H0 := Lib.hid h0
  have hzl : (takeB sumB z32 s).1.length = 32 := by
    by_cases he : s.err = 0
    · cases hr : sumB s.b with
      | error c => rw [takeB_error he hr]; exact len_z32
      | ok q => obtain ⟨n, r⟩ := q; rw [takeB_ok he hr]; exact sumB_len hr
    · rw [takeB_bad he]; exact len_z32
  have HZ := Lib.hid hzl
  clear p0 h0 h h' hzl
  go_enter Tryd.func19, Tryd.ntmps19
  go_wp2_with (with_reducible refine alloc_prt rfl rfl ?_)
  refine (take_prt X' _ p s H0.out).mono ?_
  rintro e w1 ⟨rfl, hw1, hst1⟩
  have H1 := Lib.hid hw1
  have R0 := Lib.hid (P0.out.stay hst1 (fun e => by omega))
  have hlt1 : w.heap.size < w1.heap.size := lt_of_block R0.out
  clear hw1
  go_wp2_with (first
    | (refine store_prt rfl (.tmp 2) (.tmp 4) rfl w.heap.size rfl z32 _ rfl len_z32 HZ.out R0.out ?_; intro w3 hp3 hs3; have H3 := Lib.hid hp3; have HS3 := Lib.hid hs3; clear hp3 hs3))
  have hld := results_prt HZ.out H3.out
  refine bodyPost_ret (v := prtV (takeB sumB z32 s).1) (by simp [results, Tryd.results19, asAddr, Act.put, hld]) rfl ⟨rfl, ?_, ?_⟩
  · exact hback w1 w3 H1.out HS3.out
  · have h13 : Stay (fun k => k = p ∨ k = w.heap.size) w1 w3 := HS3.out.mono (fun k hk => .inr hk)
    exact (hst0.mono (Y := fun k => k = p) (fun _ x => x.elim)).andThen ((hst1.mono (fun k hk => .inl hk)).trans h13) (fun k hk hY => by rcases hY with hY | hY; exact hY; omega)

end Go.Proofs.YtgfkeoicdjcfpaaDoor.Pk
