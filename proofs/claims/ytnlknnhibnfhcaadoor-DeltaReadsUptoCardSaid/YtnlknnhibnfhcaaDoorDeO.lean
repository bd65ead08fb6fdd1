/-
  The document's answer (chapter 10): the parts of bytes.
-/
import Derived.Test.YtnlknnhibnfhcaaDoorDeI
import Derived.Test.YtnlknnhibnfhcaaDoorPkRefB
import Derived.Test.YtnlknnhibnfhcaaDoorPkRefD
namespace Go.Proofs.YtnlknnhibnfhcaaDoor.De
open Go.RowKit Pk
set_option maxRecDepth 100000

/-- A slice that reads as bytes, which lie in elder blocks. -/
structure In0 (B : Nat) (w : World) (x : Value) (b : List UInt8) : Prop where
  slc : Slc w x b
  lt : 0 < b.length → ∀ k, x.ownBlock = some k → k < B
theorem In0.stay {B : Nat} {w w' : World} {x : Value} {b : List UInt8} (h : In0 B w x b) (hs : Stay (fun k => B ≤ k) w w') : In0 B w' x b :=
  ⟨slc_stay h.slc hs (fun h0 k hk hB => by have := h.lt h0 k hk; omega), h.lt⟩
theorem In0.sub {B : Nat} {w w' : World} {x y : Value} {b c : List UInt8} (h : In0 B w x b) (hy : Sub w' x y c) (hl : c.length ≤ b.length) : In0 B w' y c :=
  ⟨hy.1, fun h0 k hk => h.lt (by omega) k (hy.2 k hk)⟩
theorem In0.ne {B : Nat} {w : World} {x v : Value} {b : List UInt8} (h : In0 B w x b) (hv : ∀ k, v.ownBlock = some k → B ≤ k) (h0 : 0 < b.length) : x.ownBlock ≠ v.ownBlock := by
  intro e
  obtain ⟨a9, c9, e9, hr9, _⟩ := h.slc
  obtain ⟨ad, e8, _⟩ := hr9 h0
  have e6 : x.ownBlock = some ad.block := by rw [e9, e8]; rfl
  have h1 := h.lt h0 _ e6
  rw [e] at e6
  have h2 := hv _ e6
  omega
theorem In0.nil (B : Nat) (w : World) : In0 B w (.slice none 0 0) [] := ⟨⟨none, 0, rfl, fun h => absurd h (Nat.lt_irrefl 0), fun _ => rfl, Nat.le_refl _, by decide⟩, fun h => absurd h (Nat.lt_irrefl 0)⟩

/-- The document's reader in a block. -/
def RAt (w : World) (g : Nat) (x : Value) (e : Nat) : Prop := w.heap[g]? = some (.cells #[x, .int .i64 (e : Int)] 57 (0, 0))
theorem RAt.lt {w : World} {g e : Nat} {x : Value} (h : RAt w g x e) : g < w.heap.size := (Array.getElem?_eq_some_iff.1 h).1
theorem RAt.stay {X : Nat → Prop} {w w' : World} {g e : Nat} {x : Value} (h : RAt w g x e) (hs : Stay X w w') (hx : ¬ X g) : RAt w' g x e := (hs.block g h.lt hx).trans h
theorem info_rd : (Tryd.prog.info? 57).map (·.size) = some 2 := by kernel_rfl
theorem RAt.store {w : World} {g e : Nat} {x : Value} (h : RAt w g x e) {ops : Array Oper} {rest : List Oper} {o : Oper} {a : Act} {Q : Exit → Act → World → Prop} (hgd : o.guard = none) (p y : Operand) (ho : o.op = .store 57 p y)
    (hp : a.eval p = .pointer (some ⟨g, 0, none⟩)) (a1 : Option Addr) (n1 c1 e1 : Nat) (hy : a.eval y = .agg #[.slice a1 n1 c1, .int .i64 (e1 : Int)])
    (hn : ∀ w', RAt w' g (.slice a1 n1 c1) e1 → Stay (· = g) w w' → wpList Tryd.prog ops Q rest (a.put o.dst undef) w') : wpList Tryd.prog ops Q (o :: rest) a w :=
  wpList_store_mid hgd 57 p y ho g 0 hp 57 [x, .int .i64 (e : Int)] [.slice a1 n1 c1, .int .i64 (e1 : Int)] hy h info_rd (Nat.le_refl _) (by intro u hu; simp at hu; rcases hu with rfl | rfl <;> rfl) (fun w' h1 h2 => hn w' h1 h2)

theorem RAt.run {w : World} {g e : Nat} {x : Value} (h : RAt w g x e) : (loadVar 57 ⟨g, 0, none⟩).run Tryd.prog w = .ok (rdV x e) w :=
  run_loadVar_at w ⟨g, 0, none⟩ 57 [x, .int .i64 (e : Int)] _ Tryd.underlying57 rfl info_rd (fun j v hv => by
    rw [add_at, cell_of_row w g _ _ _ _ h, Nat.zero_add]
    simpa using hv)

theorem _root_.Go.Proofs.YtnlknnhibnfhcaaDoor.Stay.trans' {B C : Nat} {a b c : World} (h : Stay (fun j => j = B) a b) (k : Stay (fun j => j = C) b c) : Stay (fun j => j = B ∨ j = C) a c :=
  (h.mono (fun _ e => .inl e)).trans (k.mono (fun _ e => .inr e))
theorem _root_.Go.Proofs.YtnlknnhibnfhcaaDoor.Stay.trans'' {X : Nat → Prop} {a b c : World} (h : Stay (fun _ => False) a b) (k : Stay X b c) : Stay X a c := (h.mono (fun _ x => x.elim)).trans k
theorem PoAt.set0 {w : World} {g : Nat} {ty : TypeId} {q : Po} (h : PoAt w g ty q) (b : Bool) : PoAt (w.setCell ⟨g, 0, none⟩ (.bool b)) g ty ⟨{ q.p with cp := b }, q.x⟩ := by
  unfold PoAt at h ⊢
  simp [World.setCell, Array.getElem?_modify, h, poC]
theorem PoAt.set1 {w : World} {g : Nat} {ty : TypeId} {q : Po} (h : PoAt w g ty q) (z : Int) : PoAt (w.setCell ⟨g, 1, none⟩ (.int .i64 z)) g ty ⟨{ q.p with f := z }, q.x⟩ := by
  unfold PoAt at h ⊢
  simp [World.setCell, Array.getElem?_modify, h, poC]
theorem PoAt.set2 {w : World} {g : Nat} {ty : TypeId} {q : Po} (h : PoAt w g ty q) (z : Int) : PoAt (w.setCell ⟨g, 2, none⟩ (.int .i64 z)) g ty ⟨{ q.p with n := z }, q.x⟩ := by
  unfold PoAt at h ⊢
  simp [World.setCell, Array.getElem?_modify, h, poC]
theorem PoAt.set3 {w : World} {g : Nat} {ty : TypeId} {q : Po} (h : PoAt w g ty q) (x : Value) (b : List UInt8) : PoAt (w.setCell ⟨g, 3, none⟩ x) g ty ⟨{ q.p with b := b }, x⟩ := by
  unfold PoAt at h ⊢
  simp [World.setCell, Array.getElem?_modify, h, poC]

theorem text_le (s : RS) : (takeB (textB 64) [] s).1.length ≤ s.b.length := by
  by_cases he : s.err = 0
  · cases h : textB 64 s.b with
    | error c => rw [takeB_error he h]; exact Nat.zero_le _
    | ok p =>
      obtain ⟨t, r⟩ := p
      rw [takeB_ok he h]
      cases hn : numB M64 s.b with
      | error c => rw [textB_err (by decide) hn] at h; cases h
      | ok p =>
        obtain ⟨n, r1⟩ := p
        have hl := numB_len hn
        by_cases h1 : (64 : Int) < (n : Int)
        · rw [textB_long (by decide) hn h1] at h; cases h
        · by_cases h2 : r1.length < n
          · rw [textB_end (by decide) hn h1 h2] at h; cases h
          · rw [textB_ok (by decide) hn h1 h2] at h
            cases h
            rw [List.length_take]
            omega
  · rw [takeB_bad he]; exact Nat.zero_le _
end Go.Proofs.YtnlknnhibnfhcaaDoor.De
