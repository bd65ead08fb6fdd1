/-
  The document's answer (chapter 2): a reader's Int; what it says at its end.
-/
import Derived.Test.YtnlknnhibnfhcaaPkRefR
namespace Go.Proofs.Ytnlknnhibnfhcaa.Pk
open Go.RowKit
set_option maxRecDepth 100000

theorem sigB_cons (c : UInt8) (r : List UInt8) (h : ¬ 1 < c.toNat) : sigB (c :: r) = match numB M63 r with
    | .error e => .error e
    | .ok (n, r2) => .ok (if (c.toNat == 1) = true then -1 - (n : Int) else (n : Int), r2) := by
  unfold sigB
  have : truB (c :: r) = .ok (c.toNat == 1, r) := by simp [truB, h]
  rw [this]
  simp only []
  cases numB M63 r <;> rfl
theorem Slc.ad_lt {w : World} {ad : Addr} {n cap : Nat} {c : UInt8} {r : List UInt8} (h : Slc w (.slice (some ad) n cap) (c :: r)) : w.cell? ad = some (.int .u8 (c.toNat : Int)) ∧ ad.block < w.heap.size := by
  obtain ⟨a0, c0, e, hr, _⟩ := h
  cases e
  obtain ⟨ad', e, hc⟩ := hr (by simp)
  cases e
  have h0 : w.cell? ad = some (.int .u8 (c.toNat : Int)) := hc 0 _ rfl
  exact ⟨h0, World.block_lt_of_cell? w ad h0⟩

theorem Sub.stayB {B : Nat} {w w' : World} {x v : Value} {r : List UInt8} (h : Sub w x v r) (hx : ∀ k, x.ownBlock = some k → k < B) (hs : Stay (fun k => B ≤ k) w w') : Sub w' x v r :=
  ⟨h.1.stay hs (fun k e _ hB => by have h1 := hx k (h.2 k e); omega), h.2⟩
theorem stayB_set2 {B C : Nat} (w : World) (hB : B ≤ C) (u v : Value) (o : Obj) : Stay (fun k => B ≤ k) w (((w.setCell ⟨C, 0, none⟩ u).setCell ⟨C, 1, none⟩ v).alloc o) :=
  ((Stay.setCell _ _ _ hB).trans (Stay.setCell _ _ _ hB)).trans (Stay.alloc _ _)

theorem i64_neg (n : Nat) (h : n ≤ 9223372036854775807) : IntKind.i64.wrap (-(n : Int)) = -(n : Int) := IntWalk.i64_in _ (by omega)

end Go.Proofs.Ytnlknnhibnfhcaa.Pk
