/-
  The document's answer (chapter 2): a reader's Int; what it says at its end.
-/
import Derived.Test.YtgchdgdhjafdbaaDoorPkRefR
namespace Go.Proofs.YtgchdgdhjafdbaaDoor.Pk
open Go.RowKit
set_option maxRecDepth 100000

theorem sigB_cons (c : UInt8) (r : List UInt8) (h : ¬ 1 < c.toNat) : sigB (c :: r) = match numB M63 r with
    | .error e => .error e
    | .ok (n, r2) => .ok (if (c.toNat == 1) = true then -1 - (n : Int) else (n : Int), r2) := by
  unfold sigB
  have : truB (c :: r) = .ok (c.toNat == 1, r) := by simp [truB, h]
  rw [this]
  simp only []
  cases numB M63 r <;> rfl
theorem Slc.ad_lt {w : World} {ad : Addr} {n cap : Nat} {c : UInt8} {r : List UInt8} (h : Slc w (.slice (some ad) n cap) (c :: r)) : w.cell? ad = some (.int .u8 (c.toNat : Int)) ∧ ad.block < w.heap.size := by
  obtain ⟨a0, c0, e, hr, _⟩ := h
  cases e
  obtain ⟨ad', e, hc⟩ := hr (by simp)
  cases e
  have h0 : w.cell? ad = some (.int .u8 (c.toNat : Int)) := hc 0 _ rfl
  exact ⟨h0, World.block_lt_of_cell? w ad h0⟩

theorem rruint_at (b : List UInt8) (err most : Nat) (m : Int) (w : World) (x v : Value) (hm' : m = (most : Int)) (hv : v = rdV x err) (hx : Slc w x b) (hm : most ≤ M64) : Calls Tryd.prog 29 #[v, .int .u64 m] w fun e w' => RdRet u64V w' x (takeB (numB most) 0 ⟨b, err⟩) e ∧ Stay (fun _ => False) w w' := by
  subst hm'
  subst hv
  exact rruint_any b err most w x hx hm

theorem Sub.stayB {B : Nat} {w w' : World} {x v : Value} {r : List UInt8} (h : Sub w x v r) (hx : ∀ k, x.ownBlock = some k → k < B) (hs : Stay (fun k => B ≤ k) w w') : Sub w' x v r :=
  ⟨h.1.stay hs (fun k e _ hB => by have h1 := hx k (h.2 k e); omega), h.2⟩
theorem stayB_set2 {B C : Nat} (w : World) (hB : B ≤ C) (u v : Value) (o : Obj) : Stay (fun k => B ≤ k) w (((w.setCell ⟨C, 0, none⟩ u).setCell ⟨C, 1, none⟩ v).alloc o) :=
  ((Stay.setCell _ _ _ hB).trans (Stay.setCell _ _ _ hB)).trans (Stay.alloc _ _)

theorem i64_neg (n : Nat) (h : n ≤ 9223372036854775807) : IntKind.i64.wrap (-(n : Int)) = -(n : Int) := IntWalk.i64_in _ (by omega)

theorem rdone_ref (b : List UInt8) (err : Nat) (w : World) (x : Value) (hx : Slc w x b) : Calls Tryd.prog 31 #[rdV x err] w fun e w' => e = .returned (.int .i64 (doneB ⟨b, err⟩ : Nat)) ∧ Stay (fun _ => False) w w' := by
  obtain ⟨a0, cap, rfl, _, _, hcap, hcm⟩ := hx
  have hlen : (b.length : Int) ≤ 9223372036854775807 := by omega
  unfold rdV
  by_cases he : err = 0
  · subst he
    by_cases hb : 0 < b.length
    · have hd : doneB ⟨b, 0⟩ = 3 := by simp [doneB]; exact List.length_pos_iff.1 hb
      rw [hd]
      clear hd
      go_enter Tryd.func31, Tryd.ntmps31
      go_wp2
      go_ret
      exact ⟨rfl, Stay.alloc _ _⟩
    · have hb0 : b.length = 0 := by omega
      have hd : doneB ⟨b, 0⟩ = 0 := by
        unfold doneB
        rw [if_neg (fun h => h rfl), if_neg hb]
      rw [hd, hb0]
      clear hd hb0 hb hlen hcap
      go_enter Tryd.func31, Tryd.ntmps31
      go_wp2
      go_ret
      exact ⟨rfl, Stay.alloc _ _⟩
  · have hd : doneB ⟨b, err⟩ = err := by simp [doneB, he]
    have hb : ((err : Int) == 0) = false := beq_eq_false_iff_ne.2 (by omega)
    rw [hd]
    clear hd he
    go_enter Tryd.func31, Tryd.ntmps31
    go_wp2
    go_ret
    exact ⟨rfl, Stay.alloc _ _⟩

end Go.Proofs.YtgchdgdhjafdbaaDoor.Pk
