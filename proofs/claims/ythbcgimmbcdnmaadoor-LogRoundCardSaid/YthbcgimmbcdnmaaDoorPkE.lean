/-
  pack: a reader in memory: Read, Err, Left, Done, takeOff, Uint, Int.
-/
import Derived.Test.YthbcgimmbcdnmaaDoorPkD
namespace Go.Proofs.YthbcgimmbcdnmaaDoor.Pk
open Go.RowKit
set_option maxRecDepth 100000

/-- What is left, and the first error (0: none). -/
structure RS where
  b : List UInt8
  err : Nat

def errV (c : Nat) : Value := if c = 0 then .nilIface else errI c
theorem errV_zero : errV 0 = .nilIface := rfl
theorem errV_pos {c : Nat} (h : c ≠ 0) : errV c = errI c := if_neg h

/-- A reader in block p; what it reads lies in the blocks of X. -/
structure RdAt (X : Nat → Prop) (w : World) (p : Nat) (s : RS) : Prop where
  own : X p
  ex : ∃ x, w.heap[p]? = some (.cells #[x, errV s.err] 139 (0, 0)) ∧ Slc w x s.b ∧ ∀ k, x.ownBlock = some k → X k ∧ k ≠ p

theorem Slc.stay {X : Nat → Prop} {w w' : World} {x : Value} {l : List UInt8} (h : Slc w x l) (hs : Stay X w w') (hx : ∀ k, x.ownBlock = some k → k < w.heap.size → ¬ X k) : Slc w' x l := by
  obtain ⟨a0, c, rfl, hr, hn⟩ := h
  refine ⟨a0, c, rfl, fun h0 => ?_, hn⟩
  obtain ⟨ad, rfl, hc⟩ := hr h0
  refine ⟨ad, rfl, fun j v hv => hs.cell (hc j v hv) ?_⟩
  have hb : (ad.add j).block = ad.block := by unfold Addr.add; split <;> rfl
  rw [hb]
  have hlt := World.block_lt_of_cell? w _ (hc j v hv)
  rw [hb] at hlt
  exact hx ad.block rfl hlt
theorem RdAt.stay {X Y : Nat → Prop} {w w' : World} {p : Nat} {s : RS} (h : RdAt X w p s) (hs : Stay Y w w') (hxy : ∀ k, X k → k < w.heap.size → ¬ Y k) : RdAt X w' p s := by
  obtain ⟨hp, x, hx, hsl, hk⟩ := h
  have hlt := lt_of_block hx
  exact ⟨hp, x, (hs.block p hlt (hxy p hp hlt)).trans hx, hsl.stay hs (fun k e hlt' => hxy k (hk k e).1 hlt'), hk⟩
theorem RdAt.stay0 {X : Nat → Prop} {w w' : World} {p : Nat} {s : RS} (h : RdAt X w p s) (hs : Stay (fun _ => False) w w') : RdAt X w' p s := h.stay hs (fun _ _ _ x => x)
theorem RdAt.mono {X Y : Nat → Prop} {w : World} {p : Nat} {s : RS} (h : RdAt X w p s) (hxy : ∀ k, X k → Y k) : RdAt Y w p s := by
  obtain ⟨hp, x, hx, hsl, hk⟩ := h
  exact ⟨hxy p hp, x, hx, hsl, fun k e => ⟨hxy k (hk k e).1, (hk k e).2⟩⟩

theorem read_cap (w : World) (x : Value) (b : List UInt8) (hx : Slc w x b) (hlen : b.length ≤ 140737488355328) :
    Calls Tryd.prog 52 #[x] w fun e w' => ∃ p, e = .returned (.pointer (some ⟨p, 0, none⟩)) ∧ RdAt (fun k => w.heap.size ≤ k ∧ k < w'.heap.size) w' p ⟨b, 0⟩ ∧ Stay (fun _ => False) w w' := by
  go_enter Tryd.func52, Tryd.ntmps52
  go_wp2_with fail
  refine (clone_slc w x b hx hlen).mono ?_
  rintro e w1 ⟨v, rfl, how, hs⟩
  obtain ⟨a1, c1, rfl⟩ := how.form
  go_wp2
  go_ret
  refine ⟨_, rfl, ⟨⟨hs.size, by simp⟩, _, heap_alloc_new w1 _, how.slc.alloc _, fun k hk => ⟨⟨(how.lt k hk).1, by have := (how.lt k hk).2; simp; omega⟩, Nat.ne_of_lt (how.lt k hk).2⟩⟩, hs.trans (Stay.alloc _ _)⟩

theorem read_any (w : World) (x : Value) (b : List UInt8) (hx : Slc w x b) (hlen : b.length ≤ 140737488355328) :
    Calls Tryd.prog 52 #[x] w fun e w' => ∃ p, e = .returned (.pointer (some ⟨p, 0, none⟩)) ∧ RdAt (fun k => w.heap.size ≤ k) w' p ⟨b, 0⟩ ∧ Stay (fun _ => False) w w' :=
  (read_cap w x b hx hlen).mono fun _ _ ⟨p, h1, h2, h3⟩ => ⟨p, h1, h2.mono (fun _ hk => hk.1), h3⟩

theorem err_none (w : World) : Calls Tryd.prog 55 #[.pointer none] w fun e w' => e = .returned (errI 1) ∧ w = w' := by
  go_enter Tryd.func55, Tryd.ntmps55
  go_wp2
  go_ret
  exact ⟨rfl, rfl⟩
theorem err_any (X : Nat → Prop) (w : World) (p : Nat) (s : RS) (h : RdAt X w p s) : Calls Tryd.prog 55 #[.pointer (some ⟨p, 0, none⟩)] w fun e w' => e = .returned (errV s.err) ∧ w = w' := by
  obtain ⟨hp, x, hx, _⟩ := h
  have hc : w.cell? ⟨p, 1, none⟩ = some (errV s.err) := by rw [cell_of_row w p 1 _ _ _ hx]; rfl
  clear hx
  generalize errV s.err = v at *
  go_enter Tryd.func55, Tryd.ntmps55
  go_wp2
  go_ret
  exact ⟨rfl, rfl⟩
def doneB (s : RS) : Nat := if s.err ≠ 0 then s.err else if 0 < s.b.length then 3 else 0
/-- One thing taken off by its rule. -/
def takeB {α : Type} (rule : List UInt8 → Except Nat (α × List UInt8)) (zero : α) (s : RS) : α × RS :=
  if s.err ≠ 0 then (zero, s) else match rule s.b with
    | .error c => (zero, ⟨s.b, c⟩)
    | .ok (v, r) => (v, ⟨r, 0⟩)
theorem takeB_bad {α : Type} {rule : List UInt8 → Except Nat (α × List UInt8)} {zero : α} {s : RS} (h : s.err ≠ 0) : takeB rule zero s = (zero, s) := if_pos h
theorem takeB_error {α : Type} {rule : List UInt8 → Except Nat (α × List UInt8)} {zero : α} {s : RS} {c : Nat} (h : s.err = 0) (hr : rule s.b = .error c) : takeB rule zero s = (zero, ⟨s.b, c⟩) := by
  unfold takeB
  rw [if_neg (fun hn => hn h), hr]
theorem takeB_ok {α : Type} {rule : List UInt8 → Except Nat (α × List UInt8)} {zero v : α} {s : RS} {r : List UInt8} (h : s.err = 0) (hr : rule s.b = .ok (v, r)) : takeB rule zero s = (v, ⟨r, 0⟩) := by
  unfold takeB
  rw [if_neg (fun hn => hn h), hr]

theorem two_set0 {w : World} {b : Nat} {v0 v1 u : Value} {t : TypeId} (h : w.heap[b]? = some (.cells #[v0, v1] t (0, 0))) : (w.setCell ⟨b, 0, none⟩ u).heap[b]? = some (.cells #[u, v1] t (0, 0)) := by
  simp [World.setCell, Array.getElem?_modify, h]
theorem two_set1 {w : World} {b : Nat} {v0 v1 u : Value} {t : TypeId} (h : w.heap[b]? = some (.cells #[v0, v1] t (0, 0))) : (w.setCell ⟨b, 1, none⟩ u).heap[b]? = some (.cells #[v0, u] t (0, 0)) := by
  simp [World.setCell, Array.getElem?_modify, h]

theorem RdAt.fail {X : Nat → Prop} {w w1 : World} {p : Nat} {s : RS} {c : Nat} (h : RdAt X w p s) (hs : Stay (fun _ => False) w w1) (hc : c ≠ 0) : RdAt X (w1.setCell ⟨p, 1, none⟩ (errI c)) p ⟨s.b, c⟩ := by
  obtain ⟨hp, x, hx, hsl, hk⟩ := h.stay0 hs
  refine ⟨hp, x, ?_, (hsl.stay (Stay.setCell (X := fun k => k = p) w1 ⟨p, 1, none⟩ (errI c) rfl) (fun k e _ => (hk k e).2)), hk⟩
  rw [two_set1 hx]
  rw [errV_pos hc]
theorem RdAt.go {X : Nat → Prop} {w1 : World} {p : Nat} {s : RS} {x v : Value} {r : List UInt8} (hp : X p) (hx : w1.heap[p]? = some (.cells #[x, errV s.err] 139 (0, 0))) (hk : ∀ k, x.ownBlock = some k → X k ∧ k ≠ p)
    (he : s.err = 0) (hv : Sub w1 x v r) : RdAt X (w1.setCell ⟨p, 0, none⟩ v) p ⟨r, 0⟩ := by
  have hk' : ∀ k, v.ownBlock = some k → X k ∧ k ≠ p := fun k e => hk k (hv.2 k e)
  refine ⟨hp, v, ?_, (hv.1.stay (Stay.setCell (X := fun k => k = p) w1 ⟨p, 0, none⟩ v rfl) (fun k e _ => (hk' k e).2)), hk'⟩
  rw [two_set0 hx, he]

theorem sigB_err {c : Nat} {b : List UInt8} (h : sigB b = .error c) : c = 12 ∨ c = 3 ∨ c = 4 := by
  unfold sigB at h
  cases ht : truB b with
  | error d =>
    rw [ht] at h
    cases h
    rcases truB_err ht with h | h
    · exact .inl h
    · exact .inr (.inl h)
  | ok p =>
    obtain ⟨t, r⟩ := p
    rw [ht] at h
    simp only [] at h
    cases hn : numB M63 r with
    | error d =>
      rw [hn] at h
      cases h
      exact numB_err hn
    | ok q =>
      rw [hn] at h
      cases h

theorem uint1_any (b : List UInt8) (most q : Nat) (w : World) (x : Value) (hx : Slc w x b) (hq : w.cell? ⟨q, 0, none⟩ = some (.int .u64 (most : Int))) :
    Calls Tryd.prog 68 #[x, .pointer (some ⟨q, 0, none⟩)] w fun e w' => NumRet w' x (numB most b) e ∧ Stay (fun _ => False) w w' := by
  obtain ⟨post, hpost⟩ : ∃ post : Ending → World → Prop, post = fun e w' => NumRet w' x (numB most b) e ∧ Stay (fun _ => False) w w' := ⟨_, rfl⟩
  rw [← hpost]
  have HP := Lib.hid hpost
  clear hpost
  go_enter Tryd.func68, Tryd.ntmps68
  go_wp2_with fail
  refine (number_any b most w x hx).mono ?_
  rintro e w1 ⟨hret, hs1⟩
  cases hr : numB most b with
  | error c =>
    rw [hr] at hret
    obtain rfl := hret
    have HR := Lib.hid hr
    clear hr
    go_wp2
    go_ret3
    rw [HP.out]
    refine ⟨?_, hs1⟩
    rw [HR.out]
    rfl
  | ok p =>
    obtain ⟨n, r⟩ := p
    rw [hr] at hret
    obtain ⟨v, rfl, hsub⟩ := hret
    have HR := Lib.hid hr
    have HSub := Lib.hid hsub
    clear hr hsub
    go_wp2
    go_ret3
    rw [HP.out]
    refine ⟨?_, hs1⟩
    rw [HR.out]
    exact ret_ok (val := u64V) rfl HSub.out

set_option maxHeartbeats 1000000 in
theorem take_uint (X : Nat → Prop) (w : World) (p : Nat) (s : RS) (most q : Nat) (h : RdAt X w p s) (hq : w.cell? ⟨q, 0, none⟩ = some (.int .u64 (most : Int))) :
    Calls Tryd.prog 67 #[.pointer (some ⟨p, 0, none⟩), .func (.func 68) #[] #[.pointer (some ⟨q, 0, none⟩)]] w fun e w' => e = .returned (u64V (takeB (numB most) 0 s).1) ∧ RdAt X w' p (takeB (numB most) 0 s).2 ∧ Stay (fun k => k = p) w w' := by
  by_cases he : s.err = 0
  · obtain ⟨hp, x, hx, hsl, hk⟩ := id h
    have hc0 : w.cell? ⟨p, 0, none⟩ = some x := by rw [cell_of_row w p 0 _ _ _ hx]; rfl
    have HP := Lib.hid h
    have HX := Lib.hid hx
    have HK := Lib.hid hk
    have HE := Lib.hid he
    have hlt := lt_of_block hx
    obtain ⟨TK, htk⟩ : ∃ TK, TK = takeB (numB most) 0 s := ⟨_, rfl⟩
    rw [← htk]
    have HT := Lib.hid htk
    clear hx hk he htk h
    go_enter Tryd.func67, Tryd.ntmps67
    go_wp2_with fail
    refine (err_any X w p s HP.out).mono ?_
    rintro e w' ⟨rfl, rfl⟩
    rw [HE.out, errV_zero]
    go_wp2_with fail
    refine (uint1_any s.b most q w x hsl hq).mono ?_
    rintro e w1 ⟨hret, hs1⟩
    have hp1 := Lib.hid ((hs1.block p hlt (fun x => x)).trans HX.out)
    cases hr : (numB most) s.b with
    | error c =>
      rw [hr] at hret
      obtain rfl := hret
      have HR := Lib.hid (takeB_error (zero := 0) HE.out hr)
      have hcn : c ≠ 0 := by have := numB_err hr; omega
      have HC := Lib.hid hcn
      have hc1 : w1.cell? ⟨p, 1, none⟩ = some (errV s.err) := by rw [cell_of_row w1 p 1 _ _ _ hp1.out]; rfl
      have hf1 : w1.frozen? ⟨p, 1, none⟩ = false := frozen_of_row w1 p 1 _ _ hp1.out
      clear hr hcn
      unfold errI
      go_wp2
      go_ret
      rw [HT.out, HR.out]
      exact ⟨rfl, HP.out.fail hs1 HC.out, (hs1.mono (fun _ x => x.elim)).trans (Stay.setCell _ _ _ rfl)⟩
    | ok q =>
      obtain ⟨n, r⟩ := q
      rw [hr] at hret
      obtain ⟨v, rfl, hsub⟩ := hret
      obtain ⟨a2, c2, rfl, _⟩ := id hsub.1
      have HSub := Lib.hid hsub
      have HR := Lib.hid (takeB_ok (zero := 0) HE.out hr)
      have hc1 : w1.cell? ⟨p, 0, none⟩ = some x := by rw [cell_of_row w1 p 0 _ _ _ hp1.out]; rfl
      have hf1 : w1.frozen? ⟨p, 0, none⟩ = false := frozen_of_row w1 p 0 _ _ hp1.out
      clear hr hsub
      unfold u64V
      go_wp2
      go_ret
      rw [HT.out, HR.out]
      exact ⟨rfl, RdAt.go hp hp1.out HK.out HE.out HSub.out, (hs1.mono (fun _ x => x.elim)).trans (Stay.setCell _ _ _ rfl)⟩
  · rw [takeB_bad he]
    have HE := Lib.hid he
    clear he
    go_enter Tryd.func67, Tryd.ntmps67
    go_wp2_with fail
    refine (err_any X w p s h).mono ?_
    rintro e w' ⟨rfl, rfl⟩
    rw [errV_pos HE.out]
    unfold errI
    go_wp2
    go_ret
    exact ⟨rfl, h, Stay.refl _ _⟩

theorem take_uint_none (f : Value) (w : World) : Calls Tryd.prog 67 #[.pointer none, f] w fun e w' => e = .returned (u64V 0) ∧ w = w' := by
  go_enter Tryd.func67, Tryd.ntmps67
  go_wp2_with fail
  refine (err_none w).mono ?_
  rintro e w' ⟨rfl, rfl⟩
  unfold errI
  go_wp2
  go_ret
  exact ⟨rfl, rfl⟩

theorem ruint_any (X : Nat → Prop) (w : World) (p : Nat) (s : RS) (most : Nat) (h : RdAt X w p s) : Calls Tryd.prog 53 #[.pointer (some ⟨p, 0, none⟩), .int .u64 most] w fun e w' => e = .returned (u64V (takeB (numB most) 0 s).1) ∧ RdAt X w' p (takeB (numB most) 0 s).2 ∧ Stay (fun k => k = p) w w' := by
  have h1 := h.stay0 (Stay.alloc w (.cells #[.int .u64 (most : Int)] 69))
  go_enter Tryd.func53, Tryd.ntmps53
  go_wp2_with fail
  refine (take_uint X _ p s most _ h1 (by simp)).mono ?_
  rintro e w1 ⟨rfl, hr, hs⟩
  go_wp2
  go_ret
  exact ⟨rfl, hr, (Stay.alloc _ _).trans hs⟩
end Go.Proofs.YthbcgimmbcdnmaaDoor.Pk
