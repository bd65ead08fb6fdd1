/-
  horner: the contracts of Open.
-/
import Derived.Test.YtkbkjpeghbiadaaDoorHnC
import Derived.Test.YtkbkjpeghbiadaaDoorLoadAt
import Derived.Test.YtkbkjpeghbiadaaDoorClass
import Derived.Stop.BytesEq
namespace Go.Proofs.YtkbkjpeghbiadaaDoor.Hn
open Go.RowKit
set_option maxRecDepth 100000

/-- What bytes are, opened. -/
def openB (b : List UInt8) : Except Nat (List UInt8) :=
  if b.length < 4 then .error 12
  else if b.drop (b.length - 4) = tailB (moreN 1 (b.take (b.length - 4))) then .ok (b.take (b.length - 4))
  else .error 11
/-- What Open hands back. -/
def OpenRet (base : Nat) (w : World) : Except Nat (List UInt8) → Ending → Prop
  | .error c, e => e = .returned (.tuple #[.slice none 0 0, errI c])
  | .ok r, e => ∃ v, e = .returned (.tuple #[v, .nilIface]) ∧ Owns base w v r

theorem open_short (x : Value) (b : List UInt8) (w : World) (hx : Slc w x b) (h : b.length < 4) :
    Calls Tryd.prog 7 #[x] w fun e w' => OpenRet w.heap.size w' (openB b) e ∧ Stay (fun _ => False) w w' := by
  obtain ⟨a0, c0, rfl, _⟩ := hx
  have HB := Lib.hid (show openB b = .error 12 by unfold openB; rw [if_pos h])
  go_enter Tryd.func7, Tryd.ntmps7
  go_wp2
  go_ret2
  exact ⟨by rw [HB.out]; rfl, Stay.refl _ _⟩

theorem eq_tail (w : World) (p q : List UInt8) (hp : p.length = 4) (hq : q.length = 4) : (Op.equalIn 10000 47 (.agg (cellsB p).toArray) (.agg (cellsB q).toArray)).run Tryd.prog w = .ok (p == q) w :=
  run_equalIn_bytes (P := Tryd.prog) w 9998 47 5 4 Tryd.underlying47 Tryd.underlying5 size_u8 p q hp hq

theorem array_at (w : World) (a : Option Addr) (c : Nat) : (Instr.arrayAt 47 (.slice a 4 c)).run Tryd.prog w = .ok (.pointer a) w := by
  simp [Instr.arrayAt, Sem.run_bind, run_underlying Tryd.underlying47]
theorem open_form {b : List UInt8} {n : Nat} (hn : b.length = n + 4) : openB b = if b.drop n = tailB (moreN 1 (b.take n)) then .ok (b.take n) else .error 11 := by
  unfold openB
  rw [if_neg (by omega), hn, Nat.add_sub_cancel]
theorem info_tail4 {l : List UInt8} (h : l.length = 4) : (Tryd.prog.info? 47).map (·.size) = some (cellsB l).length := by
  have := info_tail h
  simpa using this

set_option maxHeartbeats 1000000 in
theorem open_long (x : Value) (b : List UInt8) (w : World) (n : Nat) (hn : b.length = n + 4) (hx : Slc w x b) (hlen : (n : Int) ≤ 140737488355328) :
    Calls Tryd.prog 7 #[x] w fun e w' => OpenRet w.heap.size w' (openB b) e ∧ Stay (fun _ => False) w w' := by
  have HX := Lib.hid hx
  obtain ⟨a0, c0, rfl, hr, _, hc0, hcm⟩ := id hx
  obtain ⟨ad, rfl, hcell⟩ := hr (by omega)
  have hcut := (hx.cut (k := n) (by omega)).1
  rw [if_neg (by omega), Option.map_some, hn, Nat.add_sub_cancel_left] at hcut
  have hfst := hx.first (k := n) (by omega)
  have hdl : (b.drop n).length = 4 := by rw [List.length_drop]; omega
  have htl : (b.take n).length = n := by rw [List.length_take]; omega
  have hcn : ¬ c0 = n := by omega
  have hcc : (n : Int) + 4 ≤ c0 := by omega
  have hld : ∀ W, Stay (fun _ => False) w W → (loadVar 47 (ad.add n)).run Tryd.prog W = .ok (.agg (cellsB (b.drop n)).toArray) W := fun W hW =>
    run_loadVar_at W (ad.add n) 47 (cellsB (b.drop n)) _ Tryd.underlying47 rfl (info_tail4 hdl) (fun j v hv => by
      have h1 : (ad.add n).add j = ad.add (n + j) := by
        unfold Addr.add
        by_cases h1 : n = 0 <;> by_cases h2 : j = 0 <;> simp [h1, h2, Nat.add_assoc]
      rw [h1]
      refine (hW.cell (hcell (n + j) v (by rw [← hv]; simp [cellsB])) (fun x => x)))
  have HCUT := Lib.hid hcut
  have HF := Lib.hid hfst
  have HLD := Lib.hid hld
  have HDL := Lib.hid hdl
  have HTL := Lib.hid htl
  have HN := Lib.hid hn
  have hm := moreN_lt 1 (b.take n)
  rw [hn] at hx ⊢
  clear hx hcut hfst hr hcell hld hdl htl hc0
  have HNN := Lib.hid hn
  clear hn
  go_enter Tryd.func7, Tryd.ntmps7
  go_wp2_with fail
  obtain ⟨D, hDd⟩ : ∃ D : World → Prop, D = Stay (fun _ => False) w := ⟨_, rfl⟩
  have HD := Lib.hid (show ∀ W, D W → Stay (fun _ => False) w W by intro W h; rw [hDd] at h; exact h)
  have HDm := Lib.hid (show ∀ W, Stay (fun _ => False) w W → D W by intro W h; rw [hDd]; exact h)
  clear hDd
  have HN0 := Lib.hid (HDm.out _ (Stay.drew (w := w)))
  have karr := fun (w : World) (a : Option Addr) (c : Nat) => array_at w a c
  have k1 := fun i : InC D => HLD.out _ (HD.out _ i.h)
  have k2 := fun i : InC D => eq_tail i.w (b.drop n) (tailB (moreN 1 (b.take n))) HDL.out rfl
  have H1 := Lib.hid (show ∀ W, D W → Calls Tryd.prog 14 #[.slice (some ad) n c0] W fun e w' => e = .returned (.int .u32 ((moreN 1 (b.take n) : Nat) : Int)) ∧ D w' from fun W h => (sum_any (b.take n) _ W (HF.out.stay0 (HD.out W h))).mono fun e w' ⟨h1, h2⟩ => ⟨h1, h2 ▸ h⟩)
  have H2 := Lib.hid (show ∀ W, D W → Calls Tryd.prog 17 #[.int .u32 ((moreN 1 (b.take n) : Nat) : Int)] W fun e w' => e = .returned (.agg (cellsB (tailB (moreN 1 (b.take n)))).toArray) ∧ D w' from fun W h => (spell_any (moreN 1 (b.take n)) W (by omega)).mono fun e w' ⟨h1, h2⟩ => ⟨h1, HDm.out _ ((HD.out W h).trans h2)⟩)
  haveI : Nonempty (InC D) := ⟨⟨_, HN0.out⟩⟩
  refine wp_region_class D HN0.out (by kernel_rfl) (by kernel_rfl) ?_
  repeat (go_big_quiet_step ((first
    | with_reducible exact calls_class H1.out
    | with_reducible exact calls_class H2.out)))
  refine quiet_load rfl 47 (.tmp 14) rfl (ad.add n) rfl _ k1 ?_
  go_frame
  repeat (go_big_quiet_step ((first
    | with_reducible exact calls_class H1.out
    | with_reducible exact calls_class H2.out)))
  refine wpQuiet_nil ?_
  rintro W ⟨i, rfl⟩
  have hst := HD.out _ i.h
  clear k1 k2 karr
  generalize i.w = w9 at *
  have HS := Lib.hid hst
  have hn := HNN.out
  have hE0 := open_form hn
  clear hst
  by_cases hE : b.drop n = tailB (moreN 1 (b.take n))
  · have hb : (b.drop n == tailB (moreN 1 (b.take n))) = true := beq_iff_eq.2 hE
    have HO := Lib.hid (hE0.trans (if_pos hE))
    rw [hb]
    clear hE hE0 hn hb
    go_wp2_with fail
    have hcl := clone_slc w9 (.slice (some ad) n c0) (b.take n) (HF.out.stay0 HS.out) (by rw [HTL.out]; omega)
    refine hcl.mono ?_
    rintro e w10 ⟨v, rfl, how, hs10⟩
    have hfin := HS.out.trans hs10
    have how' := how.base (base' := w.heap.size) (fun k hk => Nat.le_trans HS.out.size (how.lt k hk).1)
    clear hcl how hs10
    go_wp2
    go_ret2
    exact ⟨by rw [HO.out]; exact ⟨v, rfl, how'⟩, hfin⟩
  · have hb : (b.drop n == tailB (moreN 1 (b.take n))) = false := beq_eq_false_iff_ne.2 hE
    have HO := Lib.hid (hE0.trans (if_neg hE))
    rw [hb]
    clear hE hE0 hn hb
    go_wp2
    go_ret2
    exact ⟨by rw [HO.out]; rfl, HS.out⟩

theorem open_any (x : Value) (b : List UInt8) (w : World) (hx : Slc w x b) (hlen : b.length ≤ 140737488355328) :
    Calls Tryd.prog 7 #[x] w fun e w' => OpenRet w.heap.size w' (openB b) e ∧ Stay (fun _ => False) w w' := by
  by_cases h : b.length < 4
  · exact open_short x b w hx h
  · exact open_long x b w (b.length - 4) (by omega) hx (by omega)

end Go.Proofs.YtkbkjpeghbiadaaDoor.Hn
