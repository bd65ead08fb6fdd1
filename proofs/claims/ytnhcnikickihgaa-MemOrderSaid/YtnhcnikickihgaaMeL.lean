/-
  mem: what must come whatever the input is; a Mem all of whose blocks are newer than a world.
-/
import Derived.Test.YtnhcnikickihgaaMeK
namespace Go.Proofs.Ytnhcnikickihgaa.Me
open Go.RowKit Go.Maps
set_option maxRecDepth 100000
set_option linter.unusedVariables false

/-- A Mem that was made since w0. -/
def Since (w0 w : World) (p : Nat) (L : List En) : Prop := MAt (fun k => w0.heap.size ≤ k) w p L ∧ Stay (fun _ => False) w0 w
theorem Since.stay0 {w0 w w' : World} {p : Nat} {L : List En} (h : Since w0 w p L) (hs : Stay (fun _ => False) w w') : Since w0 w' p L := ⟨h.1.stay0 hs, h.2.trans hs⟩
theorem new_since (w0 w : World) (h : Stay (fun _ => False) w0 w) : Calls Try.prog 7 #[] w fun e w' => e = .returned (.pointer (some ⟨w.heap.size, 0, none⟩)) ∧ Since w0 w' w.heap.size [] :=
  (new_any w).mono fun e w' ⟨h1, h2, h3⟩ => ⟨h1, h2.mono (fun k _ hk => by have := h.size; omega), h.trans h3⟩
theorem put_since {w0 w : World} {p : Nat} {L : List En} (e : En) (h : Since w0 w p L) (hl : L.length ≤ 1000) :
    Calls Try.prog 8 #[.pointer (some ⟨p, 0, none⟩), enV e] w fun x w' => x = .returned (.tuple #[]) ∧ Since w0 w' p (putL L e) :=
  (put_any w p L e h.1 hl).mono fun x w' ⟨h1, h2⟩ => ⟨h1, h2.m.mono (fun k _ hk => by have := h.2.size; omega), stay_seal ((h.2.mono (fun _ x => x.elim)).trans h2.s) (fun _ hk => hk)⟩

def sureL : List En := [⟨[97], [121], false⟩, ⟨[98], [], true⟩]
theorem sure_puts : putL (putL (putL [] ⟨[98], [120], false⟩) ⟨[97], [121], false⟩) ⟨[98], [], true⟩ = sureL := by decide +kernel
theorem sure_one : putL [] ⟨[98], [120], false⟩ = [⟨[98], [120], false⟩] := by decide +kernel
theorem sure_two : putL [⟨[98], [120], false⟩] ⟨[97], [121], false⟩ = [⟨[97], [121], false⟩, ⟨[98], [120], false⟩] := by decide +kernel
theorem sure_three : putL [⟨[97], [121], false⟩, ⟨[98], [120], false⟩] ⟨[98], [], true⟩ = sureL := by decide +kernel

theorem two_ens (w : World) (a b : En) : EnS (w.alloc (.cells (enRows [a, b]).toArray 27)) (.slice (some ⟨w.heap.size, 0, none⟩) 2 2) [a, b] := by
  have h := heap_alloc_new w (.cells (enRows [a, b]).toArray 27)
  refine ⟨_, 2, rfl, Nat.le_refl _, by decide, (fun h => by cases h), fun _ => ⟨_, 0, rfl, fun i e he j u hu => ?_⟩⟩
  rw [cell_of_row _ _ _ _ _ _ h, List.getElem?_toArray, show 0 + i * 3 + j = i * 3 + j by omega, enRows_get (List.getElem?_eq_some_iff.1 hu).1 _ _ he]
  exact hu

set_option maxHeartbeats 4000000 in
theorem sure_any (w : World) : Calls Try.prog 20 #[] w fun e w' => e = .returned (.bool true) ∧ Stay (fun _ => False) w w' := by
  go_enter Try.func20, Try.ntmps20
  go_wp2_with fail
  refine (new_since w w (Stay.refl _ _)).mono ?_
  rintro e w1 ⟨rfl, h1⟩
  have H1 := Lib.hid h1
  clear h1
  go_wp2_with fail
  refine (put_since ⟨[98], [120], false⟩ H1.out (by decide)).mono ?_
  rintro e w2 ⟨rfl, h2⟩
  rw [sure_one] at h2
  have H2 := Lib.hid h2
  clear h2
  go_wp2_with fail
  refine (put_since ⟨[97], [121], false⟩ H2.out (by decide)).mono ?_
  rintro e w3 ⟨rfl, h3⟩
  rw [sure_two] at h3
  have H3 := Lib.hid h3
  clear h3
  go_wp2_with fail
  refine (put_since ⟨[98], [], true⟩ H3.out (by decide)).mono ?_
  rintro e w4 ⟨rfl, h4⟩
  rw [sure_three] at h4
  have H4 := Lib.hid h4
  clear h4
  go_wp2_with fail
  refine (entries_any w4 _ sureL H4.out.1.mr H4.out.1.srt (by decide)).mono ?_
  rintro e w5 ⟨v, rfl, ho, s5⟩
  have HO := Lib.hid ho
  have H5 := Lib.hid (H4.out.stay0 s5)
  have hst : Stay (fun _ => False) w5 (w5.alloc (.cells (enRows sureL).toArray 27)) := Stay.alloc _ _
  have hen := two_ens w5 ⟨[97], [121], false⟩ ⟨[98], [], true⟩
  obtain ⟨w6, hw6⟩ : ∃ w6, w5.alloc (.cells (enRows sureL).toArray 27) = w6 := ⟨_, rfl⟩
  rw [hw6] at hst
  rw [show w5.alloc (.cells (enRows [⟨[97], [121], false⟩, ⟨[98], [], true⟩]).toArray 27) = w6 from hw6] at hen
  have W6 := Lib.hid hw6
  have HE := Lib.hid hen
  have HS6 := Lib.hid hst
  have HO6 := Lib.hid (HO.out.stay0 hst)
  have H6 := Lib.hid (H5.out.stay0 hst)
  clear ho s5 hst hen hw6
  go_wp2_with fail
  rw [show w5.alloc (.cells #[.string ⟨#[97]⟩, .string ⟨#[121]⟩, .bool false, .string ⟨#[98]⟩, .string ⟨#[]⟩, .bool true] 27) = w6 from W6.out]
  refine (entries_eq w6 _ _ sureL [⟨[97], [121], false⟩, ⟨[98], [], true⟩] HO6.out.ens HE.out).mono ?_
  rintro e w7 ⟨rfl, s7⟩
  have H7 := Lib.hid (H6.out.stay0 s7)
  clear s7
  rw [show decide (sureL = [⟨[97], [121], false⟩, ⟨[98], [], true⟩]) = true from by decide]
  go_wp2_with fail
  refine (size_any w7 _ sureL H7.out.1.mr (by decide)).mono ?_
  rintro e w8 ⟨rfl, s8⟩
  have H8 := Lib.hid (H7.out.stay0 s8)
  clear s8
  rw [show sizeL sureL = 3 from by decide]
  go_wp2
  go_ret
  exact ⟨rfl, H8.out.2⟩
end Go.Proofs.Ytnhcnikickihgaa.Me
