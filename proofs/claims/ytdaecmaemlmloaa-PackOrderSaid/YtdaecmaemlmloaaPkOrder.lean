/-
  PackOrder's walk.
-/
import Derived.Test.YtdaecmaemlmloaaPkF
import Derived.Test.YtdaecmaemlmloaaPkLess
namespace Go.Proofs.Ytdaecmaemlmloaa.Pk
open Go.RowKit
set_option maxRecDepth 100000

theorem new_abs (w : World) : Calls Try.prog 6 #[] w fun e w' => ∃ p, e = .returned (.pointer (some ⟨p, 0, none⟩)) ∧ WrAt (fun k => w.heap.size ≤ k) w' p [] ∧ Stay (fun _ => False) w w' :=
  (new_any w).mono fun e w' ⟨h1, h2⟩ => by
    subst h2
    exact ⟨_, h1, WrAt.new w, Stay.alloc _ _⟩
theorem uint_seal (w0 w : World) (p : Nat) (l : List UInt8) (n : Nat) (hs : Stay (fun _ => False) w0 w) (h : WrAt (fun k => w0.heap.size ≤ k) w p l) (hn : (n : Int) ≤ 18446744073709551615) (hlen : l.length + 9 ≤ 140737488355328) :
    Calls Try.prog 19 #[.pointer (some ⟨p, 0, none⟩), .int .u64 n] w fun e w' => e = .returned (.pointer (some ⟨p, 0, none⟩)) ∧ WrAt (fun k => w0.heap.size ≤ k) w' p (l ++ spellB n) ∧ Stay (fun _ => False) w0 w' :=
  (uint_any _ w p l n h hn hlen).mono fun e w' ⟨h1, h2, h3⟩ => ⟨h1, h2.mono (fun k hk => by rcases hk with hk | hk; exact hk; exact Nat.le_trans hs.size hk), stay_seal ((hs.mono (fun _ x => x.elim)).trans h3) (fun k hk => hk)⟩

set_option maxHeartbeats 2000000 in
theorem order_walk (n m : Nat) (w : World) (hn : (n : Int) ≤ 18446744073709551615) (hm : (m : Int) ≤ 18446744073709551615) :
    Calls Try.prog 5 #[.int .u64 n, .int .u64 m] w fun e w' => e = .returned (.bool true) ∧ Stay (fun _ => False) w w' := by
  have hT : Stay (fun _ => False) w w.drew := Stay.drew
  have hL := spell_less (n := n) (m := m) (by omega) (by omega)
  have HM := Lib.hid (fun h => spell_len_mono (n := n) (m := m) h)
  have h9 : ((spellB n).length : Int) ≤ 9 := by have := spell_len9 n; omega
  have hl9 : (spellB n).length ≤ 140737488355328 := by have := kOf_le n; rw [length_spellB]; omega
  have hm9 : (spellB m).length ≤ 140737488355328 := by have := kOf_le m; rw [length_spellB]; omega
  go_enter Try.func5, Try.ntmps5
  go_wp2_with fail
  go_region_with (first
    | (go_at_call 6; refine (new_abs _).mono ?_; rintro e w' ⟨p, rfl, hW, hs⟩; (try (have hcA := conv_slc (hSA.stay0 hs))))
    | (go_at_call 19; refine (uint_seal _ _ _ _ _ hs hW (by assumption) (by simp)).mono ?_; rintro e w' ⟨rfl, hW, hs⟩; (try (have hcA := conv_slc (hSA.stay0 hs))))
    | (go_at_call 9; refine (done_any _ _ _ _ hW (by assumption)).mono ?_; rintro e w' ⟨v, rfl, how, hd⟩; (first
        | (have hcA := conv_slc (hSA.stay0 (hs.trans hd)); have hcB := conv_slc how.slc; have hT := (hT.trans hs).trans hd; clear hs hd hW how)
        | (have hSA := how.slc; have hcA := conv_slc hSA; have hT := (hT.trans hs).trans hd; clear hs hd hW how))))
  all_goals
    unfold strV
    by_cases hnm : n ≤ m
    · have hlm := HM.out hnm
      go_wp2_with fail
      refine (sure_any _).mono ?_
      rintro e w9 ⟨rfl, hs9⟩
      go_wp2
      go_ret
      exact ⟨rfl, hT.trans hs9⟩
    · have hmn : m < n := by omega
      go_wp2_with fail
      refine (sure_any _).mono ?_
      rintro e w9 ⟨rfl, hs9⟩
      go_wp2
      go_ret
      exact ⟨rfl, hT.trans hs9⟩

end Go.Proofs.Ytdaecmaemlmloaa.Pk
