/-
  bloom: New; the bits of a key.
-/
import Derived.Test.YtgchdgdhjafdbaaDoorBoA
import Derived.BigQuiet
namespace Go.Proofs.YtgchdgdhjafdbaaDoor.Bo
open Go.RowKit Pk
set_option maxRecDepth 100000

theorem bytesFor_any (s : Nat) (w : World) (hs : s ≤ 1048576) : Calls Tryd.prog 23 #[.int .i64 s] w fun e w' => e = .returned (.int .i64 (need s : Nat)) ∧ w = w' := by
  go_enter Tryd.func23, Tryd.ntmps23
  go_wp2
  go_ret
  exact ⟨by unfold need; congr 1, rfl⟩

theorem new_bad (s q : Int) (w : World) (h1 : -9223372036854775808 ≤ s) (h2 : s ≤ 9223372036854775807) (h3 : -9223372036854775808 ≤ q) (h4 : q ≤ 9223372036854775807) (hb : s < 1 ∨ 1048576 < s ∨ q < 1 ∨ 16 < q) :
    Calls Tryd.prog 6 #[.int .i64 s, .int .i64 q] w fun e w' => e = .returned (.tuple #[.pointer none, Hn.errI 1]) ∧ w = w' := by
  by_cases c1 : s < 1
  · go_enter Tryd.func6, Tryd.ntmps6
    go_wp2
    go_ret2
    exact ⟨rfl, rfl⟩
  · by_cases c2 : 1048576 < s
    · go_enter Tryd.func6, Tryd.ntmps6
      go_wp2
      go_ret2
      exact ⟨rfl, rfl⟩
    · by_cases c3 : q < 1
      · clear hb
        go_enter Tryd.func6, Tryd.ntmps6
        go_wp2
        go_ret2
        exact ⟨rfl, rfl⟩
      · have c4 : 16 < q := by omega
        clear hb
        go_enter Tryd.func6, Tryd.ntmps6
        go_wp2
        go_ret2
        exact ⟨rfl, rfl⟩

theorem pack_none (s : Nat) : packB (List.replicate s false) = List.replicate (need s) 0 := ((IsP.none s).uniq (packB_is _)).symm
set_option maxHeartbeats 1000000 in
theorem new_any (s q : Nat) (w : World) (h1 : 1 ≤ s) (h2 : s ≤ 1048576) (h3 : 1 ≤ q) (h4 : q ≤ 16) :
    Calls Tryd.prog 6 #[.int .i64 s, .int .i64 q] w fun e w' => ∃ p g, e = .returned (.tuple #[.pointer (some ⟨p, 0, none⟩), .nilIface]) ∧ w.heap.size ≤ p ∧ w.heap.size ≤ g ∧ FAt w' p g q (List.replicate s false) ∧ Stay (fun _ => False) w w' := by
  go_enter Tryd.func6, Tryd.ntmps6
  go_wp2_with fail
  refine (bytesFor_any s w h2).mono ?_
  rintro e w' ⟨rfl, rfl⟩
  have hn : need s ≤ 4294967296 := by unfold need; omega
  obtain ⟨n, hN⟩ : ∃ n, n = need s := ⟨_, rfl⟩
  rw [← hN] at hn ⊢
  have HN := Lib.hid hN
  clear hN
  go_wp2_with (with_reducible refine make_u8 rfl (.tmp 24) (.tmp 24) rfl n rfl rfl hn ?_; intro w1 ho1 hs1 hz1; have HO := Lib.hid ho1; have HS := Lib.hid hs1; clear ho1 hs1)
  go_ret2
  refine ⟨w.heap.size + 1, w.heap.size, rfl, by omega, Nat.le_refl _, ⟨by simpa using h1, by simpa using h2, h3, h4, by omega, n, n, by rw [List.length_replicate, HN.out], ?_, ?_⟩, HS.out.trans (Stay.alloc _ _)⟩
  · rw [List.length_replicate]
    have := heap_alloc_new w1 (.cells #[.int .i64 (s : Int), .int .i64 (q : Int), .slice (some ⟨w.heap.size, 0, none⟩) n n] 58)
    rw [hz1] at this
    exact this
  · rw [pack_none, ← HN.out]
    exact (HO.out.stay0 (Stay.alloc _ _)).base (fun k _ => Nat.zero_le k)

theorem bits_nil (x : Value) (w : World) : Calls Tryd.prog 16 #[.pointer none, x] w fun e w' => e = .returned (.slice none 0 0) ∧ w = w' := by
  go_enter Tryd.func16, Tryd.ntmps16
  go_wp2
  go_ret
  exact ⟨rfl, rfl⟩

end Go.Proofs.YtgchdgdhjafdbaaDoor.Bo
