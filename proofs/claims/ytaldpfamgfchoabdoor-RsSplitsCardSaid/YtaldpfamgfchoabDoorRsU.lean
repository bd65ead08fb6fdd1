/-
  rs, the document's: New, Row.
-/
import Derived.Test.YtaldpfamgfchoabDoorRsT
import Derived.Test.YtaldpfamgfchoabDoorGfD
namespace Go.Proofs.YtaldpfamgfchoabDoor.Rs
open Go.RowKit Gf
set_option maxRecDepth 100000

/-- The document's code by value. -/
def codeV (k m : Int) : Value := .agg #[.int .i64 k, .int .i64 m]

theorem info_code : (Tryd.prog.info? 30).map (·.size) = some 2 := by kernel_rfl
theorem load_code {W : World} {g : Nat} {x y : Value} (h : W.heap[g]? = some (.cells #[x, y] 30 (0, 0))) : (loadVar 30 ⟨g, 0, none⟩).run Tryd.prog W = .ok (.agg #[x, y]) W :=
  run_loadVar_mid (P := Tryd.prog) W g 0 30 30 #[x, y] #[x, y] (0, 0) _ h Tryd.underlying30 rfl info_code (fun j _ => by rw [Nat.zero_add])
theorem rnew_bad (w : World) (K M : Int) (hK : K ≤ 9223372036854775807) (h : K < 1 ∨ M < 0 ∨ 32 - M < K) :
    Calls Tryd.prog 5 #[.int .i64 K, .int .i64 M] w fun e w' => e = .returned (.tuple #[codeV 0 0, .int .i64 1]) ∧ Stay (fun _ => False) w w' := by
  have hld := load_code (heap_alloc_new w (.cells #[.int .i64 0, .int .i64 0] 30))
  have HLD := Lib.hid hld
  unfold codeV
  clear hld
  by_cases h1 : K < 1
  · clear h
    go_enter Tryd.func5, Tryd.ntmps5
    go_wp2
    refine bodyPost_ret (v := .tuple #[.agg #[.int .i64 0, .int .i64 0], .int .i64 1]) (by simp [results, Tryd.results5, asAddr, HLD.out]) rfl ?_
    exact ⟨rfl, Stay.alloc _ _⟩
  · by_cases h2 : M < 0
    · clear h
      go_enter Tryd.func5, Tryd.ntmps5
      go_wp2
      refine bodyPost_ret (v := .tuple #[.agg #[.int .i64 0, .int .i64 0], .int .i64 1]) (by simp [results, Tryd.results5, asAddr, HLD.out]) rfl ?_
      exact ⟨rfl, Stay.alloc _ _⟩
    · by_cases h3 : 32 < K
      · clear h
        go_enter Tryd.func5, Tryd.ntmps5
        go_wp2
        refine bodyPost_ret (v := .tuple #[.agg #[.int .i64 0, .int .i64 0], .int .i64 1]) (by simp [results, Tryd.results5, asAddr, HLD.out]) rfl ?_
        exact ⟨rfl, Stay.alloc _ _⟩
      · have h4 : 32 - K < M := by omega
        clear h
        go_enter Tryd.func5, Tryd.ntmps5
        go_wp2
        refine bodyPost_ret (v := .tuple #[.agg #[.int .i64 0, .int .i64 0], .int .i64 1]) (by simp [results, Tryd.results5, asAddr, HLD.out]) rfl ?_
        exact ⟨rfl, Stay.alloc _ _⟩
theorem rnew_good (w : World) (k m : Nat) (h1 : 1 ≤ k) (h2 : k + m ≤ 32) :
    Calls Tryd.prog 5 #[.int .i64 (k : Int), .int .i64 (m : Int)] w fun e w' => e = .returned (.tuple #[codeV k m, .int .i64 0]) ∧ Stay (fun _ => False) w w' := by
  have hld := load_code (heap_alloc_new w (.cells #[.int .i64 (k : Int), .int .i64 (m : Int)] 30))
  have HLD := Lib.hid hld
  have q1 : ¬ (k : Int) < 1 := by omega
  have q2 : ¬ (m : Int) < 0 := by omega
  have q3 : ¬ (32 : Int) < (k : Int) := by omega
  have q4 : ¬ (32 : Int) - (k : Int) < (m : Int) := by omega
  have q5 : (k : Int) ≤ 32 := by omega
  have q6 : (m : Int) ≤ 32 := by omega
  unfold codeV
  clear h1 h2 hld
  go_enter Tryd.func5, Tryd.ntmps5
  go_wp2
  refine bodyPost_ret (v := .tuple #[.agg #[.int .i64 (k : Int), .int .i64 (m : Int)], .int .i64 0]) (by simp [results, Tryd.results5, asAddr, HLD.out]) rfl ?_
  exact ⟨rfl, Stay.alloc _ _⟩

end Go.Proofs.YtaldpfamgfchoabDoor.Rs
