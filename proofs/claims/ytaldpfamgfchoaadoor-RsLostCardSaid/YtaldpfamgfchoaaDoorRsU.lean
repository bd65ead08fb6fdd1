/-
  rs, the document's: New, Row.
-/
import Derived.Test.YtaldpfamgfchoaaDoorRsT
import Derived.Test.YtaldpfamgfchoaaDoorGfD
namespace Go.Proofs.YtaldpfamgfchoaaDoor.Rs
open Go.RowKit Gf
set_option maxRecDepth 100000

/-- The document's code by value. -/
def codeV (k m : Int) : Value := .agg #[.int .i64 k, .int .i64 m]

theorem info_code : (Tryd.prog.info? 31).map (·.size) = some 2 := by kernel_rfl
theorem load_code {W : World} {g : Nat} {x y : Value} (h : W.heap[g]? = some (.cells #[x, y] 31 (0, 0))) : (loadVar 31 ⟨g, 0, none⟩).run Tryd.prog W = .ok (.agg #[x, y]) W :=
  run_loadVar_mid (P := Tryd.prog) W g 0 31 31 #[x, y] #[x, y] (0, 0) _ h Tryd.underlying31 rfl info_code (fun j _ => by rw [Nat.zero_add])
theorem rnew_bad (w : World) (K M : Int) (hK : K ≤ 9223372036854775807) (h : K < 1 ∨ M < 0 ∨ 32 - M < K) :
    Calls Tryd.prog 10 #[.int .i64 K, .int .i64 M] w fun e w' => e = .returned (.tuple #[codeV 0 0, .int .i64 1]) ∧ Stay (fun _ => False) w w' := by
  have hld := load_code (heap_alloc_new w (.cells #[.int .i64 0, .int .i64 0] 31))
  have HLD := Lib.hid hld
  unfold codeV
  clear hld
  by_cases h1 : K < 1
  · clear h
    go_enter Tryd.func10, Tryd.ntmps10
    go_wp2
    refine bodyPost_ret (v := .tuple #[.agg #[.int .i64 0, .int .i64 0], .int .i64 1]) (by simp [results, Tryd.results10, asAddr, HLD.out]) rfl ?_
    exact ⟨rfl, Stay.alloc _ _⟩
  · by_cases h2 : M < 0
    · clear h
      go_enter Tryd.func10, Tryd.ntmps10
      go_wp2
      refine bodyPost_ret (v := .tuple #[.agg #[.int .i64 0, .int .i64 0], .int .i64 1]) (by simp [results, Tryd.results10, asAddr, HLD.out]) rfl ?_
      exact ⟨rfl, Stay.alloc _ _⟩
    · by_cases h3 : 32 < K
      · clear h
        go_enter Tryd.func10, Tryd.ntmps10
        go_wp2
        refine bodyPost_ret (v := .tuple #[.agg #[.int .i64 0, .int .i64 0], .int .i64 1]) (by simp [results, Tryd.results10, asAddr, HLD.out]) rfl ?_
        exact ⟨rfl, Stay.alloc _ _⟩
      · have h4 : 32 - K < M := by omega
        clear h
        go_enter Tryd.func10, Tryd.ntmps10
        go_wp2
        refine bodyPost_ret (v := .tuple #[.agg #[.int .i64 0, .int .i64 0], .int .i64 1]) (by simp [results, Tryd.results10, asAddr, HLD.out]) rfl ?_
        exact ⟨rfl, Stay.alloc _ _⟩
theorem rnew_good (w : World) (k m : Nat) (h1 : 1 ≤ k) (h2 : k + m ≤ 32) :
    Calls Tryd.prog 10 #[.int .i64 (k : Int), .int .i64 (m : Int)] w fun e w' => e = .returned (.tuple #[codeV k m, .int .i64 0]) ∧ Stay (fun _ => False) w w' := by
  have hld := load_code (heap_alloc_new w (.cells #[.int .i64 (k : Int), .int .i64 (m : Int)] 31))
  have HLD := Lib.hid hld
  have q1 : ¬ (k : Int) < 1 := by omega
  have q2 : ¬ (m : Int) < 0 := by omega
  have q3 : ¬ (32 : Int) < (k : Int) := by omega
  have q4 : ¬ (32 : Int) - (k : Int) < (m : Int) := by omega
  have q5 : (k : Int) ≤ 32 := by omega
  have q6 : (m : Int) ≤ 32 := by omega
  unfold codeV
  clear h1 h2 hld
  go_enter Tryd.func10, Tryd.ntmps10
  go_wp2
  refine bodyPost_ret (v := .tuple #[.agg #[.int .i64 (k : Int), .int .i64 (m : Int)], .int .i64 0]) (by simp [results, Tryd.results10, asAddr, HLD.out]) rfl ?_
  exact ⟨rfl, Stay.alloc _ _⟩

theorem rrow_bad (w : World) (k m : Nat) (p : Int) (hk : k + m ≤ 32) (hp : p < 0 ∨ ((k + m : Nat) : Int) ≤ p) :
    Calls Tryd.prog 24 #[codeV k m, .int .i64 p] w fun e w' => e = .returned (.tuple #[.slice none 0 0, .int .i64 1]) ∧ Stay (fun _ => False) w w' := by
  have q1 : (k : Int) + (m : Int) ≤ 32 := by omega
  unfold codeV
  by_cases h : p < 0
  · clear hp hk
    go_enter Tryd.func24, Tryd.ntmps24
    go_wp2
    go_ret2
    exact ⟨rfl, Stay.alloc _ _⟩
  · have h2 : (k : Int) + (m : Int) ≤ p := by omega
    clear hp hk
    go_enter Tryd.func24, Tryd.ntmps24
    go_wp2
    go_ret2
    exact ⟨rfl, Stay.alloc _ _⟩

set_option maxHeartbeats 1000000 in
theorem rrow_any (w : World) (k m p : Nat) (hk : k + m ≤ 32) (hp : p < k + m) :
    Calls Tryd.prog 24 #[codeV k m, .int .i64 (p : Int)] w fun e w' => ∃ v, e = .returned (.tuple #[v, .int .i64 0]) ∧ Owns w.heap.size w' v (lf k (rowF k p)) ∧ Stay (fun _ => False) w w' := by
  obtain ⟨w1, hw1⟩ : ∃ w1, w1 = w.alloc (.cells #[.int .i64 (k : Int), .int .i64 (m : Int)] 31) := ⟨_, rfl⟩
  have hs1 : Stay (fun _ => False) w w1 := hw1 ▸ Stay.alloc w _
  have hc0 : w1.cell? ⟨w.heap.size, 0, none⟩ = some (.int .i64 (k : Int)) := by rw [hw1, cell_of_row _ _ _ _ _ _ (heap_alloc_new w _)]; rfl
  have hsz : w1.heap.size = w.heap.size + 1 := by rw [hw1]; simp
  have q0 : ¬ (p : Int) < 0 := by omega
  have q1 : (k : Int) + (m : Int) ≤ 32 := by omega
  have q2 : ¬ (k : Int) + (m : Int) ≤ (p : Int) := by omega
  have S1 := Lib.hid hs1
  have C0 := Lib.hid hc0
  have HW := Lib.hid hw1
  have HP := Lib.hid hp
  have HK := Lib.hid hk
  have HSZ := Lib.hid hsz
  unfold codeV
  clear hs1 hw1 hp hk hsz hc0
  go_enter Tryd.func24, Tryd.ntmps24
  go_wp2_with fail
  rw [← HW.out]
  go_loopw [6, 7] (fun v i wr => ∃ j : Nat, j ≤ k ∧ i = .int .i64 (j : Int) ∧ Owns w1.heap.size wr v (lf j (rowF k p)) ∧ Stay (fun _ => False) w1 wr) (fun _ i _ => k - (intOf i).toNat)
  case atStart => exact ⟨0, by omega, rfl, Owns.nil _ _, Stay.refl _ _⟩
  case round =>
    obtain ⟨j, hj, rfl, how, hst⟩ := hrel
    have c0 := hst.cell C0.out (fun x => x)
    by_cases hlt : j < k
    · have q3 : (j : Int) < (k : Int) := by omega
      have HST := Lib.hid hst
      have HJ := Lib.hid hlt
      have HLO := Lib.hid how.lt
      have HOW := Lib.hid how
      clear hst hlt how
      by_cases hpk : k ≤ p
      · have q4 : (k : Int) ≤ (p : Int) := by omega
        obtain ⟨x, hx⟩ : ∃ x, x = p ^^^ j := ⟨_, rfl⟩
        have hx2 : x < 256 := by rw [hx]; have := HP.out; have := HK.out; exact xor_lt (by omega) (by omega)
        have hx3 : x ≠ 0 := by rw [hx]; have := HJ.out; exact xor_ne (by omega)
        have e1 : bits BinOp.xor IntKind.i64 (p : Int) (j : Int) = (x : Int) := by rw [hx]; have := HP.out; have := HK.out; exact Rs.xor_i64 (by omega) (by omega)
        have e2 : IntKind.u8.wrap (x : Int) = (x : Int) := by rw [IntKind.wrap_u8]; omega
        have HX := Lib.hid hx
        have HX2 := Lib.hid hx2
        have HX3 := Lib.hid hx3
        have HPK := Lib.hid hpk
        clear hx hx2 hx3 hpk
        go_wp2_with fail
        refine (rinv_any wr x HX3.out HX2.out).mono ?_
        rintro e w2 ⟨rfl, rfl⟩
        go_wp2_with (first
          | (at_builtin
             refine append_1 (w := w2) rfl (.tmp 43) (.tmp 45) rfl rfl rfl HOW.out (by
               rw [← invB_ofNat HX2.out]
               unfold rowF
               rw [if_neg (by have := HPK.out; omega), ← HX.out]) HST.out.size (by have := HJ.out; have := HK.out; omega) ?_
             intro v3 w3 h3 s3 o3
             have H3 := Lib.hid h3
             have S3 := Lib.hid (stay_grow HST.out s3 (fun i e => (HLO.out i e).1))
             clear h3 s3 o3))
        have hj := HJ.out
        exact ⟨⟨j + 1, by omega, by go_num, H3.out, S3.out⟩, by simp [intOf]; omega⟩
      · have q4 : ¬ (k : Int) ≤ (p : Int) := by omega
        by_cases hpj : p = j
        · have q5 : ((p : Int) == (j : Int)) = true := by rw [hpj]; simp
          have HPJ := Lib.hid hpj
          have HPK := Lib.hid hpk
          clear hpj hpk
          go_wp2_with (first
            | (at_builtin
               refine append_1 (w := wr) rfl (.tmp 51) (.tmp 52) rfl rfl rfl HOW.out (by
                 unfold rowF
                 rw [if_pos (by have := HPK.out; omega), if_pos HPJ.out.symm]
                 rfl) HST.out.size (by have := HJ.out; have := HK.out; omega) ?_
               intro v3 w3 h3 s3 o3
               have H3 := Lib.hid h3
               have S3 := Lib.hid (stay_grow HST.out s3 (fun i e => (HLO.out i e).1))
               clear h3 s3 o3))
          have hj := HJ.out
          exact ⟨⟨j + 1, by omega, by go_num, H3.out, S3.out⟩, by simp [intOf]; omega⟩
        · have q5 : ((p : Int) == (j : Int)) = false := by simp; omega
          have HPJ := Lib.hid hpj
          have HPK := Lib.hid hpk
          clear hpj hpk
          go_wp2_with (first
            | (at_builtin
               refine append_1 (w := wr) rfl (.tmp 27) (.tmp 28) rfl rfl rfl HOW.out (by
                 unfold rowF
                 rw [if_pos (by have := HPK.out; omega), if_neg (fun e => HPJ.out e.symm)]
                 rfl) HST.out.size (by have := HJ.out; have := HK.out; omega) ?_
               intro v3 w3 h3 s3 o3
               have H3 := Lib.hid h3
               have S3 := Lib.hid (stay_grow HST.out s3 (fun i e => (HLO.out i e).1))
               clear h3 s3 o3))
          have hj := HJ.out
          exact ⟨⟨j + 1, by omega, by go_num, H3.out, S3.out⟩, by simp [intOf]; omega⟩
    · obtain rfl : j = k := by omega
      have HOW := Lib.hid how
      have HST := Lib.hid hst
      clear hst how
      go_wp2
      go_ret2
      exact ⟨_, rfl, ownsRow_base_le HOW.out S1.out.size, S1.out.trans HST.out⟩
end Go.Proofs.YtaldpfamgfchoaaDoor.Rs
