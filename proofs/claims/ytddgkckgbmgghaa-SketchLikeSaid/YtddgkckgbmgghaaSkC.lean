/-
  sketch: the least sum of a block's windows; a block's sketch, and the document's.
-/
import Derived.Test.YtddgkckgbmgghaaSkB
import Derived.Test.YtddgkckgbmgghaaArr
namespace Go.Proofs.Ytddgkckgbmgghaa.Sk
open Go.RowKit Hn
set_option maxRecDepth 100000

theorem zero_64 (w : World) : (zeroValue 23).run Try.prog w = .ok (arrV (List.replicate 64 0)) w := by kernel_rfl
theorem info_64 : (Try.prog.info? 23).map (·.size) = some 64 := by kernel_rfl
theorem arr_64 : IsArr 23 64 := ⟨zero_64, info_64, _, Try.underlying23, rfl⟩

theorem under_64 : Try.prog.underlying 23 = some (.array (Try.prog.arrayLen 23) (Try.prog.elem 23)) := by kernel_rfl
theorem len_64 : Try.prog.arrayLen 23 = 64 := by kernel_rfl
theorem size_64 (w : World) : (sizeOf (Try.prog.elem 23)).run Try.prog w = .ok 1 w := by kernel_rfl
/-- A window as a slice. -/
theorem run_win (w : World) (g i : Nat) (hi : i + 8 ≤ 64) :
    (Instr.sliceAt 23 (.pointer (some ⟨g, 0, none⟩)) (some (.int .i64 (i : Int))) (some (.int .i64 ((i : Int) + 8))) none).run Try.prog w = .ok (.slice (some ⟨g, i, none⟩) 8 (64 - i)) w := by
  rw [run_sliceAt_array_lh w 23 ⟨g, 0, none⟩ under_64 .i64 .i64 (i : Int) ((i : Int) + 8) (by omega) (by omega) (by rw [len_64]; omega), size_64, len_64]
  have e1 : ((i : Int)).toNat = i := by omega
  have e2 : ((i : Int) + 8).toNat = i + 8 := by omega
  simp only [Result.andThen, slicedAt, e1, e2, Nat.mul_one]
  rw [if_neg (by omega), show i + 8 - i = 8 by omega, add_at, Nat.zero_add]

/-- The least sum of the first k windows. -/
def leastN (c : UInt8) (b : List UInt8) : Nat → Nat
  | 0 => 4294967295
  | k + 1 => min (leastN c b k) (winN c ((b.drop k).take 8))
theorem leastN_lt (c : UInt8) (b : List UInt8) : ∀ k, leastN c b k ≤ 4294967295
  | 0 => Nat.le_refl _
  | k + 1 => by
    have := leastN_lt c b k
    unfold leastN
    omega

set_option maxHeartbeats 1000000 in
theorem least_any (z : Int) (b : List UInt8) (w : World) (hb : b.length = 64) :
    Calls Try.prog 17 #[.int .i64 z, arrV b] w fun e w' => e = .returned (u32V (leastN (lowB z) b 57)) ∧ Stay (fun _ => False) w w' := by
  have H0 := Lib.hid (BAt.new w 23 b)
  have HB := Lib.hid hb
  unfold u32V arrV
  clear hb
  go_enter Try.func17, Try.ntmps17
  go_wp2
  go_loopw [5, 7] (fun n i wr => ∃ k : Nat, k ≤ 57 ∧ i = .int .i64 (k : Int) ∧ n = .int .u32 (leastN (lowB z) b k : Int) ∧ BAt wr w.heap.size 23 b ∧ Stay (fun _ => False) w wr) (fun _ i _ => 57 - (intOf i).toNat)
  case atStart => exact ⟨0, by omega, rfl, rfl, H0.out, Stay.alloc _ _⟩
  case round =>
    obtain ⟨k, hk, rfl, rfl, hf, hst⟩ := hrel
    have hle := leastN_lt (lowB z) b k
    by_cases hlt : k < 57
    · have HN := Lib.hid (show leastN (lowB z) b (k + 1) = min (leastN (lowB z) b k) (winN (lowB z) ((b.drop k).take 8)) from rfl)
      have hw := winN_lt (lowB z) ((b.drop k).take 8)
      have HX := Lib.hid (hf.part (i := k) (n := 8) (c := 64 - k) (by rw [HB.out]; omega) (by omega) (by omega))
      have HF := Lib.hid hf
      have HST := Lib.hid hst
      have ks := run_win wr w.heap.size k (by omega)
      clear hf hst
      go_wp2_with fail
      refine (window_any z _ _ wr HX.out).mono ?_
      rintro e w2 ⟨rfl, s2⟩
      have HF2 := Lib.hid (HF.out.stay0 s2)
      have HS2 := Lib.hid (HST.out.trans s2)
      clear s2
      unfold u32V
      generalize winN (lowB z) ((b.drop k).take 8) = m at *
      generalize leastN (lowB z) b k = n at *
      go_wp2
      refine ⟨⟨k + 1, by omega, by go_num, by rw [HN.out]; go_num, HF2.out, HS2.out⟩, by simp [intOf]; omega⟩
    · obtain rfl : k = 57 := by omega
      go_wp2
      go_ret
      exact ⟨rfl, hst⟩

/-- A type of four numbers. -/
structure IsQ (ty : TypeId) : Prop where
  zero : ∀ w, (zeroValue ty).run Try.prog w = .ok (skV (fun _ => 0)) w
  info : (Try.prog.info? ty).map (·.size) = some 4
  under : ∃ d, Try.prog.underlying ty = some d ∧ (match d with | .struct _ | .array _ _ => true | _ => false) = true
theorem q_sk : IsQ 27 := ⟨fun w => by kernel_rfl, by kernel_rfl, _, Try.underlying27, rfl⟩
theorem q_arr : IsQ 25 := ⟨fun w => by kernel_rfl, by kernel_rfl, _, Try.underlying25, rfl⟩
section
variable {ty : TypeId}
theorem IsQ.run_load (A : IsQ ty) {w : World} {g : Nat} {f : Nat → Nat} (hg : QAt w g ty f) : (loadVar ty ⟨g, 0, none⟩).run Try.prog w = .ok (skV f) w := by
  obtain ⟨d, hu, hd⟩ := A.under
  exact run_loadVar_mid (P := Try.prog) w g 0 ty ty (qC f).toArray (qC f).toArray (0, 0) d hg hu (by cases d <;> first | rfl | cases hd) A.info (fun j _ => by rw [Nat.zero_add])
theorem IsQ.load (A : IsQ ty) {ops : Array Oper} {rest : List Oper} {o : Oper} {a : Act} {w : World} {Q : Exit → Act → World → Prop} (hgd : Region.wanted o (yielded ops a.tmps) = true) (x : Operand) (ho : o.op = .load ty x)
    (g : Nat) (hx : a.eval x = .pointer (some ⟨g, 0, none⟩)) (f : Nat → Nat) (hg : QAt w g ty f)
    (hn : wpList Try.prog ops Q rest (a.put o.dst (skV f)) w) : wpList Try.prog ops Q (o :: rest) a w :=
  wpList_load_run hgd ty x ho _ hx _ (A.run_load hg) hn
theorem splice_q (f g : Nat → Nat) : splice (qC f) 0 (qC g) = qC g := rfl
theorem IsQ.store (A : IsQ ty) {ops : Array Oper} {rest : List Oper} {o : Oper} {a : Act} {w : World} {Q : Exit → Act → World → Prop} (hgd : o.guard = none) (x y : Operand) (ho : o.op = .store ty x y)
    (g : Nat) (hx : a.eval x = .pointer (some ⟨g, 0, none⟩)) (f0 f : Nat → Nat) (hy : a.eval y = skV f) (hg : QAt w g ty f0)
    (hn : ∀ w', QAt w' g ty f → Stay (· = g) w w' → wpList Try.prog ops Q rest (a.put o.dst undef) w') : wpList Try.prog ops Q (o :: rest) a w :=
  wpList_store_mid hgd ty x y ho g 0 hx ty (qC f0) (qC f) hy hg A.info (Nat.le_refl _) (oneCell_qC _) (fun w' h1 h2 => hn w' h1 h2)
theorem IsQ.alloc (A : IsQ ty) {ops : Array Oper} {rest : List Oper} {o : Oper} {a : Act} {w : World} {Q : Exit → Act → World → Prop} (hgd : o.guard = none) (ho : o.op = .alloc ty)
    (hn : wpList Try.prog ops Q rest (a.put o.dst (.pointer (some ⟨w.heap.size, 0, none⟩))) (w.alloc (.cells (qC (fun _ => 0)).toArray ty))) : wpList Try.prog ops Q (o :: rest) a w :=
  wpList_alloc_at hgd ty ho _ (A.zero _) hn
end
theorem QAt.congr {w : World} {g : Nat} {ty : TypeId} {f f' : Nat → Nat} (h : QAt w g ty f) (e : ∀ i, i < 4 → f i = f' i) : QAt w g ty f' := by
  unfold QAt
  rw [← qC_congr e]
  exact h

/-- A block's sketch. -/
def skN (b : List UInt8) (i : Nat) : Nat := leastN (lowB (i : Int)) b 57
/-- Its first k parts, noughts behind. -/
def fillQ (b : List UInt8) (k : Nat) : Nat → Nat := fun i => if i < k then skN b i else 0
theorem fillQ_put (b : List UInt8) (k : Nat) : put (fillQ b k) k (leastN (lowB (k : Int)) b 57) = fillQ b (k + 1) := by
  funext i
  unfold put fillQ
  by_cases h : i = k
  · subst h
    rw [if_pos rfl, if_pos (by omega)]
    rfl
  · rw [if_neg h]
    by_cases h1 : i < k
    · rw [if_pos h1, if_pos (by omega)]
    · rw [if_neg h1, if_neg (by omega)]

set_option maxHeartbeats 1000000 in
theorem of_any (b : List UInt8) (w : World) (hb : b.length = 64) :
    Calls Try.prog 9 #[arrV b] w fun e w' => e = .returned (skV (skN b)) ∧ Stay (fun _ => False) w w' := by
  have hx0 := BAt.new w 23 b
  generalize hw0 : w.alloc (.cells (cellsB b).toArray 23) = w0 at hx0
  have hs0 : Stay (fun _ => False) w w0 := hw0 ▸ Stay.alloc _ _
  have n0 : w0.heap.size = w.heap.size + 1 := by rw [← hw0]; simp
  have hx1 := QAt.new w0 27 (fun _ => 0)
  generalize hw1 : w0.alloc (.cells (qC (fun _ => 0)).toArray 27) = w1 at hx1
  have hs1 : Stay (fun _ => False) w0 w1 := hw1 ▸ Stay.alloc _ _
  have n1 : w1.heap.size = w.heap.size + 2 := by rw [← hw1]; simp [n0]
  have hx2 := QAt.new w1 27 (fun _ => 0)
  generalize hw2 : w1.alloc (.cells (qC (fun _ => 0)).toArray 27) = w2 at hx2
  have hs2 : Stay (fun _ => False) w1 w2 := hw2 ▸ Stay.alloc _ _
  rw [n0] at hx1
  rw [n1] at hx2
  have HB := Lib.hid hb
  have H0 := Lib.hid ((hx0.stay0 hs1).stay0 hs2)
  have H1 := Lib.hid (hx1.stay hs2 (fun x => x))
  have H2 := Lib.hid hx2
  have HS := Lib.hid ((hs0.trans hs1).trans hs2)
  have W0 := Lib.hid hw0
  have W1 := Lib.hid hw1
  have W2 := Lib.hid hw2
  have N0 := Lib.hid n0
  have N1 := Lib.hid n1
  unfold arrV
  clear hb hx0 hx1 hx2 hs0 hs1 hs2 hw0 hw1 hw2 n0 n1
  go_enter Try.func9, Try.ntmps9
  go_wp2_with (first
    | (with_reducible refine q_sk.alloc rfl rfl ?_; first | rw [W0.out, N0.out, W1.out] | rw [W0.out, W1.out, W2.out] | rw [N1.out, W2.out]))
  clear W0 W1 W2 N0 N1
  go_loopw [5] (fun i wr => ∃ k : Nat, k ≤ 4 ∧ i = .int .i64 (k : Int) ∧ BAt wr w.heap.size 23 b ∧ QAt wr (w.heap.size + 1) 27 (fun _ => 0) ∧ QAt wr (w.heap.size + 2) 27 (fillQ b k) ∧ Stay (fun _ => False) w wr) (fun i _ => 4 - (intOf i).toNat)
  case atStart => exact ⟨0, by omega, rfl, H0.out, H1.out, H2.out.congr (fun i _ => by simp [fillQ]), HS.out⟩
  case round =>
    obtain ⟨k, hk, rfl, hf, h1, h2, hst⟩ := hrel
    have HST := Lib.hid hst
    have K1 := Lib.hid h1
    have K2 := Lib.hid h2
    have KF := Lib.hid hf
    clear hf h1 h2 hst
    by_cases hlt : k < 4
    · go_wp2_with (refine arr_64.load rfl (.tmp 1) rfl w.heap.size rfl b HB.out KF.out ?_)
      refine (least_any (k : Int) b wr HB.out).mono ?_
      rintro e wx ⟨rfl, sx⟩
      have hle := leastN_lt (lowB (k : Int)) b 57
      have k2 := K2.out.stay sx (fun x => x)
      have KF2 := Lib.hid (KF.out.stay0 sx)
      have K12 := Lib.hid (K1.out.stay sx (fun x => x))
      have K22 := Lib.hid k2
      have HST2 := Lib.hid (HST.out.trans sx)
      have hc := k2.c hlt
      have hfz := k2.fr k
      have HP := Lib.hid (fillQ_put b k)
      clear sx k2
      unfold u32V
      generalize leastN (lowB (k : Int)) b 57 = m at *
      go_wp2
      refine ⟨⟨k + 1, by omega, by go_num, KF2.out.stay (Stay.setCell (X := fun j => j = w.heap.size + 2) _ _ _ rfl) (fun e => by omega), K12.out.stay (Stay.setCell (X := fun j => j = w.heap.size + 2) _ _ _ rfl) (fun e => by omega), by rw [← HP.out]; exact K22.out.set hlt m, stay_seal (X := fun j => w.heap.size ≤ j) ((HST2.out.mono (fun _ x => x.elim)).trans (Stay.setCell _ _ _ (by simp))) (fun _ hk => hk)⟩, by simp [intOf]; omega⟩
    · obtain rfl : k = 4 := by omega
      go_wp2_with (first
        | (refine q_sk.load rfl (.tmp 3) rfl (w.heap.size + 2) rfl _ K2.out ?_)
        | (refine q_sk.store rfl (.tmp 2) (.tmp 14) rfl (w.heap.size + 1) rfl _ (fillQ b 4) rfl K1.out ?_; intro w3 h3 s3; have H3 := Lib.hid h3; clear h3))
      have hld := q_sk.run_load H3.out
      have hsz := HST.out.size
      refine bodyPost_ret (v := skV (fillQ b 4)) (by simp [results, Try.results9, asAddr, Act.put, hld]) rfl ⟨?_, ?_⟩
      · unfold skV
        rw [qC_congr (f := fillQ b 4) (g := skN b) (fun i hi => by unfold fillQ; rw [if_pos hi])]
      · exact stay_seal (X := fun k => w.heap.size ≤ k) ((HST.out.mono (fun _ x => x.elim)).trans (s3.mono (fun k hk => by omega))) (fun _ hk => hk)
end Go.Proofs.Ytddgkckgbmgghaa.Sk
