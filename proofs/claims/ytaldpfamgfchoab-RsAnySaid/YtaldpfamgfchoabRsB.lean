/-
  rs: what is made, stored; a row; Row.
-/
import Derived.Test.YtaldpfamgfchoabRsA
namespace Go.Proofs.Ytaldpfamgfchoab.Rs
open Go.RowKit Gf
set_option maxRecDepth 100000

def intOf : Value → Int
  | .int _ x => x
  | _ => 0
theorem made_bytes (n : Nat) : madeCells (Value.int .u8 0).cells n = (cellsB (lf n (fun _ => 0))).toArray := by
  unfold madeCells
  apply Array.ext
  · simp [cellsB, lf]
  · intro i h1 h2
    simp [cellsB, lf, byteV, Value.cells, Nat.mod_one]
theorem run_make_b (w : World) (n : Nat) (hn : n ≤ 281474976710656) : (Instr.makeSlice 24 (.int .i64 (n : Int)) (.int .i64 (n : Int))).run Try.prog w = .ok (.slice (some ⟨w.heap.size, 0, none⟩) n n) (w.alloc (.cells (cellsB (lf n (fun _ => 0))).toArray 5)) := by
  obtain ⟨i0, hi, hz0, hz1, hz2⟩ := info_parts info5
  have hm := run_make (P := Try.prog) w 24 5 i0 (.int .u8 0) Try.underlying24 hi hz0 .i64 .i64 n n (by omega) (Int.le_refl _) (by rw [hz2]; omega) (by omega)
  rw [hz1, Int.toNat_natCast, Nat.mul_one, made_bytes] at hm
  exact hm
theorem infoL : (Try.prog.info? 24).map (fun i => (i.zero, i.size, i.bytes)) = some (some (.slice none 0 0), 1, 24) := by kernel_rfl
theorem made_rows (n : Nat) : madeCells (Value.slice none 0 0).cells n = (cellsV n (fun _ => .slice none 0 0)).toArray := by
  unfold madeCells
  apply Array.ext
  · simp [cellsV]
  · intro i h1 h2
    simp [cellsV, Value.cells, Nat.mod_one]
theorem run_make_l (w : World) (n : Nat) (hn : n ≤ 4294967296) : (Instr.makeSlice 34 (.int .i64 (n : Int)) (.int .i64 (n : Int))).run Try.prog w = .ok (.slice (some ⟨w.heap.size, 0, none⟩) n n) (w.alloc (.cells (cellsV n (fun _ => .slice none 0 0)).toArray 24)) := by
  obtain ⟨i0, hi, hz0, hz1, hz2⟩ := info_parts infoL
  have hm := run_make (P := Try.prog) w 34 24 i0 (.slice none 0 0) Try.underlying34 hi hz0 .i64 .i64 n n (by omega) (Int.le_refl _) (by rw [hz2]; omega) (by omega)
  rw [hz1, Int.toNat_natCast, Nat.mul_one, made_rows] at hm
  exact hm
theorem splice_one (S : List Value) (i : Nat) (v : Value) (h : i < S.length) : splice S i [v] = S.set i v := by
  unfold splice
  rw [List.set_eq_take_append_cons_drop, if_pos h]
  simp
section
variable {ops : Array Oper} {rest : List Oper} {o : Oper} {a : Act} {w : World} {Q : Exit → Act → World → Prop}
theorem make_b (hgd : o.guard = none) (x y : Operand) (ho : o.op = .makeSlice 24 x y) (n : Nat) (hx : a.eval x = .int .i64 (n : Int)) (hy : a.eval y = .int .i64 (n : Int)) (hn : n ≤ 281474976710656)
    (h : ∀ w1, FB w1 w.heap.size n (fun _ => 0) → Stay (fun _ => False) w w1 → w.heap.size < w1.heap.size → wpList Try.prog ops Q rest (a.put o.dst (.slice (some ⟨w.heap.size, 0, none⟩) n n)) w1) : wpList Try.prog ops Q (o :: rest) a w :=
  wpList_plain hgd fun _ hK => by
    unfold Oper.wp execOp
    simp only [ho, hx, hy, Sem.run_bind, Sem.run_pure, run_make_b w n hn, Result.andThen_ok]
    exact hK _ _ (h _ (FB.new w n) (Stay.alloc _ _) (by simp))
theorem make_l (hgd : o.guard = none) (x y : Operand) (ho : o.op = .makeSlice 34 x y) (n : Nat) (hx : a.eval x = .int .i64 (n : Int)) (hy : a.eval y = .int .i64 (n : Int)) (hn : n ≤ 4294967296)
    (h : ∀ w1, LB w1 w.heap.size n (fun _ => .slice none 0 0) → Stay (fun _ => False) w w1 → w.heap.size < w1.heap.size → wpList Try.prog ops Q rest (a.put o.dst (.slice (some ⟨w.heap.size, 0, none⟩) n n)) w1) : wpList Try.prog ops Q (o :: rest) a w :=
  wpList_plain hgd fun _ hK => by
    unfold Oper.wp execOp
    simp only [ho, hx, hy, Sem.run_bind, Sem.run_pure, run_make_l w n hn, Result.andThen_ok]
    exact hK _ _ (h _ (LB.new w n _) (Stay.alloc _ _) (by simp))
theorem run_store_b {g n : Nat} {f : Nat → UInt8} (h : FB w g n f) {k : Nat} (hk : k < n) (v : UInt8) : ∃ w', (storeVar 5 ⟨g, k, none⟩ (.int .u8 (v.toNat : Int))).run Try.prog w = .ok () w' ∧ FB w' g n (putB f k v) ∧ Stay (· = g) w w' := by
  have hlen : k < (cellsB (lf n f)).length := by rw [length_cellsB, length_lf]; exact hk
  have hst := run_storeCells_at Try.prog g k 5 [.int .u8 (v.toNat : Int)] 0 (cellsB (lf n f)).toArray w h (by simp at hlen ⊢; omega) (fun u hu => by
    rw [List.mem_singleton.1 hu]
    rfl)
  have hs : (sizeOf 5).run Try.prog w = .ok 1 w := by kernel_rfl
  refine ⟨w.setRow g (splice (cellsB (lf n f)) k [.int .u8 (v.toNat : Int)]).toArray, ?_, ?_, Stay.setRow w g _ rfl⟩
  · simp [storeVar, Value.cells, Sem.run_bind, hs, hst, splice]
  · unfold FB
    rw [setRow_heap w g _ _ 5 _ h, splice_one _ _ _ hlen, ← lf_put f hk v]
    rfl
theorem store_b (hgd : o.guard = none) (x y : Operand) (ho : o.op = .store 5 x y)
    {g n : Nat} {f : Nat → UInt8} (k : Nat) (v : UInt8) (hx : a.eval x = .pointer (some ⟨g, k, none⟩)) (hy : a.eval y = .int .u8 (v.toNat : Int)) (h : FB w g n f) (hk : k < n)
    (hn : ∀ w', FB w' g n (putB f k v) → Stay (· = g) w w' → wpList Try.prog ops Q rest (a.put o.dst undef) w') : wpList Try.prog ops Q (o :: rest) a w :=
  wpList_plain hgd fun _ hK => by
    obtain ⟨w', hr, h1, h2⟩ := run_store_b h hk v
    unfold Oper.wp execOp
    simp only [ho, hx, hy, Instr.storeAt, Instr.sureAddr, Sem.run_bind, Sem.run_pure, Result.andThen_ok, hr]
    exact hK _ _ (hn w' h1 h2)
theorem run_store_l {g n : Nat} {f : Nat → Value} (h : LB w g n f) {k : Nat} (hk : k < n) (a0 : Option Addr) (l c : Nat) : ∃ w', (storeVar 24 ⟨g, k, none⟩ (.slice a0 l c)).run Try.prog w = .ok () w' ∧ LB w' g n (putV f k (.slice a0 l c)) ∧ Stay (· = g) w w' := by
  have hlen : k < (cellsV n f).length := by rw [length_cellsV]; exact hk
  have hst := run_storeCells_at Try.prog g k 24 [.slice a0 l c] 0 (cellsV n f).toArray w h (by simp at hlen ⊢; omega) (fun u hu => by
    rw [List.mem_singleton.1 hu]
    rfl)
  have hs : (sizeOf 24).run Try.prog w = .ok 1 w := by kernel_rfl
  refine ⟨w.setRow g (splice (cellsV n f) k [.slice a0 l c]).toArray, ?_, ?_, Stay.setRow w g _ rfl⟩
  · simp [storeVar, Value.cells, Sem.run_bind, hs, hst, splice]
  · unfold LB
    rw [setRow_heap w g _ _ 24 _ h, splice_one _ _ _ hlen, ← cellsV_put f hk]
theorem store_l (hgd : o.guard = none) (x y : Operand) (ho : o.op = .store 24 x y)
    {g n : Nat} {f : Nat → Value} (k : Nat) (a0 : Option Addr) (l c : Nat) (hx : a.eval x = .pointer (some ⟨g, k, none⟩)) (hy : a.eval y = .slice a0 l c) (h : LB w g n f) (hk : k < n)
    (hn : ∀ w', LB w' g n (putV f k (.slice a0 l c)) → Stay (· = g) w w' → wpList Try.prog ops Q rest (a.put o.dst undef) w') : wpList Try.prog ops Q (o :: rest) a w :=
  wpList_plain hgd fun _ hK => by
    obtain ⟨w', hr, h1, h2⟩ := run_store_l h hk a0 l c
    unfold Oper.wp execOp
    simp only [ho, hx, hy, Instr.storeAt, Instr.sureAddr, Sem.run_bind, Sem.run_pure, Result.andThen_ok, hr]
    exact hK _ _ (hn w' h1 h2)
end

theorem xor_i64' : ∀ a b : Fin 64, bits BinOp.xor IntKind.i64 ((a.val : Nat) : Int) ((b.val : Nat) : Int) = ((a.val ^^^ b.val : Nat) : Int) := by decide +kernel
theorem xor_i64 {x y : Nat} (hx : x < 64) (hy : y < 64) : bits BinOp.xor IntKind.i64 (x : Int) (y : Int) = ((x ^^^ y : Nat) : Int) := xor_i64' ⟨x, hx⟩ ⟨y, hy⟩
theorem xor_ne {x y : Nat} (h : x ≠ y) : x ^^^ y ≠ 0 := fun e => h (by
  have : (x ^^^ y) ^^^ y = 0 ^^^ y := by rw [e]
  rwa [Nat.xor_assoc, Nat.xor_self, Nat.xor_zero, Nat.zero_xor] at this)
theorem invB_ofNat {x : Nat} (h : x < 256) : ((invB (UInt8.ofNat x)).toNat : Int) = (invN x : Int) := by
  rw [invB_nat]
  have : (UInt8.ofNat x).toNat = x := by simp; omega
  rw [this]

set_option maxHeartbeats 1000000 in
theorem row_any (w : World) (c g k m p : Nat) (h : Cd w c g k m) (hp : p < k + m) :
    Calls Try.prog 16 #[.pointer (some ⟨c, 0, none⟩), .int .i64 (p : Int)] w fun e w' => e = .returned (.slice (some ⟨w.heap.size, 0, none⟩) k k) ∧ FB w' w.heap.size k (rowF k p) ∧ Cd w' c g k m ∧ Stay (· = g) w w' := by
  have c0 := h.c0
  have k1 : (k : Int) ≤ 32 := by have := h.km; omega
  have H := Lib.hid h
  have HP := Lib.hid hp
  have HK := Lib.hid (show k ≤ 32 by have := h.km; omega)
  clear h hp
  by_cases hlt : p < k
  · have q1 : (p : Int) < (k : Int) := by omega
    have HLT := Lib.hid hlt
    clear hlt
    go_enter Try.func16, Try.ntmps16
    go_wp2_with (first
      | (with_reducible refine make_b rfl _ _ rfl k rfl rfl (by have := HK.out; omega) ?_
         intro w1 h1 s1 l1
         have HB := Lib.hid h1
         have S1 := Lib.hid s1
         have c0 := H.out.stay0 s1 |>.c0
         clear h1 s1 l1)
      | (with_reducible refine store_b rfl (.tmp 20) (.const (.int .u8 1)) rfl p 1 rfl rfl HB.out HLT.out ?_
         intro w2 h2 s2
         have HB2 := Lib.hid h2
         have S2 := Lib.hid s2
         clear h2 s2))
    go_ret
    have hst : Stay (fun _ => False) w w2 := stay_seal ((S1.out.mono (Y := fun i => w.heap.size ≤ i) (fun _ x => x.elim)).trans (S2.out.mono (fun i e => by omega))) (fun _ h => h)
    refine ⟨rfl, HB2.out.congr (fun i _ => ?_), H.out.stay0 hst, hst.mono (fun _ x => x.elim)⟩
    have := HLT.out
    unfold putB rowF
    rw [if_pos this]
  · have q1 : ¬ (p : Int) < (k : Int) := by omega
    have HLT := Lib.hid (show k ≤ p by omega)
    clear hlt
    go_enter Try.func16, Try.ntmps16
    go_wp2_with (first
      | (with_reducible refine make_b rfl _ _ rfl k rfl rfl (by have := HK.out; omega) ?_
         intro w1 h1 s1 l1
         have HB := Lib.hid h1
         have S1 := Lib.hid s1
         have C1 := Lib.hid (H.out.stay0 s1)
         have c0 := C1.out.c0
         clear h1 s1 l1))
    clear c0
    go_loopw [24] (fun i wr => ∃ j : Nat, j ≤ k ∧ i = .int .i64 (j : Int) ∧ FB wr w.heap.size k (fun c => if c < j then rowF k p c else 0) ∧ Cd wr c g k m ∧ Stay (· = g) w wr) (fun i _ => k - (intOf i).toNat)
    case atStart => exact ⟨0, by omega, rfl, HB.out.congr (fun i _ => (if_neg (by omega)).symm), C1.out, S1.out.mono (fun _ x => x.elim)⟩
    case round =>
      obtain ⟨j, hj, rfl, hb, hc, hst⟩ := hrel
      by_cases hlt : j < k
      · have q2 : (j : Int) < (k : Int) := by omega
        have c2 := hc.c2
        obtain ⟨x, hx⟩ : ∃ x, x = p ^^^ j := ⟨_, rfl⟩
        have hx2 : x < 256 := by rw [hx]; have := HP.out; have := H.out.km; exact xor_lt (by omega) (by omega)
        have hx3 : x ≠ 0 := by rw [hx]; have := HLT.out; exact xor_ne (by omega)
        have e1 : bits BinOp.xor IntKind.i64 (p : Int) (j : Int) = (x : Int) := by rw [hx]; have := HP.out; have := H.out.km; exact xor_i64 (by omega) (by omega)
        have e2 : IntKind.u8.wrap (x : Int) = (x : Int) := by rw [IntKind.wrap_u8]; omega
        have HB := Lib.hid hb
        have HC := Lib.hid hc
        have HST := Lib.hid hst
        have HX := Lib.hid hx
        have HX2 := Lib.hid hx2
        have HX3 := Lib.hid hx3
        have HJ := Lib.hid hlt
        clear hb hc hst hx hx2 hx3 hlt
        go_wp2_with fail
        refine (inv_any wr g x HX3.out HX2.out HC.out.f).mono ?_
        rintro e w3 ⟨rfl, h3, s3⟩
        have F3 := Lib.hid h3
        have S3 := Lib.hid s3
        clear h3 s3
        have HG := Lib.hid (show w.heap.size ≠ g by have := H.out.f.lt; omega)
        have HB3 := Lib.hid (HB.out.stay S3.out HG.out)
        rw [← invB_ofNat HX2.out]
        go_wp2_with (first
          | (with_reducible refine store_b rfl (.tmp 41) (.tmp 39) rfl j (invB (UInt8.ofNat x)) rfl rfl HB3.out HJ.out ?_
             intro w4 h4 s4
             have HB4 := Lib.hid h4
             have S4 := Lib.hid s4
             clear h4 s4))
        have hj := HJ.out
        have hcd := HC.out.stay S3.out F3.out
        have hs4 : Stay (· = g) w w4 := HST.out.trans S3.out |>.andThen S4.out (fun i hi (e : i = w.heap.size) => by omega)
        refine ⟨⟨j + 1, by omega, by go_num, HB4.out.congr (fun i hi => ?_), ⟨(S4.out.block c hcd.lt (fun (e : c = w.heap.size) => by have := H.out.lt; omega)).trans hcd.blk, hcd.f.stay S4.out (fun e => HG.out e.symm), hcd.ne, hcd.k1, hcd.km⟩, hs4⟩, by simp [intOf]; omega⟩
        unfold putB
        by_cases e : i = j
        · subst e
          rw [if_pos rfl, if_pos (by omega)]
          unfold rowF
          rw [if_neg (by have := HLT.out; omega), ← HX.out]
        · rw [if_neg e]
          by_cases h1 : i < j
          · exact (if_pos h1).trans (if_pos (by omega)).symm
          · exact (if_neg h1).trans (if_neg (by omega)).symm
      · obtain rfl : j = k := by omega
        have HB := Lib.hid hb
        have HC := Lib.hid hc
        have HST := Lib.hid hst
        clear hb hc hst
        go_wp2
        go_ret
        exact ⟨rfl, HB.out.congr (fun i hi => if_pos hi), HC.out, HST.out⟩
end Go.Proofs.Ytaldpfamgfchoab.Rs
