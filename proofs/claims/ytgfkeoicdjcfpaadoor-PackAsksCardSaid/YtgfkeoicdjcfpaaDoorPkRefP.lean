/-
  The document's answer (chapter 2): a reader's Print.
-/
import Derived.Test.YtgfkeoicdjcfpaaDoorPkRefD
import Derived.Test.YtgfkeoicdjcfpaaDoorClass
namespace Go.Proofs.YtgfkeoicdjcfpaaDoor.Pk
open Go.RowKit
set_option maxRecDepth 100000

/-- ReadPrint's four blocks: the reader, the two answers, the print. -/
structure PrInv (w W : World) (x e x1 e1 : Value) (hc hd : List UInt8) : Prop where
  st : Stay (fun k => w.heap.size ≤ k) w W
  a : W.heap[w.heap.size]? = some (.cells #[x, e] 27 (0, 0))
  b : W.heap[w.heap.size + 1]? = some (.cells #[x1, e1] 27 (0, 0))
  c : PrtAt W (w.heap.size + 2) hc
  d : PrtAt W (w.heap.size + 3) hd

theorem rd_load {W : World} {g : Nat} {x e : Value} (h : W.heap[g]? = some (.cells #[x, e] 27 (0, 0))) : (loadVar 27 ⟨g, 0, none⟩).run Tryd.prog W = .ok (.agg #[x, e]) W :=
  run_loadVar_mid (P := Tryd.prog) W g 0 27 27 #[x, e] #[x, e] (0, 0) _ h Tryd.underlying27 rfl (by kernel_rfl) (fun j _ => by rw [Nat.zero_add])

theorem PrInv.stay0 {w W W' : World} {x e x1 e1 : Value} {hc hd : List UInt8} (h : PrInv w W x e x1 e1 hc hd) (hs : Stay (fun _ => False) W W') : PrInv w W' x e x1 e1 hc hd :=
  ⟨h.st.trans (hs.mono (fun _ y => y.elim)), (hs.block _ (lt_of_block h.a) (fun y => y)).trans h.a, (hs.block _ (lt_of_block h.b) (fun y => y)).trans h.b, h.c.stay hs (fun y => y), h.d.stay hs (fun y => y)⟩
theorem PrInv.setB {w W W' : World} {x e x1 e1 y1 y2 : Value} {hc hd : List UInt8} (h : PrInv w W x e x1 e1 hc hd) (hB : W'.heap[w.heap.size + 1]? = some (.cells (splice [x1, e1] 0 [y1, y2]).toArray 27 (0, 0))) (hs : Stay (· = w.heap.size + 1) W W') : PrInv w W' x e y1 y2 hc hd :=
  ⟨h.st.trans (hs.mono (fun k (y : k = _) => by omega)), (hs.block _ (lt_of_block h.a) (fun (y : _ = _) => by omega)).trans h.a, hB, h.c.stay hs (fun (y : _ = _) => by omega), h.d.stay hs (fun (y : _ = _) => by omega)⟩
theorem PrInv.setC {w W W' : World} {x e x1 e1 : Value} {hc hd h' : List UInt8} (h : PrInv w W x e x1 e1 hc hd) (hC : PrtAt W' (w.heap.size + 2) h') (hs : Stay (· = w.heap.size + 2) W W') : PrInv w W' x e x1 e1 h' hd :=
  ⟨h.st.trans (hs.mono (fun k (y : k = _) => by omega)), (hs.block _ (lt_of_block h.a) (fun (y : _ = _) => by omega)).trans h.a, (hs.block _ (lt_of_block h.b) (fun (y : _ = _) => by omega)).trans h.b, hC, h.d.stay hs (fun (y : _ = _) => by omega)⟩
theorem PrInv.setD {w W W' : World} {x e x1 e1 : Value} {hc hd h' : List UInt8} (h : PrInv w W x e x1 e1 hc hd) (hD : PrtAt W' (w.heap.size + 3) h') (hs : Stay (· = w.heap.size + 3) W W') : PrInv w W' x e x1 e1 hc h' :=
  ⟨h.st.trans (hs.mono (fun k (y : k = _) => by omega)), (hs.block _ (lt_of_block h.a) (fun (y : _ = _) => by omega)).trans h.a, (hs.block _ (lt_of_block h.b) (fun (y : _ = _) => by omega)).trans h.b, h.c.stay hs (fun (y : _ = _) => by omega), hD⟩
theorem PrInv.setA {w W W' : World} {x e x1 e1 y0 y1 : Value} {hc hd : List UInt8} (h : PrInv w W x e x1 e1 hc hd) (hA : W'.heap[w.heap.size]? = some (.cells #[y0, y1] 27 (0, 0))) (hs : Stay (· = w.heap.size) W W') : PrInv w W' y0 y1 x1 e1 hc hd :=
  ⟨h.st.trans (hs.mono (fun k (y : k = _) => by omega)), hA, (hs.block _ (lt_of_block h.b) (fun (y : _ = _) => by omega)).trans h.b, h.c.stay hs (fun (y : _ = _) => by omega), h.d.stay hs (fun (y : _ = _) => by omega)⟩
theorem PrInv.seal {w W : World} {x e x1 e1 : Value} {hc hd : List UInt8} (h : PrInv w W x e x1 e1 hc hd) : Stay (fun _ => False) w W := stay_seal h.st (fun _ hk => hk)
theorem pr_new (w : World) (x e : Value) : PrInv w ((((w.alloc (.cells #[x, e] 27)).alloc (.cells #[.slice none 0 0, .int .i64 0] 27)).alloc (.cells (cellsB z32).toArray 48)).alloc (.cells (cellsB z32).toArray 48)) x e (.slice none 0 0) (.int .i64 0) z32 z32 := by
  have e1 := heap_alloc_new w (.cells #[x, e] 27)
  have s1 := Stay.alloc (X := fun _ => False) w (.cells #[x, e] 27)
  generalize hw1 : w.alloc (.cells #[x, e] 27) = w1 at *
  have z1 : w1.heap.size = w.heap.size + 1 := by rw [← hw1]; simp
  have e2 := heap_alloc_new w1 (.cells #[.slice none 0 0, .int .i64 0] 27)
  have s2 := Stay.alloc (X := fun _ => False) w1 (.cells #[.slice none 0 0, .int .i64 0] 27)
  generalize hw2 : w1.alloc (.cells #[.slice none 0 0, .int .i64 0] 27) = w2 at *
  have z2 : w2.heap.size = w.heap.size + 2 := by rw [← hw2]; simp [z1]
  have e3 := PrtAt.new w2 z32
  have s3 := Stay.alloc (X := fun _ => False) w2 (.cells (cellsB z32).toArray 48)
  generalize hw3 : w2.alloc (.cells (cellsB z32).toArray 48) = w3 at *
  have z3 : w3.heap.size = w.heap.size + 3 := by rw [← hw3]; simp [z2]
  have e4 := PrtAt.new w3 z32
  have s4 := Stay.alloc (X := fun _ => False) w3 (.cells (cellsB z32).toArray 48)
  rw [z1] at e2
  rw [z2] at e3
  rw [z3] at e4
  have s34 := s3.trans s4
  have s24 := s2.trans s34
  exact ⟨(s1.trans s24).mono (fun _ y => y.elim), (s24.block _ (lt_of_block e1) (fun y => y)).trans e1, (s34.block _ (lt_of_block e2) (fun y => y)).trans e2, e3.stay s4 (fun y => y), e4⟩

set_option maxHeartbeats 2000000 in
theorem rrprint_bad (b : List UInt8) (err : Nat) (w : World) (x : Value) (hx : Slc w x b) (he : err ≠ 0) : Calls Tryd.prog 18 #[rdV x err] w fun e w' => RdRet prtV w' x (takeB sumB z32 ⟨b, err⟩) e ∧ Stay (fun _ => False) w w' := by
  have HX := Lib.hid hx
  obtain ⟨a0, cap, rfl, hr, hn, hcap, hcm⟩ := hx
  have HSUB := Lib.hid (Sub.refl HX.out)
  clear hr hn
  have hb : ((err : Int) == 0) = false := beq_eq_false_iff_ne.2 (by omega)
  obtain ⟨TK, htk⟩ : ∃ TK, TK = takeB sumB z32 ⟨b, err⟩ := ⟨_, rfl⟩
  rw [← htk]
  have HTK := Lib.hid (htk.trans (takeB_bad he))
  have HLH := Lib.hid len_z32
  clear htk
  unfold rdV
  have PI := Lib.hid ((pr_new w (.slice a0 b.length cap) (.int .i64 (err : Int))).stay0 Stay.drew)
  go_enter Tryd.func18, Tryd.ntmps18
  go_wp2_with (with_reducible refine alloc_prt rfl rfl ?_)
  refine wp_region_any (by kernel_rfl) ?_
  change wpAny _ _ _ _ _ _ _ (World.drew _)
  refine wpAny_ready (rs := [0, 1]) (by kernel_rfl) (by simp) (AllReady.cons rfl (fun K hK => ?_) (AllReady.cons rfl (fun K hK => ?_) AllReady.nil))
  · obtain ⟨ka0, ka1, _, _⟩ := two_cells PI.out.a
    go_simp
    refine hK _ _ ?_
    clear hK K ka0 ka1
    refine wpAny_ready (rs := [1, 2]) (by kernel_rfl) (by simp) (AllReady.cons rfl (fun K hK => ?_) (AllReady.cons rfl (fun K hK => ?_) AllReady.nil))
    · refine step_load_mid rfl 48 (.tmp 4) rfl (w.heap.size + 3) 0 rfl 48 (cellsB z32).toArray (cellsB z32).toArray (0, 0) _ PI.out.d Tryd.underlying48 rfl (info_prt_of HLH.out) (fun j _ => by rw [Nat.zero_add]) ?_
      refine hK _ _ ?_
      clear hK K
      refine wpAny_ready (rs := [2]) (by kernel_rfl) (by simp) (AllReady.cons rfl (fun K hK => ?_) AllReady.nil)
      · refine step_store_mid rfl 27 (.tmp 2) (.tmp 9) rfl (w.heap.size + 1) 0 rfl 27 [.slice none 0 0, .int .i64 0] [.slice a0 b.length cap, .int .i64 (err : Int)] rfl PI.out.b (by kernel_rfl) (Nat.le_refl _) (by intro v hv; simp at hv; rcases hv with rfl | rfl <;> rfl) ?_
        intro WPIb hB hS
        have PIb := Lib.hid (PI.out.setB hB hS)
        clear hB hS
        refine hK _ _ ?_
        clear hK K
        refine wpAny_ready (rs := [3]) (by kernel_rfl) (by simp) (AllReady.cons rfl (fun K hK => ?_) AllReady.nil)
        · refine step_store_mid rfl 48 (.tmp 3) (.tmp 10) rfl (w.heap.size + 2) 0 rfl 48 (cellsB z32) (cellsB z32) rfl PIb.out.c (by rw [length_cellsB, HLH.out]; exact info_prt) (by simp [length_cellsB, HLH.out]) (oneCell_cellsB _) ?_
          intro WPIbc hC hS
          have PIbc := Lib.hid (PIb.out.setC (show PrtAt _ _ z32 by rw [splice_prt z32 z32 len_z32 HLH.out] at hC; exact hC) hS)
          clear hC hS
          refine hK _ _ ?_
          clear hK K
          refine wpAny_done (by kernel_rfl) ?_ _
          have hl2 := rd_load PIbc.out.b
          have hld := results_prt HLH.out (show PrtAt _ (w.heap.size + 1 + 1) _ from PIbc.out.c)
          go_wp2
          have hfin := PIbc.out.seal
          refine bodyPost_ret (v := .tuple #[rdV (.slice a0 b.length cap) err, prtV z32]) (by simp [results, Tryd.results18, asAddr, Act.put, Result.andThen, hl2, hld]; rfl) rfl ⟨?_, hfin⟩
          rw [HTK.out]
          exact ⟨_, rfl, Sub.stay0 HSUB.out hfin⟩
    · refine step_store_mid rfl 27 (.tmp 2) (.tmp 9) rfl (w.heap.size + 1) 0 rfl 27 [.slice none 0 0, .int .i64 0] [.slice a0 b.length cap, .int .i64 (err : Int)] rfl PI.out.b (by kernel_rfl) (Nat.le_refl _) (by intro v hv; simp at hv; rcases hv with rfl | rfl <;> rfl) ?_
      intro WPIb hB hS
      have PIb := Lib.hid (PI.out.setB hB hS)
      clear hB hS
      refine hK _ _ ?_
      clear hK K
      refine wpAny_ready (rs := [1]) (by kernel_rfl) (by simp) (AllReady.cons rfl (fun K hK => ?_) AllReady.nil)
      · refine step_load_mid rfl 48 (.tmp 4) rfl (w.heap.size + 3) 0 rfl 48 (cellsB z32).toArray (cellsB z32).toArray (0, 0) _ PIb.out.d Tryd.underlying48 rfl (info_prt_of HLH.out) (fun j _ => by rw [Nat.zero_add]) ?_
        refine hK _ _ ?_
        clear hK K
        refine wpAny_ready (rs := [3]) (by kernel_rfl) (by simp) (AllReady.cons rfl (fun K hK => ?_) AllReady.nil)
        · refine step_store_mid rfl 48 (.tmp 3) (.tmp 10) rfl (w.heap.size + 2) 0 rfl 48 (cellsB z32) (cellsB z32) rfl PIb.out.c (by rw [length_cellsB, HLH.out]; exact info_prt) (by simp [length_cellsB, HLH.out]) (oneCell_cellsB _) ?_
          intro WPIbc hC hS
          have PIbc := Lib.hid (PIb.out.setC (show PrtAt _ _ z32 by rw [splice_prt z32 z32 len_z32 HLH.out] at hC; exact hC) hS)
          clear hC hS
          refine hK _ _ ?_
          clear hK K
          refine wpAny_done (by kernel_rfl) ?_ _
          have hl2 := rd_load PIbc.out.b
          have hld := results_prt HLH.out (show PrtAt _ (w.heap.size + 1 + 1) _ from PIbc.out.c)
          go_wp2
          have hfin := PIbc.out.seal
          refine bodyPost_ret (v := .tuple #[rdV (.slice a0 b.length cap) err, prtV z32]) (by simp [results, Tryd.results18, asAddr, Act.put, Result.andThen, hl2, hld]; rfl) rfl ⟨?_, hfin⟩
          rw [HTK.out]
          exact ⟨_, rfl, Sub.stay0 HSUB.out hfin⟩
  · refine step_load_mid rfl 48 (.tmp 4) rfl (w.heap.size + 3) 0 rfl 48 (cellsB z32).toArray (cellsB z32).toArray (0, 0) _ PI.out.d Tryd.underlying48 rfl (info_prt_of HLH.out) (fun j _ => by rw [Nat.zero_add]) ?_
    refine hK _ _ ?_
    clear hK K
    refine wpAny_ready (rs := [0]) (by kernel_rfl) (by simp) (AllReady.cons rfl (fun K hK => ?_) AllReady.nil)
    · obtain ⟨ka0, ka1, _, _⟩ := two_cells PI.out.a
      go_simp
      refine hK _ _ ?_
      clear hK K ka0 ka1
      refine wpAny_ready (rs := [2]) (by kernel_rfl) (by simp) (AllReady.cons rfl (fun K hK => ?_) AllReady.nil)
      · refine step_store_mid rfl 27 (.tmp 2) (.tmp 9) rfl (w.heap.size + 1) 0 rfl 27 [.slice none 0 0, .int .i64 0] [.slice a0 b.length cap, .int .i64 (err : Int)] rfl PI.out.b (by kernel_rfl) (Nat.le_refl _) (by intro v hv; simp at hv; rcases hv with rfl | rfl <;> rfl) ?_
        intro WPIb hB hS
        have PIb := Lib.hid (PI.out.setB hB hS)
        clear hB hS
        refine hK _ _ ?_
        clear hK K
        refine wpAny_ready (rs := [3]) (by kernel_rfl) (by simp) (AllReady.cons rfl (fun K hK => ?_) AllReady.nil)
        · refine step_store_mid rfl 48 (.tmp 3) (.tmp 10) rfl (w.heap.size + 2) 0 rfl 48 (cellsB z32) (cellsB z32) rfl PIb.out.c (by rw [length_cellsB, HLH.out]; exact info_prt) (by simp [length_cellsB, HLH.out]) (oneCell_cellsB _) ?_
          intro WPIbc hC hS
          have PIbc := Lib.hid (PIb.out.setC (show PrtAt _ _ z32 by rw [splice_prt z32 z32 len_z32 HLH.out] at hC; exact hC) hS)
          clear hC hS
          refine hK _ _ ?_
          clear hK K
          refine wpAny_done (by kernel_rfl) ?_ _
          have hl2 := rd_load PIbc.out.b
          have hld := results_prt HLH.out (show PrtAt _ (w.heap.size + 1 + 1) _ from PIbc.out.c)
          go_wp2
          have hfin := PIbc.out.seal
          refine bodyPost_ret (v := .tuple #[rdV (.slice a0 b.length cap) err, prtV z32]) (by simp [results, Tryd.results18, asAddr, Act.put, Result.andThen, hl2, hld]; rfl) rfl ⟨?_, hfin⟩
          rw [HTK.out]
          exact ⟨_, rfl, Sub.stay0 HSUB.out hfin⟩

set_option maxHeartbeats 4000000 in
theorem rrprint_short (b : List UInt8) (w : World) (x : Value) (hx : Slc w x b) (hl : b.length < 32) : Calls Tryd.prog 18 #[rdV x 0] w fun e w' => RdRet prtV w' x (takeB sumB z32 ⟨b, 0⟩) e ∧ Stay (fun _ => False) w w' := by
  have HX := Lib.hid hx
  obtain ⟨a0, cap, rfl, hr, hn, hcap, hcm⟩ := hx
  have HSUB := Lib.hid (Sub.refl HX.out)
  clear hr hn
  obtain ⟨TK, htk⟩ : ∃ TK, TK = takeB sumB z32 ⟨b, 0⟩ := ⟨_, rfl⟩
  rw [← htk]
  have HTK := Lib.hid (htk.trans (takeB_zero_err (show sumB b = .error 12 from if_pos hl)))
  have HLH := Lib.hid len_z32
  clear htk
  unfold rdV
  have PI := Lib.hid ((pr_new w (.slice a0 b.length cap) (.int .i64 0)).stay0 Stay.drew)
  go_enter Tryd.func18, Tryd.ntmps18
  go_wp2_with (with_reducible refine alloc_prt rfl rfl ?_)
  refine wp_region_any (by kernel_rfl) ?_
  change wpAny _ _ _ _ _ _ _ (World.drew _)
  refine wpAny_ready (rs := [0, 2]) (by kernel_rfl) (by simp) (AllReady.cons rfl (fun K hK => ?_) (AllReady.cons rfl (fun K hK => ?_) AllReady.nil))
  · obtain ⟨ka0, ka1, _, _⟩ := two_cells PI.out.a
    go_simp
    refine hK _ _ ?_
    clear hK K ka0 ka1
    refine wpAny_ready (rs := [1, 2]) (by kernel_rfl) (by simp) (AllReady.cons rfl (fun K hK => ?_) (AllReady.cons rfl (fun K hK => ?_) AllReady.nil))
    · go_simp
      go_wp2_with (
        go_at_call 31
        refine (fail_new _ _ _ 12 _ _ rfl).mono ?_
        rintro e WPIf ⟨rfl, hS⟩
        have PIf := Lib.hid (PI.out.stay0 hS)
        clear hS)
      unfold rdV
      refine wpAny_ready (rs := [2, 3]) (by kernel_rfl) (by simp) (AllReady.cons rfl (fun K hK => ?_) (AllReady.cons rfl (fun K hK => ?_) AllReady.nil))
      · refine step_load_mid rfl 48 (.tmp 4) rfl (w.heap.size + 3) 0 rfl 48 (cellsB z32).toArray (cellsB z32).toArray (0, 0) _ PIf.out.d Tryd.underlying48 rfl (info_prt_of HLH.out) (fun j _ => by rw [Nat.zero_add]) ?_
        refine hK _ _ ?_
        clear hK K
        refine wpAny_ready (rs := [3]) (by kernel_rfl) (by simp) (AllReady.cons rfl (fun K hK => ?_) AllReady.nil)
        · refine step_store_mid rfl 27 (.tmp 2) (.tmp 16) rfl (w.heap.size + 1) 0 rfl 27 [.slice none 0 0, .int .i64 0] [.slice a0 b.length cap, .int .i64 12] rfl PIf.out.b (by kernel_rfl) (Nat.le_refl _) (by intro v hv; simp at hv; rcases hv with rfl | rfl <;> rfl) ?_
          intro WPIfb hB hS
          have PIfb := Lib.hid (PIf.out.setB hB hS)
          clear hB hS
          refine hK _ _ ?_
          clear hK K
          refine wpAny_ready (rs := [4]) (by kernel_rfl) (by simp) (AllReady.cons rfl (fun K hK => ?_) AllReady.nil)
          · refine step_store_mid rfl 48 (.tmp 3) (.tmp 17) rfl (w.heap.size + 2) 0 rfl 48 (cellsB z32) (cellsB z32) rfl PIfb.out.c (by rw [length_cellsB, HLH.out]; exact info_prt) (by simp [length_cellsB, HLH.out]) (oneCell_cellsB _) ?_
            intro WPIfbc hC hS
            have PIfbc := Lib.hid (PIfb.out.setC (show PrtAt _ _ z32 by rw [splice_prt z32 z32 len_z32 HLH.out] at hC; exact hC) hS)
            clear hC hS
            refine hK _ _ ?_
            clear hK K
            refine wpAny_done (by kernel_rfl) ?_ _
            have hl2 := rd_load PIfbc.out.b
            have hld := results_prt HLH.out (show PrtAt _ (w.heap.size + 1 + 1) _ from PIfbc.out.c)
            go_wp2
            have hfin := PIfbc.out.seal
            refine bodyPost_ret (v := .tuple #[rdV (.slice a0 b.length cap) 12, prtV z32]) (by simp [results, Tryd.results18, asAddr, Act.put, Result.andThen, hl2, hld]; rfl) rfl ⟨?_, hfin⟩
            rw [HTK.out]
            exact ⟨_, rfl, Sub.stay0 HSUB.out hfin⟩
      · refine step_store_mid rfl 27 (.tmp 2) (.tmp 16) rfl (w.heap.size + 1) 0 rfl 27 [.slice none 0 0, .int .i64 0] [.slice a0 b.length cap, .int .i64 12] rfl PIf.out.b (by kernel_rfl) (Nat.le_refl _) (by intro v hv; simp at hv; rcases hv with rfl | rfl <;> rfl) ?_
        intro WPIfb hB hS
        have PIfb := Lib.hid (PIf.out.setB hB hS)
        clear hB hS
        refine hK _ _ ?_
        clear hK K
        refine wpAny_ready (rs := [2]) (by kernel_rfl) (by simp) (AllReady.cons rfl (fun K hK => ?_) AllReady.nil)
        · refine step_load_mid rfl 48 (.tmp 4) rfl (w.heap.size + 3) 0 rfl 48 (cellsB z32).toArray (cellsB z32).toArray (0, 0) _ PIfb.out.d Tryd.underlying48 rfl (info_prt_of HLH.out) (fun j _ => by rw [Nat.zero_add]) ?_
          refine hK _ _ ?_
          clear hK K
          refine wpAny_ready (rs := [4]) (by kernel_rfl) (by simp) (AllReady.cons rfl (fun K hK => ?_) AllReady.nil)
          · refine step_store_mid rfl 48 (.tmp 3) (.tmp 17) rfl (w.heap.size + 2) 0 rfl 48 (cellsB z32) (cellsB z32) rfl PIfb.out.c (by rw [length_cellsB, HLH.out]; exact info_prt) (by simp [length_cellsB, HLH.out]) (oneCell_cellsB _) ?_
            intro WPIfbc hC hS
            have PIfbc := Lib.hid (PIfb.out.setC (show PrtAt _ _ z32 by rw [splice_prt z32 z32 len_z32 HLH.out] at hC; exact hC) hS)
            clear hC hS
            refine hK _ _ ?_
            clear hK K
            refine wpAny_done (by kernel_rfl) ?_ _
            have hl2 := rd_load PIfbc.out.b
            have hld := results_prt HLH.out (show PrtAt _ (w.heap.size + 1 + 1) _ from PIfbc.out.c)
            go_wp2
            have hfin := PIfbc.out.seal
            refine bodyPost_ret (v := .tuple #[rdV (.slice a0 b.length cap) 12, prtV z32]) (by simp [results, Tryd.results18, asAddr, Act.put, Result.andThen, hl2, hld]; rfl) rfl ⟨?_, hfin⟩
            rw [HTK.out]
            exact ⟨_, rfl, Sub.stay0 HSUB.out hfin⟩
    · refine step_load_mid rfl 48 (.tmp 4) rfl (w.heap.size + 3) 0 rfl 48 (cellsB z32).toArray (cellsB z32).toArray (0, 0) _ PI.out.d Tryd.underlying48 rfl (info_prt_of HLH.out) (fun j _ => by rw [Nat.zero_add]) ?_
      refine hK _ _ ?_
      clear hK K
      refine wpAny_ready (rs := [1]) (by kernel_rfl) (by simp) (AllReady.cons rfl (fun K hK => ?_) AllReady.nil)
      · go_simp
        go_wp2_with (
          go_at_call 31
          refine (fail_new _ _ _ 12 _ _ rfl).mono ?_
          rintro e WPIf ⟨rfl, hS⟩
          have PIf := Lib.hid (PI.out.stay0 hS)
          clear hS)
        unfold rdV
        refine wpAny_ready (rs := [3]) (by kernel_rfl) (by simp) (AllReady.cons rfl (fun K hK => ?_) AllReady.nil)
        · refine step_store_mid rfl 27 (.tmp 2) (.tmp 16) rfl (w.heap.size + 1) 0 rfl 27 [.slice none 0 0, .int .i64 0] [.slice a0 b.length cap, .int .i64 12] rfl PIf.out.b (by kernel_rfl) (Nat.le_refl _) (by intro v hv; simp at hv; rcases hv with rfl | rfl <;> rfl) ?_
          intro WPIfb hB hS
          have PIfb := Lib.hid (PIf.out.setB hB hS)
          clear hB hS
          refine hK _ _ ?_
          clear hK K
          refine wpAny_ready (rs := [4]) (by kernel_rfl) (by simp) (AllReady.cons rfl (fun K hK => ?_) AllReady.nil)
          · refine step_store_mid rfl 48 (.tmp 3) (.tmp 17) rfl (w.heap.size + 2) 0 rfl 48 (cellsB z32) (cellsB z32) rfl PIfb.out.c (by rw [length_cellsB, HLH.out]; exact info_prt) (by simp [length_cellsB, HLH.out]) (oneCell_cellsB _) ?_
            intro WPIfbc hC hS
            have PIfbc := Lib.hid (PIfb.out.setC (show PrtAt _ _ z32 by rw [splice_prt z32 z32 len_z32 HLH.out] at hC; exact hC) hS)
            clear hC hS
            refine hK _ _ ?_
            clear hK K
            refine wpAny_done (by kernel_rfl) ?_ _
            have hl2 := rd_load PIfbc.out.b
            have hld := results_prt HLH.out (show PrtAt _ (w.heap.size + 1 + 1) _ from PIfbc.out.c)
            go_wp2
            have hfin := PIfbc.out.seal
            refine bodyPost_ret (v := .tuple #[rdV (.slice a0 b.length cap) 12, prtV z32]) (by simp [results, Tryd.results18, asAddr, Act.put, Result.andThen, hl2, hld]; rfl) rfl ⟨?_, hfin⟩
            rw [HTK.out]
            exact ⟨_, rfl, Sub.stay0 HSUB.out hfin⟩
  · refine step_load_mid rfl 48 (.tmp 4) rfl (w.heap.size + 3) 0 rfl 48 (cellsB z32).toArray (cellsB z32).toArray (0, 0) _ PI.out.d Tryd.underlying48 rfl (info_prt_of HLH.out) (fun j _ => by rw [Nat.zero_add]) ?_
    refine hK _ _ ?_
    clear hK K
    refine wpAny_ready (rs := [0]) (by kernel_rfl) (by simp) (AllReady.cons rfl (fun K hK => ?_) AllReady.nil)
    · obtain ⟨ka0, ka1, _, _⟩ := two_cells PI.out.a
      go_simp
      refine hK _ _ ?_
      clear hK K ka0 ka1
      refine wpAny_ready (rs := [1]) (by kernel_rfl) (by simp) (AllReady.cons rfl (fun K hK => ?_) AllReady.nil)
      · go_simp
        go_wp2_with (
          go_at_call 31
          refine (fail_new _ _ _ 12 _ _ rfl).mono ?_
          rintro e WPIf ⟨rfl, hS⟩
          have PIf := Lib.hid (PI.out.stay0 hS)
          clear hS)
        unfold rdV
        refine wpAny_ready (rs := [3]) (by kernel_rfl) (by simp) (AllReady.cons rfl (fun K hK => ?_) AllReady.nil)
        · refine step_store_mid rfl 27 (.tmp 2) (.tmp 16) rfl (w.heap.size + 1) 0 rfl 27 [.slice none 0 0, .int .i64 0] [.slice a0 b.length cap, .int .i64 12] rfl PIf.out.b (by kernel_rfl) (Nat.le_refl _) (by intro v hv; simp at hv; rcases hv with rfl | rfl <;> rfl) ?_
          intro WPIfb hB hS
          have PIfb := Lib.hid (PIf.out.setB hB hS)
          clear hB hS
          refine hK _ _ ?_
          clear hK K
          refine wpAny_ready (rs := [4]) (by kernel_rfl) (by simp) (AllReady.cons rfl (fun K hK => ?_) AllReady.nil)
          · refine step_store_mid rfl 48 (.tmp 3) (.tmp 17) rfl (w.heap.size + 2) 0 rfl 48 (cellsB z32) (cellsB z32) rfl PIfb.out.c (by rw [length_cellsB, HLH.out]; exact info_prt) (by simp [length_cellsB, HLH.out]) (oneCell_cellsB _) ?_
            intro WPIfbc hC hS
            have PIfbc := Lib.hid (PIfb.out.setC (show PrtAt _ _ z32 by rw [splice_prt z32 z32 len_z32 HLH.out] at hC; exact hC) hS)
            clear hC hS
            refine hK _ _ ?_
            clear hK K
            refine wpAny_done (by kernel_rfl) ?_ _
            have hl2 := rd_load PIfbc.out.b
            have hld := results_prt HLH.out (show PrtAt _ (w.heap.size + 1 + 1) _ from PIfbc.out.c)
            go_wp2
            have hfin := PIfbc.out.seal
            refine bodyPost_ret (v := .tuple #[rdV (.slice a0 b.length cap) 12, prtV z32]) (by simp [results, Tryd.results18, asAddr, Act.put, Result.andThen, hl2, hld]; rfl) rfl ⟨?_, hfin⟩
            rw [HTK.out]
            exact ⟨_, rfl, Sub.stay0 HSUB.out hfin⟩

theorem set_prt {W : World} {g i : Nat} {h : List UInt8} {x : UInt8} (hg : PrtAt W g h) : PrtAt (W.setCell ⟨g, i, none⟩ (byteV x)) g (h.set i x) := by
  have hg' : W.heap[g]? = some (.cells (cellsB h).toArray 48 (0, 0)) := hg
  unfold PrtAt
  simp [World.setCell, Array.getElem?_modify, hg', cellsB, List.map_set]
theorem take_set (b z : List UInt8) (i : Nat) (x : UInt8) (hb : b[i]? = some x) (hz : i < z.length) : ((b.take i) ++ z.drop i).set i x = (b.take (i + 1)) ++ z.drop (i + 1) := by
  have hi : i < b.length := (List.getElem?_eq_some_iff.1 hb).1
  have hl : (b.take i).length = i := by rw [List.length_take]; omega
  rw [List.set_append_right _ _ (by omega), hl, Nat.sub_self, List.take_add_one, hb, List.drop_eq_getElem_cons hz, List.set_cons_zero]
  simp

set_option maxHeartbeats 4000000 in
theorem rrprint_ok (b : List UInt8) (w : World) (x : Value) (hx : Slc w x b) (hl : 32 ≤ b.length) : Calls Tryd.prog 18 #[rdV x 0] w fun e w' => RdRet prtV w' x (takeB sumB z32 ⟨b, 0⟩) e ∧ Stay (fun _ => False) w w' := by
  have HX := Lib.hid hx
  obtain ⟨a0, cap, rfl, hr, hn, hcap, hcm⟩ := hx
  obtain ⟨ad, rfl, hcell⟩ := hr (by omega)
  have HCE := Lib.hid hcell
  have hcut := HX.out.cut hl
  rw [Option.map_some] at hcut
  have HLH := Lib.hid (show (b.take 32).length = 32 by rw [List.length_take]; omega)
  obtain ⟨TK, htk⟩ : ∃ TK, TK = takeB sumB z32 ⟨b, 0⟩ := ⟨_, rfl⟩
  rw [← htk]
  have HTK := Lib.hid (htk.trans (takeB_ok (zero := z32) (s := ⟨b, 0⟩) rfl (show sumB b = .ok (b.take 32, b.drop 32) from if_neg (by omega))))
  have hb32 : (32 : Int) ≤ (b.length : Int) := by omega
  have hlen : (b.length : Int) ≤ 9223372036854775807 := by omega
  clear htk hr hn hcell
  unfold rdV
  have PI0 := Lib.hid (pr_new w (.slice (some ad) b.length cap) (.int .i64 0))
  have HCUT := Lib.hid hcut
  clear hcut
  go_enter Tryd.func18, Tryd.ntmps18
  go_wp2_with (with_reducible refine alloc_prt rfl rfl ?_)
  go_loopw [5] (fun c wr => ∃ i : Nat, i ≤ 32 ∧ c = .int .i64 (i : Int) ∧ PrInv w wr (.slice (some ad) b.length cap) (.int .i64 0) (.slice none 0 0) (.int .i64 0) z32 ((b.take i) ++ z32.drop i)) (fun c _ => 32 - (intOf c).toNat)
  case atStart => exact ⟨0, by omega, rfl, by rw [List.take_zero, List.drop_zero, List.nil_append]; exact PI0.out⟩
  case round =>
    obtain ⟨i, hi, rfl, hp⟩ := hrel
    have PI := Lib.hid hp
    clear hp
    obtain ⟨ka0, ka1, fa0, fa1⟩ := two_cells PI.out.a
    by_cases hi32 : i < 32
    · have hil : i < b.length := by omega
      obtain ⟨y, hy⟩ : ∃ y, b[i]? = some y := ⟨_, List.getElem?_eq_getElem hil⟩
      have HY := Lib.hid hy
      have hst := PI.out.seal
      have kx := hst.cell (HCE.out i (byteV y) (by simp [cellsB, hy])) (fun x => x)
      have hlz : ((b.take i) ++ z32.drop i).length = 32 := by rw [List.length_append, List.length_take, List.length_drop, len_z32]; omega
      obtain ⟨y0, hy0⟩ : ∃ y0, ((b.take i) ++ z32.drop i)[i]? = some y0 := ⟨_, List.getElem?_eq_getElem (by omega)⟩
      have kd : wr.cell? ⟨w.heap.size + 1 + 1 + 1, i, none⟩ = some (byteV y0) := by
        rw [cell_of_row wr (w.heap.size + 1 + 1 + 1) i _ _ _ PI.out.d, List.getElem?_toArray]
        unfold cellsB
        rw [List.getElem?_map, hy0]
        rfl
      have fd : wr.frozen? ⟨w.heap.size + 1 + 1 + 1, i, none⟩ = false := frozen_of_row wr (w.heap.size + 1 + 1 + 1) i _ _ PI.out.d
      have HNX := Lib.hid (PI.out.setD (show PrtAt _ _ ((b.take (i + 1)) ++ z32.drop (i + 1)) by
        have := set_prt (i := i) (x := y) PI.out.d
        rw [take_set b z32 i y hy (by rw [len_z32]; exact hi32)] at this
        exact this) (Stay.setCell _ _ _ rfl))
      clear hst hy hlz hy0
      unfold byteV at kx kd HNX
      go_wp2
      go_roundw
      case rel => exact ⟨i + 1, by omega, by go_num, HNX.out⟩
      case measure => simp [intOf]; omega
    · obtain rfl : i = 32 := by omega
      have hz : (b.take 32) ++ z32.drop 32 = b.take 32 := by rw [List.drop_eq_nil_of_le (by rw [len_z32]; exact Nat.le_refl _), List.append_nil]
      rw [hz] at PI
      clear hz
      have hcases : cap = 32 ∨ ¬ cap = 32 := by omega
      rcases hcases with hck | hck
      · have HSUB := Lib.hid (show Sub w (.slice (some ad) b.length cap) (.slice (some ad) (b.length - 32) 0) (b.drop 32) by have h := HCUT.out; rw [if_pos hck, hck, Nat.sub_self] at h; rw [hck]; exact h)
        have HA := Lib.hid (PI.out.setA (two_set0 (u := .slice (some ad) (b.length - 32) 0) PI.out.a) (Stay.setCell _ _ _ rfl))
        have PJ := Lib.hid (HA.out.stay0 Stay.drew)
        go_wp2
        clear PI ka0 ka1 HA
        refine wp_region_any (by kernel_rfl) ?_
        change wpAny _ _ _ _ _ _ _ (World.drew _)
        refine wpAny_ready (rs := [0, 1]) (by kernel_rfl) (by simp) (AllReady.cons rfl (fun K hK => ?_) (AllReady.cons rfl (fun K hK => ?_) AllReady.nil))
        · obtain ⟨ka0, ka1, _, _⟩ := two_cells PJ.out.a
          go_simp
          refine hK _ _ ?_
          clear hK K ka0 ka1
          refine wpAny_ready (rs := [1, 2]) (by kernel_rfl) (by simp) (AllReady.cons rfl (fun K hK => ?_) (AllReady.cons rfl (fun K hK => ?_) AllReady.nil))
          · refine step_load_mid rfl 48 (.tmp 4) rfl (w.heap.size + 3) 0 rfl 48 (cellsB (b.take 32)).toArray (cellsB (b.take 32)).toArray (0, 0) _ PJ.out.d Tryd.underlying48 rfl (info_prt_of HLH.out) (fun j _ => by rw [Nat.zero_add]) ?_
            refine hK _ _ ?_
            clear hK K
            refine wpAny_ready (rs := [2]) (by kernel_rfl) (by simp) (AllReady.cons rfl (fun K hK => ?_) AllReady.nil)
            · refine step_store_mid rfl 27 (.tmp 2) (.tmp 33) rfl (w.heap.size + 1) 0 rfl 27 [.slice none 0 0, .int .i64 0] [.slice (some ad) (b.length - 32) 0, .int .i64 0] rfl PJ.out.b (by kernel_rfl) (Nat.le_refl _) (by intro v hv; simp at hv; rcases hv with rfl | rfl <;> rfl) ?_
              intro WPJb hB hS
              have PJb := Lib.hid (PJ.out.setB hB hS)
              clear hB hS
              refine hK _ _ ?_
              clear hK K
              refine wpAny_ready (rs := [3]) (by kernel_rfl) (by simp) (AllReady.cons rfl (fun K hK => ?_) AllReady.nil)
              · refine step_store_mid rfl 48 (.tmp 3) (.tmp 34) rfl (w.heap.size + 2) 0 rfl 48 (cellsB z32) (cellsB (b.take 32)) rfl PJb.out.c (by rw [length_cellsB, HLH.out]; exact info_prt) (by simp [length_cellsB, HLH.out, len_z32]) (oneCell_cellsB _) ?_
                intro WPJbc hC hS
                have PJbc := Lib.hid (PJb.out.setC (show PrtAt _ _ (b.take 32) by rw [splice_prt z32 (b.take 32) len_z32 HLH.out] at hC; exact hC) hS)
                clear hC hS
                refine hK _ _ ?_
                clear hK K
                refine wpAny_done (by kernel_rfl) ?_ _
                have hl2 := rd_load PJbc.out.b
                have hld := results_prt HLH.out (show PrtAt _ (w.heap.size + 1 + 1) _ from PJbc.out.c)
                go_wp2
                have hfin := PJbc.out.seal
                refine bodyPost_ret (v := .tuple #[rdV (.slice (some ad) (b.length - 32) 0) 0, prtV (b.take 32)]) (by simp [results, Tryd.results18, asAddr, Act.put, Result.andThen, hl2, hld]; rfl) rfl ⟨?_, hfin⟩
                rw [HTK.out]
                exact ⟨_, rfl, Sub.stay0 HSUB.out hfin⟩
          · refine step_store_mid rfl 27 (.tmp 2) (.tmp 33) rfl (w.heap.size + 1) 0 rfl 27 [.slice none 0 0, .int .i64 0] [.slice (some ad) (b.length - 32) 0, .int .i64 0] rfl PJ.out.b (by kernel_rfl) (Nat.le_refl _) (by intro v hv; simp at hv; rcases hv with rfl | rfl <;> rfl) ?_
            intro WPJb hB hS
            have PJb := Lib.hid (PJ.out.setB hB hS)
            clear hB hS
            refine hK _ _ ?_
            clear hK K
            refine wpAny_ready (rs := [1]) (by kernel_rfl) (by simp) (AllReady.cons rfl (fun K hK => ?_) AllReady.nil)
            · refine step_load_mid rfl 48 (.tmp 4) rfl (w.heap.size + 3) 0 rfl 48 (cellsB (b.take 32)).toArray (cellsB (b.take 32)).toArray (0, 0) _ PJb.out.d Tryd.underlying48 rfl (info_prt_of HLH.out) (fun j _ => by rw [Nat.zero_add]) ?_
              refine hK _ _ ?_
              clear hK K
              refine wpAny_ready (rs := [3]) (by kernel_rfl) (by simp) (AllReady.cons rfl (fun K hK => ?_) AllReady.nil)
              · refine step_store_mid rfl 48 (.tmp 3) (.tmp 34) rfl (w.heap.size + 2) 0 rfl 48 (cellsB z32) (cellsB (b.take 32)) rfl PJb.out.c (by rw [length_cellsB, HLH.out]; exact info_prt) (by simp [length_cellsB, HLH.out, len_z32]) (oneCell_cellsB _) ?_
                intro WPJbc hC hS
                have PJbc := Lib.hid (PJb.out.setC (show PrtAt _ _ (b.take 32) by rw [splice_prt z32 (b.take 32) len_z32 HLH.out] at hC; exact hC) hS)
                clear hC hS
                refine hK _ _ ?_
                clear hK K
                refine wpAny_done (by kernel_rfl) ?_ _
                have hl2 := rd_load PJbc.out.b
                have hld := results_prt HLH.out (show PrtAt _ (w.heap.size + 1 + 1) _ from PJbc.out.c)
                go_wp2
                have hfin := PJbc.out.seal
                refine bodyPost_ret (v := .tuple #[rdV (.slice (some ad) (b.length - 32) 0) 0, prtV (b.take 32)]) (by simp [results, Tryd.results18, asAddr, Act.put, Result.andThen, hl2, hld]; rfl) rfl ⟨?_, hfin⟩
                rw [HTK.out]
                exact ⟨_, rfl, Sub.stay0 HSUB.out hfin⟩
        · refine step_load_mid rfl 48 (.tmp 4) rfl (w.heap.size + 3) 0 rfl 48 (cellsB (b.take 32)).toArray (cellsB (b.take 32)).toArray (0, 0) _ PJ.out.d Tryd.underlying48 rfl (info_prt_of HLH.out) (fun j _ => by rw [Nat.zero_add]) ?_
          refine hK _ _ ?_
          clear hK K
          refine wpAny_ready (rs := [0]) (by kernel_rfl) (by simp) (AllReady.cons rfl (fun K hK => ?_) AllReady.nil)
          · obtain ⟨ka0, ka1, _, _⟩ := two_cells PJ.out.a
            go_simp
            refine hK _ _ ?_
            clear hK K ka0 ka1
            refine wpAny_ready (rs := [2]) (by kernel_rfl) (by simp) (AllReady.cons rfl (fun K hK => ?_) AllReady.nil)
            · refine step_store_mid rfl 27 (.tmp 2) (.tmp 33) rfl (w.heap.size + 1) 0 rfl 27 [.slice none 0 0, .int .i64 0] [.slice (some ad) (b.length - 32) 0, .int .i64 0] rfl PJ.out.b (by kernel_rfl) (Nat.le_refl _) (by intro v hv; simp at hv; rcases hv with rfl | rfl <;> rfl) ?_
              intro WPJb hB hS
              have PJb := Lib.hid (PJ.out.setB hB hS)
              clear hB hS
              refine hK _ _ ?_
              clear hK K
              refine wpAny_ready (rs := [3]) (by kernel_rfl) (by simp) (AllReady.cons rfl (fun K hK => ?_) AllReady.nil)
              · refine step_store_mid rfl 48 (.tmp 3) (.tmp 34) rfl (w.heap.size + 2) 0 rfl 48 (cellsB z32) (cellsB (b.take 32)) rfl PJb.out.c (by rw [length_cellsB, HLH.out]; exact info_prt) (by simp [length_cellsB, HLH.out, len_z32]) (oneCell_cellsB _) ?_
                intro WPJbc hC hS
                have PJbc := Lib.hid (PJb.out.setC (show PrtAt _ _ (b.take 32) by rw [splice_prt z32 (b.take 32) len_z32 HLH.out] at hC; exact hC) hS)
                clear hC hS
                refine hK _ _ ?_
                clear hK K
                refine wpAny_done (by kernel_rfl) ?_ _
                have hl2 := rd_load PJbc.out.b
                have hld := results_prt HLH.out (show PrtAt _ (w.heap.size + 1 + 1) _ from PJbc.out.c)
                go_wp2
                have hfin := PJbc.out.seal
                refine bodyPost_ret (v := .tuple #[rdV (.slice (some ad) (b.length - 32) 0) 0, prtV (b.take 32)]) (by simp [results, Tryd.results18, asAddr, Act.put, Result.andThen, hl2, hld]; rfl) rfl ⟨?_, hfin⟩
                rw [HTK.out]
                exact ⟨_, rfl, Sub.stay0 HSUB.out hfin⟩
      · have HSUB := Lib.hid (show Sub w (.slice (some ad) b.length cap) (.slice (some ⟨ad.block, ad.off + 32, none⟩) (b.length - 32) (cap - 32)) (b.drop 32) by have h := HCUT.out; rw [if_neg hck] at h; unfold Addr.add at h; rw [if_neg (by decide)] at h; exact h)
        have HA := Lib.hid (PI.out.setA (two_set0 (u := .slice (some ⟨ad.block, ad.off + 32, none⟩) (b.length - 32) (cap - 32)) PI.out.a) (Stay.setCell _ _ _ rfl))
        have PJ := Lib.hid (HA.out.stay0 Stay.drew)
        go_wp2
        clear PI ka0 ka1 HA
        refine wp_region_any (by kernel_rfl) ?_
        change wpAny _ _ _ _ _ _ _ (World.drew _)
        refine wpAny_ready (rs := [0, 1]) (by kernel_rfl) (by simp) (AllReady.cons rfl (fun K hK => ?_) (AllReady.cons rfl (fun K hK => ?_) AllReady.nil))
        · obtain ⟨ka0, ka1, _, _⟩ := two_cells PJ.out.a
          go_simp
          refine hK _ _ ?_
          clear hK K ka0 ka1
          refine wpAny_ready (rs := [1, 2]) (by kernel_rfl) (by simp) (AllReady.cons rfl (fun K hK => ?_) (AllReady.cons rfl (fun K hK => ?_) AllReady.nil))
          · refine step_load_mid rfl 48 (.tmp 4) rfl (w.heap.size + 3) 0 rfl 48 (cellsB (b.take 32)).toArray (cellsB (b.take 32)).toArray (0, 0) _ PJ.out.d Tryd.underlying48 rfl (info_prt_of HLH.out) (fun j _ => by rw [Nat.zero_add]) ?_
            refine hK _ _ ?_
            clear hK K
            refine wpAny_ready (rs := [2]) (by kernel_rfl) (by simp) (AllReady.cons rfl (fun K hK => ?_) AllReady.nil)
            · refine step_store_mid rfl 27 (.tmp 2) (.tmp 33) rfl (w.heap.size + 1) 0 rfl 27 [.slice none 0 0, .int .i64 0] [.slice (some ⟨ad.block, ad.off + 32, none⟩) (b.length - 32) (cap - 32), .int .i64 0] rfl PJ.out.b (by kernel_rfl) (Nat.le_refl _) (by intro v hv; simp at hv; rcases hv with rfl | rfl <;> rfl) ?_
              intro WPJb hB hS
              have PJb := Lib.hid (PJ.out.setB hB hS)
              clear hB hS
              refine hK _ _ ?_
              clear hK K
              refine wpAny_ready (rs := [3]) (by kernel_rfl) (by simp) (AllReady.cons rfl (fun K hK => ?_) AllReady.nil)
              · refine step_store_mid rfl 48 (.tmp 3) (.tmp 34) rfl (w.heap.size + 2) 0 rfl 48 (cellsB z32) (cellsB (b.take 32)) rfl PJb.out.c (by rw [length_cellsB, HLH.out]; exact info_prt) (by simp [length_cellsB, HLH.out, len_z32]) (oneCell_cellsB _) ?_
                intro WPJbc hC hS
                have PJbc := Lib.hid (PJb.out.setC (show PrtAt _ _ (b.take 32) by rw [splice_prt z32 (b.take 32) len_z32 HLH.out] at hC; exact hC) hS)
                clear hC hS
                refine hK _ _ ?_
                clear hK K
                refine wpAny_done (by kernel_rfl) ?_ _
                have hl2 := rd_load PJbc.out.b
                have hld := results_prt HLH.out (show PrtAt _ (w.heap.size + 1 + 1) _ from PJbc.out.c)
                go_wp2
                have hfin := PJbc.out.seal
                refine bodyPost_ret (v := .tuple #[rdV (.slice (some ⟨ad.block, ad.off + 32, none⟩) (b.length - 32) (cap - 32)) 0, prtV (b.take 32)]) (by simp [results, Tryd.results18, asAddr, Act.put, Result.andThen, hl2, hld]; rfl) rfl ⟨?_, hfin⟩
                rw [HTK.out]
                exact ⟨_, rfl, Sub.stay0 HSUB.out hfin⟩
          · refine step_store_mid rfl 27 (.tmp 2) (.tmp 33) rfl (w.heap.size + 1) 0 rfl 27 [.slice none 0 0, .int .i64 0] [.slice (some ⟨ad.block, ad.off + 32, none⟩) (b.length - 32) (cap - 32), .int .i64 0] rfl PJ.out.b (by kernel_rfl) (Nat.le_refl _) (by intro v hv; simp at hv; rcases hv with rfl | rfl <;> rfl) ?_
            intro WPJb hB hS
            have PJb := Lib.hid (PJ.out.setB hB hS)
            clear hB hS
            refine hK _ _ ?_
            clear hK K
            refine wpAny_ready (rs := [1]) (by kernel_rfl) (by simp) (AllReady.cons rfl (fun K hK => ?_) AllReady.nil)
            · refine step_load_mid rfl 48 (.tmp 4) rfl (w.heap.size + 3) 0 rfl 48 (cellsB (b.take 32)).toArray (cellsB (b.take 32)).toArray (0, 0) _ PJb.out.d Tryd.underlying48 rfl (info_prt_of HLH.out) (fun j _ => by rw [Nat.zero_add]) ?_
              refine hK _ _ ?_
              clear hK K
              refine wpAny_ready (rs := [3]) (by kernel_rfl) (by simp) (AllReady.cons rfl (fun K hK => ?_) AllReady.nil)
              · refine step_store_mid rfl 48 (.tmp 3) (.tmp 34) rfl (w.heap.size + 2) 0 rfl 48 (cellsB z32) (cellsB (b.take 32)) rfl PJb.out.c (by rw [length_cellsB, HLH.out]; exact info_prt) (by simp [length_cellsB, HLH.out, len_z32]) (oneCell_cellsB _) ?_
                intro WPJbc hC hS
                have PJbc := Lib.hid (PJb.out.setC (show PrtAt _ _ (b.take 32) by rw [splice_prt z32 (b.take 32) len_z32 HLH.out] at hC; exact hC) hS)
                clear hC hS
                refine hK _ _ ?_
                clear hK K
                refine wpAny_done (by kernel_rfl) ?_ _
                have hl2 := rd_load PJbc.out.b
                have hld := results_prt HLH.out (show PrtAt _ (w.heap.size + 1 + 1) _ from PJbc.out.c)
                go_wp2
                have hfin := PJbc.out.seal
                refine bodyPost_ret (v := .tuple #[rdV (.slice (some ⟨ad.block, ad.off + 32, none⟩) (b.length - 32) (cap - 32)) 0, prtV (b.take 32)]) (by simp [results, Tryd.results18, asAddr, Act.put, Result.andThen, hl2, hld]; rfl) rfl ⟨?_, hfin⟩
                rw [HTK.out]
                exact ⟨_, rfl, Sub.stay0 HSUB.out hfin⟩
        · refine step_load_mid rfl 48 (.tmp 4) rfl (w.heap.size + 3) 0 rfl 48 (cellsB (b.take 32)).toArray (cellsB (b.take 32)).toArray (0, 0) _ PJ.out.d Tryd.underlying48 rfl (info_prt_of HLH.out) (fun j _ => by rw [Nat.zero_add]) ?_
          refine hK _ _ ?_
          clear hK K
          refine wpAny_ready (rs := [0]) (by kernel_rfl) (by simp) (AllReady.cons rfl (fun K hK => ?_) AllReady.nil)
          · obtain ⟨ka0, ka1, _, _⟩ := two_cells PJ.out.a
            go_simp
            refine hK _ _ ?_
            clear hK K ka0 ka1
            refine wpAny_ready (rs := [2]) (by kernel_rfl) (by simp) (AllReady.cons rfl (fun K hK => ?_) AllReady.nil)
            · refine step_store_mid rfl 27 (.tmp 2) (.tmp 33) rfl (w.heap.size + 1) 0 rfl 27 [.slice none 0 0, .int .i64 0] [.slice (some ⟨ad.block, ad.off + 32, none⟩) (b.length - 32) (cap - 32), .int .i64 0] rfl PJ.out.b (by kernel_rfl) (Nat.le_refl _) (by intro v hv; simp at hv; rcases hv with rfl | rfl <;> rfl) ?_
              intro WPJb hB hS
              have PJb := Lib.hid (PJ.out.setB hB hS)
              clear hB hS
              refine hK _ _ ?_
              clear hK K
              refine wpAny_ready (rs := [3]) (by kernel_rfl) (by simp) (AllReady.cons rfl (fun K hK => ?_) AllReady.nil)
              · refine step_store_mid rfl 48 (.tmp 3) (.tmp 34) rfl (w.heap.size + 2) 0 rfl 48 (cellsB z32) (cellsB (b.take 32)) rfl PJb.out.c (by rw [length_cellsB, HLH.out]; exact info_prt) (by simp [length_cellsB, HLH.out, len_z32]) (oneCell_cellsB _) ?_
                intro WPJbc hC hS
                have PJbc := Lib.hid (PJb.out.setC (show PrtAt _ _ (b.take 32) by rw [splice_prt z32 (b.take 32) len_z32 HLH.out] at hC; exact hC) hS)
                clear hC hS
                refine hK _ _ ?_
                clear hK K
                refine wpAny_done (by kernel_rfl) ?_ _
                have hl2 := rd_load PJbc.out.b
                have hld := results_prt HLH.out (show PrtAt _ (w.heap.size + 1 + 1) _ from PJbc.out.c)
                go_wp2
                have hfin := PJbc.out.seal
                refine bodyPost_ret (v := .tuple #[rdV (.slice (some ⟨ad.block, ad.off + 32, none⟩) (b.length - 32) (cap - 32)) 0, prtV (b.take 32)]) (by simp [results, Tryd.results18, asAddr, Act.put, Result.andThen, hl2, hld]; rfl) rfl ⟨?_, hfin⟩
                rw [HTK.out]
                exact ⟨_, rfl, Sub.stay0 HSUB.out hfin⟩

end Go.Proofs.YtgfkeoicdjcfpaaDoor.Pk
