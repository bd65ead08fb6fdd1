/-
  pack: a reader's prints: takeOff, Print.
-/
import Derived.Test.YtgfkeoicdjcfpaaDoorPkS
namespace Go.Proofs.YtgfkeoicdjcfpaaDoor.Pk
open Go.RowKit
set_option maxRecDepth 100000

theorem sumB_err {b : List UInt8} {c : Nat} (h : sumB b = .error c) : c = 12 := by
  unfold sumB at h
  split at h
  · cases h; rfl
  · cases h
theorem sumB_len {b h r : List UInt8} (hs : sumB b = .ok (h, r)) : h.length = 32 := by
  unfold sumB at hs
  split at hs
  · cases hs
  · cases hs
    rw [List.length_take]
    omega

/-- A block that holds a print. -/
def PrtAt (w : World) (g : Nat) (h : List UInt8) : Prop := w.heap[g]? = some (.cells (cellsB h).toArray 48 (0, 0))
theorem PrtAt.stay {X : Nat → Prop} {w w' : World} {g : Nat} {h : List UInt8} (hp : PrtAt w g h) (hs : Stay X w w') (hx : ¬ X g) : PrtAt w' g h := (hs.block g (lt_of_block hp) hx).trans hp
theorem PrtAt.new (w : World) (h : List UInt8) : PrtAt (w.alloc (.cells (cellsB h).toArray 48)) w.heap.size h := heap_alloc_new w _
theorem info_prt_of {h : List UInt8} (hl : h.length = 32) : (Tryd.prog.info? 48).map (·.size) = some (cellsB h).toArray.size := by rw [List.size_toArray, length_cellsB, hl]; exact info_prt

theorem load_prt {ops : Array Oper} {rest : List Oper} {o : Oper} {a : Act} {w : World} {Q : Exit → Act → World → Prop} (hgd : o.guard = none) (x : Operand) (ho : o.op = .load 48 x)
    (g : Nat) (hx : a.eval x = .pointer (some ⟨g, 0, none⟩)) (h : List UInt8) (hl : h.length = 32) (hg : PrtAt w g h)
    (hn : wpList Tryd.prog ops Q rest (a.put o.dst (prtV h)) w) : wpList Tryd.prog ops Q (o :: rest) a w :=
  wpList_load_mid hgd 48 x ho g 0 hx 48 (cellsB h).toArray (cellsB h).toArray (0, 0) _ hg Tryd.underlying48 rfl (info_prt_of hl) (fun j _ => by rw [Nat.zero_add]) hn

theorem splice_prt (h0 h : List UInt8) (hl0 : h0.length = 32) (hl : h.length = 32) : splice (cellsB h0) 0 (cellsB h) = cellsB h := by
  unfold splice
  rw [List.take_zero, List.nil_append, Nat.zero_add, length_cellsB, hl, List.drop_eq_nil_of_le (by rw [length_cellsB, hl0]; exact Nat.le_refl _), List.append_nil]

theorem store_prt {ops : Array Oper} {rest : List Oper} {o : Oper} {a : Act} {w : World} {Q : Exit → Act → World → Prop} (hgd : o.guard = none) (x y : Operand) (ho : o.op = .store 48 x y)
    (g : Nat) (hx : a.eval x = .pointer (some ⟨g, 0, none⟩)) (h0 h : List UInt8) (hy : a.eval y = prtV h) (hl0 : h0.length = 32) (hl : h.length = 32) (hg : PrtAt w g h0)
    (hn : ∀ w', PrtAt w' g h → Stay (· = g) w w' → wpList Tryd.prog ops Q rest (a.put o.dst undef) w') : wpList Tryd.prog ops Q (o :: rest) a w :=
  wpList_store_mid hgd 48 x y ho g 0 hx 48 (cellsB h0) (cellsB h) hy hg (by rw [length_cellsB, hl]; exact info_prt) (by rw [length_cellsB, length_cellsB, hl, hl0]; exact Nat.le_refl _) (oneCell_cellsB _)
    (fun w' h1 h2 => hn w' (by rw [splice_prt h0 h hl0 hl] at h1; exact h1) h2)

theorem alloc_prt {ops : Array Oper} {rest : List Oper} {o : Oper} {a : Act} {w : World} {Q : Exit → Act → World → Prop} (hgd : o.guard = none) (ho : o.op = .alloc 48)
    (hn : wpList Tryd.prog ops Q rest (a.put o.dst (.pointer (some ⟨w.heap.size, 0, none⟩))) (w.alloc (.cells (cellsB z32).toArray 48))) : wpList Tryd.prog ops Q (o :: rest) a w :=
  wpList_alloc_at hgd 48 ho _ (zero_prt _) hn

theorem results_prt {w : World} {g : Nat} {h : List UInt8} (hl : h.length = 32) (hg : PrtAt w g h) : (loadVar 48 ⟨g, 0, none⟩).run Tryd.prog w = .ok (prtV h) w :=
  run_loadVar_mid (P := Tryd.prog) w g 0 48 48 (cellsB h).toArray (cellsB h).toArray (0, 0) _ hg Tryd.underlying48 rfl (info_prt_of hl) (fun j _ => by rw [Nat.zero_add])

theorem len_z32 : z32.length = 32 := by decide

set_option maxHeartbeats 2000000 in
theorem take_prt_none (f : Value) (w : World) : Calls Tryd.prog 44 #[.pointer none, f] w fun e w' => e = .returned (prtV z32) ∧ Stay (fun _ => False) w w' := by
  have p0 := (PrtAt.new w z32).stay (Stay.alloc (X := fun _ => False) _ (.cells (cellsB z32).toArray 48)) (fun x => x)
  have p1 := PrtAt.new (w.alloc (.cells (cellsB z32).toArray 48)) z32
  rw [show (w.alloc (.cells (cellsB z32).toArray 48)).heap.size = w.heap.size + 1 by simp] at p1
  have H0 := Lib.hid p0
  have H1 := Lib.hid p1
  clear p0 p1
  go_enter Tryd.func44, Tryd.ntmps44
  go_wp2_with (first
    | (with_reducible refine alloc_prt rfl rfl ?_)
    | (go_at_call 23; refine (err_none _).mono ?_; rintro e w' ⟨rfl, rfl⟩; unfold errI)
    | (refine load_prt rfl (.tmp 5) rfl (w.heap.size + 1) rfl z32 len_z32 H1.out ?_)
    | (refine store_prt rfl (.tmp 4) (.tmp 12) rfl w.heap.size rfl z32 z32 rfl len_z32 len_z32 H0.out ?_; intro w3 hp3 hs3; have H3 := Lib.hid hp3; clear hp3))
  have hld := results_prt len_z32 H3.out
  refine bodyPost_ret (v := prtV z32) (by simp [results, Tryd.results44, asAddr, Act.put, hld]) rfl ⟨rfl, stay_seal (X := fun k => k = w.heap.size) (((Stay.alloc _ _).trans (Stay.alloc _ _)).trans hs3) (fun k hk => by omega)⟩

theorem Slc.blk_lt {w : World} {x : Value} {b : List UInt8} (h : Slc w x b) (h0 : 0 < b.length) : ∀ k, x.ownBlock = some k → k < w.heap.size := by
  intro k hk
  obtain ⟨a0, c, rfl, hr, _⟩ := h
  obtain ⟨ad, rfl, hc⟩ := hr h0
  have hk' : ad.block = k := by simpa [Value.ownBlock] using hk
  subst hk'
  obtain ⟨u, hu⟩ : ∃ u, (cellsB b)[0]? = some u := ⟨_, List.getElem?_eq_getElem (by rw [length_cellsB]; exact h0)⟩
  have := World.block_lt_of_cell? w _ (hc 0 u hu)
  have hb : (ad.add 0).block = ad.block := rfl
  rwa [hb] at this
theorem RdAt.moved {X : Nat → Prop} {w w1 w' : World} {p : Nat} {s : RS} {x v : Value} {r : List UInt8} {c : Nat} (hp : X p) (hk : ∀ k, x.ownBlock = some k → X k ∧ k ≠ p) (hsl : Slc w x s.b) (hne : 0 < r.length → 0 < s.b.length)
    (hv : Sub w1 x v r) (hs : Stay (fun k => k = p ∨ w.heap.size ≤ k) w1 w') (hx' : w'.heap[p]? = some (.cells #[v, errV c] 67 (0, 0))) : RdAt X w' p ⟨r, c⟩ := by
  refine ⟨hp, v, hx', ?_, fun k e => hk k (hv.2 k e)⟩
  obtain ⟨⟨a0, c0, rfl, hr, hn⟩, hv2⟩ := hv
  by_cases h0 : 0 < r.length
  · refine Slc.stay ⟨a0, c0, rfl, hr, hn⟩ hs (fun k e _ hY => ?_)
    have h1 := hv2 k e
    rcases hY with hY | hY
    · exact (hk k h1).2 hY
    · have := hsl.blk_lt (hne h0) k h1
      omega
  · exact ⟨a0, c0, rfl, fun h => absurd h h0, hn⟩

set_option maxHeartbeats 4000000 in
theorem take_prt (X : Nat → Prop) (w : World) (p : Nat) (s : RS) (h : RdAt X w p s) :
    Calls Tryd.prog 44 #[.pointer (some ⟨p, 0, none⟩), .func (.func 45) #[] #[]] w fun e w' => e = .returned (prtV (takeB sumB z32 s).1) ∧ RdAt X w' p (takeB sumB z32 s).2 ∧ Stay (fun k => k = p) w w' := by
  have p0 := (PrtAt.new w z32).stay (Stay.alloc (X := fun _ => False) _ (.cells (cellsB z32).toArray 48)) (fun x => x)
  have p1 := PrtAt.new (w.alloc (.cells (cellsB z32).toArray 48)) z32
  rw [show (w.alloc (.cells (cellsB z32).toArray 48)).heap.size = w.heap.size + 1 by simp] at p1
  have H0 := Lib.hid p0
  have H1 := Lib.hid p1
  clear p0 p1
  have hst0 : Stay (fun _ => False) w ((w.alloc (.cells (cellsB z32).toArray 48)).alloc (.cells (cellsB z32).toArray 48)) := (Stay.alloc _ _).trans (Stay.alloc _ _)
  have hltp : p < w.heap.size := by
    obtain ⟨_, x, hx, _⟩ := h
    exact lt_of_block hx
  by_cases he : s.err = 0
  · obtain ⟨hp, x, hx0, hsl0, hk⟩ := id h
    have hx := (hst0.block p hltp (fun x => x)).trans hx0
    have hsl := hsl0.stay0 hst0
    have HSL := Lib.hid hsl0
    clear hx0 hsl0
    have hc0 := cell_of_row _ p 0 _ _ _ hx
    have hc0' : ((w.alloc (.cells (cellsB z32).toArray 48)).alloc (.cells (cellsB z32).toArray 48)).cell? ⟨p, 0, none⟩ = some x := hc0
    have HP := Lib.hid (h.stay0 hst0)
    have HX := Lib.hid hx
    have HK := Lib.hid hk
    have HE := Lib.hid he
    obtain ⟨TK, htk⟩ : ∃ TK, TK = takeB sumB z32 s := ⟨_, rfl⟩
    rw [← htk]
    have HT := Lib.hid htk
    clear hx hk he htk hc0 h
    go_enter Tryd.func44, Tryd.ntmps44
    go_wp2_with (first
      | (with_reducible refine alloc_prt rfl rfl ?_)
      | (go_at_call 23; refine (err_any X _ p s HP.out).mono ?_; rintro e w' ⟨rfl, rfl⟩; rw [HE.out, errV_zero]))
    refine (sum_any s.b _ x hsl).mono ?_
    rintro e w1 ⟨hret, hs1⟩
    have hst1 := hst0.trans hs1
    have hx1 := (hs1.block p (lt_of_block HX.out) (fun x => x)).trans HX.out
    have q0 := H0.out.stay hs1 (fun x => x)
    have q1 := H1.out.stay hs1 (fun x => x)
    have hz0 := lt_of_block q0
    have hz1 := lt_of_block q1
    have Q0 := Lib.hid q0
    have Q1 := Lib.hid q1
    have HX1 := Lib.hid hx1
    have HS1 := Lib.hid hs1
    have hlt1 := lt_of_block hx1
    clear q0 q1 hx1 hs1 hsl
    cases hr : sumB s.b with
    | error c =>
      rw [hr] at hret
      obtain rfl := hret
      have HR := Lib.hid (takeB_error (zero := z32) HE.out hr)
      have HCN := Lib.hid (show c ≠ 0 by have := sumB_err hr; omega)
      clear hr
      unfold errI
      go_wp2_with (first
        | (with_reducible refine alloc_prt rfl rfl ?_)
        | (refine store_prt rfl (.tmp 6) (.tmp 20) rfl w1.heap.size rfl z32 z32 rfl len_z32 len_z32 (PrtAt.new w1 z32) ?_
           intro w2 hp2 hs2
           have hs12 := (Stay.alloc (X := fun k => k = w1.heap.size) w1 (.cells (cellsB z32).toArray 48)).trans hs2
           have HS12 := Lib.hid hs12
           have HX2 := Lib.hid ((hs12.block p hlt1 (fun e => by omega)).trans HX1.out)
           have k1 : w2.cell? ⟨p, 1, none⟩ = some (errV s.err) := by rw [cell_of_row w2 p 1 _ _ _ HX2.out]; rfl
           have k2 : w2.frozen? ⟨p, 1, none⟩ = false := frozen_of_row w2 p 1 _ _ HX2.out
           have R0 := Lib.hid ((Q0.out.stay hs12 (fun e => by omega)).stay (Stay.setCell (X := fun k => k = p) w2 ⟨p, 1, none⟩ (errI c) rfl) (fun e => by omega))
           have R1 := Lib.hid ((Q1.out.stay hs12 (fun e => by omega)).stay (Stay.setCell (X := fun k => k = p) w2 ⟨p, 1, none⟩ (errI c) rfl) (fun e => by omega))
           clear hp2 hs2 hs12)
        | (refine load_prt rfl (.tmp 5) rfl (w.heap.size + 1) rfl z32 len_z32 R1.out ?_)
        | (refine store_prt rfl (.tmp 4) (.tmp 29) rfl w.heap.size rfl z32 z32 rfl len_z32 len_z32 R0.out ?_; intro w3 hp3 hs3; have H3 := Lib.hid hp3; have HS3 := Lib.hid hs3; clear hp3 hs3))
      have hld := results_prt len_z32 H3.out
      have hx3 : w3.heap[p]? = some (.cells #[x, errV c] 67 (0, 0)) := by
        rw [HS3.out.block p (by simp; exact lt_of_block HX2.out) (fun e => by omega), two_set1 HX2.out, errV_pos HCN.out]; rfl
      have hs13 : Stay (fun k => k = p ∨ w.heap.size ≤ k) w1 w3 := ((HS12.out.mono (fun k e => .inr (by omega))).trans (Stay.setCell _ _ _ (.inl rfl))).trans (HS3.out.mono (fun k e => .inr (by omega)))
      have hfin : Stay (fun k => k = p) w w3 := (hst1.mono (fun _ x => x.elim)).andThen hs13 (fun i hi hY => by rcases hY with hY | hY; exact hY; omega)
      refine bodyPost_ret (v := prtV z32) (by simp [results, Tryd.results44, asAddr, Act.put, hld]) rfl ⟨?_, ?_, hfin⟩
      · rw [HT.out, HR.out]
      · rw [HT.out, HR.out]
        exact RdAt.moved hp HK.out HSL.out (fun h => h) ⟨HSL.out.stay0 hst1, fun _ e => e⟩ hs13 hx3
    | ok q =>
      obtain ⟨n, r⟩ := q
      rw [hr] at hret
      obtain ⟨v, rfl, hsub⟩ := hret
      obtain ⟨a2, c2, rfl, _⟩ := id hsub.1
      have hnl := sumB_len hr
      have hb32 : 0 < s.b.length := by
        unfold sumB at hr
        split at hr
        · cases hr
        · omega
      have HR := Lib.hid (takeB_ok (zero := z32) HE.out hr)
      have HNL := Lib.hid hnl
      have HSub := Lib.hid hsub
      clear hr hsub hnl
      go_wp2_with (first
        | (with_reducible refine alloc_prt rfl rfl ?_)
        | (refine store_prt rfl (.tmp 6) (.tmp 20) rfl w1.heap.size rfl z32 n rfl len_z32 HNL.out (PrtAt.new w1 z32) ?_
           intro w2 hp2 hs2
           have hs12 := (Stay.alloc (X := fun k => k = w1.heap.size) w1 (.cells (cellsB z32).toArray 48)).trans hs2
           have HS12 := Lib.hid hs12
           have HX2 := Lib.hid ((hs12.block p hlt1 (fun e => by omega)).trans HX1.out)
           have k1 : w2.cell? ⟨p, 0, none⟩ = some x := by rw [cell_of_row w2 p 0 _ _ _ HX2.out]; rfl
           have k2 : w2.frozen? ⟨p, 0, none⟩ = false := frozen_of_row w2 p 0 _ _ HX2.out
           have R0 := Lib.hid ((Q0.out.stay hs12 (fun e => by omega)).stay (Stay.setCell (X := fun k => k = p) w2 ⟨p, 0, none⟩ (.slice a2 r.length c2) rfl) (fun e => by omega))
           have R1 := Lib.hid (hp2.stay (Stay.setCell (X := fun k => k = p) w2 ⟨p, 0, none⟩ (.slice a2 r.length c2) rfl) (fun e => by omega))
           clear hp2 hs2 hs12)
        | (refine load_prt rfl (.tmp 6) rfl w1.heap.size rfl n HNL.out R1.out ?_)
        | (refine store_prt rfl (.tmp 4) (.tmp 34) rfl w.heap.size rfl z32 n rfl len_z32 HNL.out R0.out ?_; intro w3 hp3 hs3; have H3 := Lib.hid hp3; have HS3 := Lib.hid hs3; clear hp3 hs3))
      have hld := results_prt HNL.out H3.out
      have hx3 : w3.heap[p]? = some (.cells #[.slice a2 r.length c2, errV 0] 67 (0, 0)) := by
        rw [HS3.out.block p (by simp; exact lt_of_block HX2.out) (fun e => by omega), two_set0 HX2.out, HE.out]
      have hs13 : Stay (fun k => k = p ∨ w.heap.size ≤ k) w1 w3 := ((HS12.out.mono (fun k e => .inr (by omega))).trans (Stay.setCell _ _ _ (.inl rfl))).trans (HS3.out.mono (fun k e => .inr (by omega)))
      have hfin : Stay (fun k => k = p) w w3 := (hst1.mono (fun _ x => x.elim)).andThen hs13 (fun i hi hY => by rcases hY with hY | hY; exact hY; omega)
      refine bodyPost_ret (v := prtV n) (by simp [results, Tryd.results44, asAddr, Act.put, hld]) rfl ⟨?_, ?_, hfin⟩
      · rw [HT.out, HR.out]
      · rw [HT.out, HR.out]
        exact RdAt.moved hp HK.out HSL.out (fun _ => hb32) HSub.out hs13 hx3
  · rw [takeB_bad he]
    have HE := Lib.hid he
    have HP := Lib.hid (h.stay0 hst0)
    clear he
    go_enter Tryd.func44, Tryd.ntmps44
    go_wp2_with (first
      | (with_reducible refine alloc_prt rfl rfl ?_)
      | (go_at_call 23; refine (err_any X _ p s HP.out).mono ?_; rintro e w' ⟨rfl, rfl⟩; rw [errV_pos HE.out]; unfold errI)
      | (refine load_prt rfl (.tmp 5) rfl (w.heap.size + 1) rfl z32 len_z32 H1.out ?_)
      | (refine store_prt rfl (.tmp 4) (.tmp 12) rfl w.heap.size rfl z32 z32 rfl len_z32 len_z32 H0.out ?_; intro w3 hp3 hs3; have H3 := Lib.hid hp3; clear hp3))
    have hld := results_prt len_z32 H3.out
    have hs3' : Stay (fun k => k = w.heap.size) w w3 := (hst0.mono (fun _ x => x.elim)).trans hs3
    refine bodyPost_ret (v := prtV z32) (by simp [results, Tryd.results44, asAddr, Act.put, hld]) rfl ⟨rfl, h.stay hs3' (fun k _ hk e => by omega), (stay_seal hs3' (fun k hk => by omega)).mono (fun _ x => x.elim)⟩

end Go.Proofs.YtgfkeoicdjcfpaaDoor.Pk
