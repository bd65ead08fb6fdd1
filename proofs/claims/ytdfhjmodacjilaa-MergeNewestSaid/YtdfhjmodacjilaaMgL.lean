/-
  merge: All.
-/
import Derived.Test.YtdfhjmodacjilaaMgK
import Derived.Test.YtdfhjmodacjilaaMeH
import Derived.Great.BuildSlice
namespace Go.Proofs.Ytdfhjmodacjilaa.Mg
open Go.RowKit Go.Maps Me
set_option maxRecDepth 100000
set_option linter.unusedVariables false

/-- A slice of one entry, made. -/
theorem list_one_en {ops : Array Oper} {rest : List Oper} {o : Oper} {a : Act} {w : World} {Q : Exit → Act → World → Prop} (hgd : o.guard = none) (x : Operand) (ho : o.op = .buildSlice 25 1 #[(0, x)]) (e : En) (hx : a.eval x = enV e)
    (h : wpList Try.prog ops Q rest (a.put o.dst (.slice (some ⟨w.heap.size, 0, none⟩) 1 1)) (w.alloc (.cells (enC e).toArray 28))) : wpList Try.prog ops Q (o :: rest) a w := by
  obtain ⟨i0, hi0, hz0, hzs, hzb⟩ := info_parts info_en
  refine wpList_buildSlice hgd 25 28 1 #[(0, x)] ho (enC e).toArray i0 zeroV Try.underlying25 hi0 hz0 (by rw [hzs]; decide) (by rw [hzs]; decide) ?_ h
  rw [hzs]
  simp only [List.map_toArray, List.map_cons, List.map_nil, hx]
  simp [Instr.fill, enV, enC, zeroV, Value.cells, Array.range]
  apply Array.ext_getElem?
  intro j
  match j with
  | 0 => simp
  | 1 => simp
  | 2 => simp
  | j + 3 => simp
/-- Without those that are gone, if so asked. -/
def keepL (d : Bool) (L : List En) : List En := if d then L.filter (fun e => !e.g) else L
theorem keep_snoc (d : Bool) (L : List En) (e : En) : keepL d (L ++ [e]) = if !e.g || !d then keepL d L ++ [e] else keepL d L := by
  unfold keepL
  cases d <;> cases h : e.g <;> simp [h]
theorem keep_len (d : Bool) (L : List En) : (keepL d L).length ≤ L.length := by
  unfold keepL
  split
  · exact List.length_filter_le _ _
  · exact Nat.le_refl _
/-- How many entries all orders have. -/
def sumL (Ls : List (List En)) : Nat := (Ls.map List.length).sum
theorem putsF_len : ∀ (l M : List En), (putsF M l).length ≤ M.length + l.length
  | [], M => Nat.le_refl _
  | e :: r, M => by
    have h1 := putsF_len r (putL M e)
    have h2 := length_putL_le M e
    show (putsF (putL M e) r).length ≤ _
    rw [List.length_cons]
    omega
theorem allN_len : ∀ Ls : List (List En), (allN Ls).length ≤ sumL Ls
  | [] => Nat.le_refl _
  | l :: r => by
    have h1 := putsF_len l (allN r)
    have h2 := allN_len r
    show (putsF (allN r) l).length ≤ _
    simp only [sumL, List.map_cons, List.sum_cons] at h2 ⊢
    omega
theorem sumL_at {Ls : List (List En)} {L : List En} (h : L ∈ Ls) : L.length ≤ sumL Ls := by
  induction Ls with
  | nil => cases h
  | cons a r ih =>
    simp only [sumL, List.map_cons, List.sum_cons]
    rcases List.mem_cons.1 h with rfl | h
    · omega
    · have := ih h
      unfold sumL at this
      omega

/-- Next of a reader, whatever is left: what it tells. -/
theorem next_any (A : Nat → Prop) (w : World) (r N : Nat) (L : List En) (h : RdS A w r L N) (hN : N ≤ 10000) : Calls Try.prog 12 #[.pointer (some ⟨r, 0, none⟩)] w fun e w' =>
    ∃ b x, e = .returned (.tuple #[enV x, .bool b]) ∧ RdS (fun k => A k ∨ w.heap.size ≤ k) w' r L.tail N ∧ Stay A w w' ∧ leftW w' r + (if b then 1 else 0) ≤ leftW w r ∧ L = (if b then [x] else []) ++ L.tail ∧ (b = false → x = ⟨[], [], false⟩) := by
  cases L with
  | nil =>
    refine (next_done A w r N h).mono ?_
    rintro e w' ⟨h1, h2⟩
    refine ⟨false, _, h1, (h.stay0 h2).mono (fun k _ hk => .inl hk), h2.mono (fun _ x => x.elim), ?_, rfl, fun _ => rfl⟩
    obtain ⟨H, h3, _⟩ := h.ex
    rw [h3.left, (h3.stay0 h2).left]
    simp
  | cons e0 L =>
    refine (next_some A w r N e0 L h hN).mono ?_
    rintro e w' ⟨h1, h2, h3, h4⟩
    exact ⟨true, _, h1, h2, h3, by simp; omega, rfl, fun h => by cases h⟩

def tN (v : Value) : Nat := match v with | .bool true => 1 | _ => 0
/-- What holds while all are gone through. -/
structure AllSt (w : World) (r N : Nat) (d : Bool) (M : List En) (W : World) (v : Value) (b : Nat) (t : Bool) (done rest : List En) (cur : En) (A : Nat → Prop) : Prop where
  al : EnO w.heap.size W v (keepL d done)
  eq : M = done ++ (if t then [cur] else []) ++ rest
  tf : t = false → rest = []
  bx : Box W b cur
  rd : RdS A W r rest N
  ab : ¬ A b
  av : ∀ k, v.ownBlock = some k → ¬ A k
  aw : ∀ k, A k → w.heap.size ≤ k ∧ k < W.heap.size
  vb : ∀ k, v.ownBlock = some k → k ≠ b
  bw : w.heap.size ≤ b
  st : Stay (fun _ => False) w W

set_option maxHeartbeats 4000000 in
theorem all_any (w : World) (x : Value) (Ls : List (List En)) (d : Bool) (hx : ESs w x Ls) (hlen : Ls.length ≤ 1000) (hsz : sumL Ls ≤ 1000) :
    Calls Try.prog 7 #[x, .bool d] w fun e w' => Stay (fun _ => False) w w' ∧ (((∀ L ∈ Ls, Sorted L) ∧ ∃ v, e = .returned (.tuple #[v, .nilIface]) ∧ EnO w.heap.size w' v (keepL d (allN Ls))) ∨
      ((¬ ∀ L ∈ Ls, Sorted L) ∧ e = .returned (.tuple #[.slice none 0 0, .iface 47 (.int .i64 41)]))) := by
  have HNEW := Lib.hid (new_any w x Ls hx hlen (fun L hL => Nat.le_trans (sumL_at hL) hsz))
  have HLEN := Lib.hid hlen
  have HSZ := Lib.hid (Nat.le_trans (allN_len Ls) hsz)
  obtain ⟨a0, c, rfl⟩ := hx.form
  clear hx hlen hsz
  go_enter Try.func7, Try.ntmps7
  go_wp2_with fail
  refine HNEW.out.mono ?_
  rintro e w1 ⟨hs1, hc⟩
  have HS1 := Lib.hid hs1
  rcases hc with ⟨r, hall, rfl, hrd⟩ | ⟨hna, rfl⟩
  · have HALL := Lib.hid hall
    have HRD := Lib.hid hrd
    clear hs1 hall hrd HNEW
    go_wp2_with fail
    refine (next_any (fun k => w.heap.size ≤ k ∧ k < w1.heap.size) w1 r Ls.length (allN Ls) (HRD.out.mono (fun k hk h => ⟨h, hk⟩)) (by have := HLEN.out; omega)).mono ?_
    rintro e w2 ⟨t0, x0, rfl, hr2, hs2, _, he2, hx2⟩
    have HBN := Lib.hid (Box.new w2 ⟨[], [], false⟩)
    have HA3 := Lib.hid (show Stay (fun _ => False) w2 (w2.alloc (.cells (enC ⟨[], [], false⟩).toArray 28)) from Stay.alloc _ _)
    have HZ3 := Lib.hid (show (w2.alloc (.cells (enC ⟨[], [], false⟩).toArray 28)).heap.size = w2.heap.size + 1 by simp)
    obtain ⟨w3, hw3⟩ : ∃ w3, w2.alloc (.cells (enC ⟨[], [], false⟩).toArray 28) = w3 := ⟨_, rfl⟩
    rw [hw3] at HBN HA3 HZ3
    have W3 := Lib.hid hw3
    have HR2 := Lib.hid hr2
    have HS2 := Lib.hid hs2
    have HE2 := Lib.hid he2
    have HX2 := Lib.hid hx2
    clear hr2 hs2 he2 hx2 hw3
    go_wp2_with (first
      | (with_reducible refine alloc_en rfl rfl ?_; rw [W3.out])
      | (refine Box.store HBN.out rfl (.tmp 9) (.tmp 22) rfl rfl x0 rfl ?_
         intro w4 hb4 hs4
         have H4 := Lib.hid hb4
         have HS4 := Lib.hid hs4
         clear hb4 hs4))
    have HST := Lib.hid (show AllSt w r Ls.length d (allN Ls) w4 (.slice none 0 0) w2.heap.size t0 [] (allN Ls).tail x0 (fun k => w.heap.size ≤ k ∧ k < w2.heap.size) from by
      have z1 := HS1.out.size
      have z2 := HS2.out.size
      have z3 := HZ3.out
      have z4 := HS4.out.size
      refine ⟨by cases d <;> exact EnO.nil _ _, ?_, fun h => ?_, H4.out, ?_, (fun h => by omega), (fun k hk => by cases hk), (fun k h => ⟨h.1, by omega⟩), (fun k hk => by cases hk), (by omega), ?_⟩
      · rw [List.nil_append]; exact HE2.out
      · have h1 := HE2.out
        rw [h] at h1
        cases hM : allN Ls with
        | nil => rfl
        | cons a r => rw [hM] at h1; have := congrArg List.length h1; simp at this
      · exact ((HR2.out.mono (A' := fun k => w.heap.size ≤ k ∧ k < w2.heap.size) (fun k hk h => ⟨h.elim (fun h => h.1) (fun h => by omega), hk⟩)).stay0 HA3.out).stay HS4.out (fun k hk e => by have h2 : k = w2.heap.size := e; omega)
      · exact stay_seal ((((HS1.out.mono (Y := fun k => w.heap.size ≤ k) (fun _ x => x.elim)).trans (HS2.out.mono (fun k hk => hk.1))).trans (HA3.out.mono (fun _ x => x.elim))).trans (HS4.out.mono (fun k e => by have h2 : k = w2.heap.size := e; omega))) (fun k hk => hk))
    clear HBN HA3 W3 HR2 HE2 HX2 H4
    try go_frame
    go_loopw [8, 9, 10] (fun v bp t wr => ∃ (b : Nat) (tb : Bool) (done rest : List En) (cur : En) (A : Nat → Prop), bp = .pointer (some ⟨b, 0, none⟩) ∧ t = .bool tb ∧ Hid (AllSt w r Ls.length d (allN Ls) wr v b tb done rest cur A)) (fun _ _ t wr => leftW wr r + tN t)
    case atStart => exact ⟨w2.heap.size, t0, [], _, x0, _, rfl, rfl, HST⟩
    case round =>
      obtain ⟨b, tb, done, rest, cur, A, rfl, rfl, HS⟩ := hrel
      cases tb with
      | false =>
        have HM := Lib.hid (show allN Ls = done from by have h1 := HS.out.eq; rw [HS.out.tf rfl] at h1; simpa using h1)
        go_wp2
        refine bodyPost_ret (v := .tuple #[u8, .nilIface]) (by simp [results, Try.results7]) rfl ⟨HS.out.st, .inl ⟨HALL.out, _, rfl, by rw [HM.out]; exact HS.out.al⟩⟩
      | true =>
        cases hg : cur.g with
        | false =>
          have c2 := HS.out.bx.c (j := 2) rfl
          rw [hg] at c2
          obtain ⟨va, vc, hvf⟩ := HS.out.al.form
          have HKS := Lib.hid (show keepL d (done ++ [cur]) = keepL d done ++ [cur] from by rw [keep_snoc, hg]; simp)
          have HB := Lib.hid HS.out.bx
          have HDL := Lib.hid (show (keepL d done).length ≤ 1000 from by
            have h1 := keep_len d done
            have h2 := HSZ.out
            have h3 := congrArg List.length HS.out.eq
            simp only [List.length_append] at h3
            omega)
          have HBO := Lib.hid (Box.new wr cur)
          have HA4 := Lib.hid (show Stay (fun _ => False) wr (wr.alloc (.cells (enC cur).toArray 28)) from Stay.alloc _ _)
          obtain ⟨w4b, hw4⟩ : ∃ w4b, wr.alloc (.cells (enC cur).toArray 28) = w4b := ⟨_, rfl⟩
          rw [hw4] at HBO HA4
          have W4 := Lib.hid hw4
          have HO4 := Lib.hid (HS.out.al.stay0 HA4.out)
          have HZ4 := Lib.hid (show w.heap.size ≤ w4b.heap.size from Nat.le_trans HS.out.st.size HA4.out.size)
          clear hw4 hvf
          go_wp2_with (first
            | (refine wpList_load_run (by rfl) 28 (.tmp 9) rfl ⟨b, 0, none⟩ rfl _ HB.out.run_load ?_)
            | (refine list_one_en rfl (.tmp 38) rfl cur rfl ?_; rw [W4.out])
            | (at_builtin
               refine wpList_append_en rfl (.tmp 37) (.tmp 39) 25 rfl Try.underlying25 rfl rfl HO4.out (HBO.out.one 1 (by decide) (by decide)) (by rw [List.length_singleton]; have := HDL.out; omega) HZ4.out ?_
               intro v5 w5 ho5 hs5 hb5
               have HQ5 := Lib.hid (show EnO w.heap.size w5 v5 (keepL d (done ++ [cur])) ∧ RdS A w5 r rest Ls.length ∧ (∀ k, v5.ownBlock = some k → ¬ A k) ∧ Stay (fun k => u8.ownBlock = some k) wr w5 from by
                 refine ⟨by rw [HKS.out]; exact ho5, (HS.out.rd.stay0 HA4.out).stay hs5 (fun k hk e => HS.out.av k e hk), fun k hk h => ?_, (HA4.out.mono (fun _ x => x.elim)).trans hs5⟩
                 rcases hb5 with e | e
                 · rw [e] at hk; exact HS.out.av k hk h
                 · rw [e] at hk
                   have h1 := (HS.out.aw k h).2
                   have h2 := HA4.out.size
                   cases hk
                   omega)
               have HB5 := Lib.hid ((HB.out.stay0 HA4.out).stay hs5 (fun e => HS.out.vb _ e rfl))
               have HBN := Lib.hid (Box.new w5 ⟨[], [], false⟩)
               have HA6 := Lib.hid (show Stay (fun _ => False) w5 (w5.alloc (.cells (enC ⟨[], [], false⟩).toArray 28)) from Stay.alloc _ _)
               have HZ6 := Lib.hid (show (w5.alloc (.cells (enC ⟨[], [], false⟩).toArray 28)).heap.size = w5.heap.size + 1 by simp)
               obtain ⟨w6, hw6⟩ : ∃ w6, w5.alloc (.cells (enC ⟨[], [], false⟩).toArray 28) = w6 := ⟨_, rfl⟩
               rw [hw6] at HBN HA6 HZ6
               have W6 := Lib.hid hw6
               clear ho5 hs5 hb5 hw6)
            | (refine wpList_load_run (by rfl) 28 (.tmp 9) rfl ⟨b, 0, none⟩ rfl _ HB5.out.run_load ?_)
            | (with_reducible refine alloc_en rfl rfl ?_; rw [W6.out])
            | (refine Box.store HBN.out rfl (.tmp 9) (.tmp 41) rfl rfl cur rfl ?_
               intro w7 hb7 hs7
               have HB7 := Lib.hid hb7
               have HSB := Lib.hid hs7
               clear hb7 hs7))
          have HS7 := Lib.hid (show Stay (· = w5.heap.size) w5 w7 from (HA6.out.mono (fun _ x => x.elim)).trans HSB.out)
          have HZ7 := Lib.hid (show w5.heap.size < w7.heap.size from by have h1 := HSB.out.size; have h2 := HZ6.out; omega)
          have HR7 := Lib.hid (HQ5.out.2.1.stay HS7.out (fun k hk e => by have h1 := (HS.out.aw k hk).2; have h2 : k = w5.heap.size := e; have h3 := HQ5.out.2.2.2.size; omega))
          have HNX := Lib.hid (next_any A w7 r Ls.length rest HR7.out (by have := HLEN.out; omega))
          go_wp2_with fail
          refine HNX.out.mono ?_
          rintro e w8 ⟨t8, x8, rfl, hr8, hs8, hm8, he8, hx8⟩
          have HR8 := Lib.hid hr8
          have HS8 := Lib.hid hs8
          have HM8 := Lib.hid hm8
          have HE8 := Lib.hid he8
          have HB8 := Lib.hid (HB7.out.stay hs8 (fun h => by have h1 := (HS.out.aw _ h).2; have h2 := HQ5.out.2.2.2.size; omega))
          clear hr8 hs8 hm8 he8 hx8 HNX
          go_wp2_with (first
            | (refine Box.store HB8.out rfl (.tmp 9) (.tmp 28) rfl rfl x8 rfl ?_
               intro w9 hb9 hs9
               have HB9 := Lib.hid hb9
               have HS9 := Lib.hid hs9
               clear hb9 hs9))
          have z1 := HQ5.out.2.2.2.size
          have z2 := HZ7.out
          have z3 := HS8.out.size
          have z4 := HS9.out.size
          have z5 := HS.out.st.size
          have hav : ∀ k, v5.ownBlock = some k → ¬ A k ∧ k < w5.heap.size := fun k hk => ⟨HQ5.out.2.2.1 k hk, (HQ5.out.1.lt k hk).2⟩
          refine ⟨⟨w5.heap.size, t8, done ++ [cur], rest.tail, x8, fun k => (A k ∨ w7.heap.size ≤ k) ∧ k < w8.heap.size, rfl, rfl, Lib.hid ⟨?_, ?_, ?_, HB9.out, ?_, ?_, ?_, ?_, ?_, ?_, ?_⟩⟩, ?_⟩
          · exact ((HQ5.out.1.stay HS7.out (fun k hk e => by have h1 := (hav k hk).2; have h2 : k = w5.heap.size := e; omega)).stay HS8.out (fun k hk h => (hav k hk).1 h)).stay HS9.out (fun k hk e => by have h1 := (hav k hk).2; have h2 : k = w5.heap.size := e; omega)
          · have h1 := HS.out.eq
            have h2 := HE8.out
            rw [h1]
            simp only [if_true, List.append_assoc]
            congr 2
          · intro h
            have h2 := HE8.out
            rw [h] at h2
            cases hM : rest with
            | nil => rfl
            | cons a r => rw [hM] at h2; have := congrArg List.length h2; simp at this
          · exact (HR8.out.mono (A' := fun k => (A k ∨ w7.heap.size ≤ k) ∧ k < w8.heap.size) (fun k hk h => ⟨h, hk⟩)).stay HS9.out (fun k hk e => by have h2 : k = w5.heap.size := e; exact hk.1.elim (fun h => by have h1 := (HS.out.aw k h).2; omega) (fun h => by omega))
          · intro h
            rcases h.1 with h | h
            · have h1 := (HS.out.aw _ h).2
              omega
            · omega
          · intro k hk h
            rcases h.1 with h | h
            · exact (hav k hk).1 h
            · have h1 := (hav k hk).2
              omega
          · intro k h
            refine ⟨h.1.elim (fun h => (HS.out.aw k h).1) (fun h => by omega), by have := h.2; omega⟩
          · intro k hk e
            have h1 := (hav k hk).2
            omega
          · omega
          · exact stay_seal ((((HS.out.st.mono (Y := fun k => w.heap.size ≤ k) (fun _ x => x.elim)).trans (HQ5.out.2.2.2.mono (fun k hk => (HS.out.al.lt k hk).1))).trans (HS7.out.mono (fun k e => by have h2 : k = w5.heap.size := e; omega))).trans ((HS8.out.mono (fun k hk => (HS.out.aw k hk).1)).trans (HS9.out.mono (fun k e => by have h2 : k = w5.heap.size := e; omega)))) (fun k hk => hk)
          · obtain ⟨H1, k1, _⟩ := HS.out.rd.ex
            obtain ⟨H2, k2, _⟩ := HR7.out.ex
            obtain ⟨H3, k3, _⟩ := HR8.out.ex
            have hl1 : leftW w7 r = leftW wr r := by
              have j1 := (k1.stay HQ5.out.2.2.2 (fun k hk e => HS.out.av k e hk)).stay HS7.out (fun k hk e => by have h1 := (HS.out.aw k hk).2; have h2 : k = w5.heap.size := e; omega)
              rw [j1.left, k1.left]
            have hl2 : leftW w9 r = leftW w8 r := by
              rw [k3.left, ((k3.mono (A' := fun k => (A k ∨ w7.heap.size ≤ k) ∧ k < w8.heap.size) (fun k hk h => ⟨h, hk⟩)).stay HS9.out (fun k hk e => by have h2 : k = w5.heap.size := e; exact hk.1.elim (fun h => by have h1 := (HS.out.aw k h).2; omega) (fun h => by omega))).left]
            have h1 := HM8.out
            rw [hl1] at h1
            show leftW w9 r + tN (.bool t8) < leftW wr r + tN (.bool true)
            rw [hl2]
            cases t8 <;> simp [tN] at h1 ⊢ <;> omega
        | true =>
          cases d with
          | false =>
            have c2 := HS.out.bx.c (j := 2) rfl
            rw [hg] at c2
            obtain ⟨va, vc, hvf⟩ := HS.out.al.form
            have HKS := Lib.hid (show keepL false (done ++ [cur]) = keepL false done ++ [cur] from by rw [keep_snoc, hg]; simp)
            have HB := Lib.hid HS.out.bx
            have HDL := Lib.hid (show (keepL false done).length ≤ 1000 from by
              have h1 := keep_len false done
              have h2 := HSZ.out
              have h3 := congrArg List.length HS.out.eq
              simp only [List.length_append] at h3
              omega)
            have HBO := Lib.hid (Box.new wr cur)
            have HA4 := Lib.hid (show Stay (fun _ => False) wr (wr.alloc (.cells (enC cur).toArray 28)) from Stay.alloc _ _)
            obtain ⟨w4b, hw4⟩ : ∃ w4b, wr.alloc (.cells (enC cur).toArray 28) = w4b := ⟨_, rfl⟩
            rw [hw4] at HBO HA4
            have W4 := Lib.hid hw4
            have HO4 := Lib.hid (HS.out.al.stay0 HA4.out)
            have HZ4 := Lib.hid (show w.heap.size ≤ w4b.heap.size from Nat.le_trans HS.out.st.size HA4.out.size)
            clear hw4 hvf
            go_wp2_with (first
              | (refine wpList_load_run (by rfl) 28 (.tmp 9) rfl ⟨b, 0, none⟩ rfl _ HB.out.run_load ?_)
              | (refine list_one_en rfl (.tmp 38) rfl cur rfl ?_; rw [W4.out])
              | (at_builtin
                 refine wpList_append_en rfl (.tmp 37) (.tmp 39) 25 rfl Try.underlying25 rfl rfl HO4.out (HBO.out.one 1 (by decide) (by decide)) (by rw [List.length_singleton]; have := HDL.out; omega) HZ4.out ?_
                 intro v5 w5 ho5 hs5 hb5
                 have HQ5 := Lib.hid (show EnO w.heap.size w5 v5 (keepL false (done ++ [cur])) ∧ RdS A w5 r rest Ls.length ∧ (∀ k, v5.ownBlock = some k → ¬ A k) ∧ Stay (fun k => u8.ownBlock = some k) wr w5 from by
                   refine ⟨by rw [HKS.out]; exact ho5, (HS.out.rd.stay0 HA4.out).stay hs5 (fun k hk e => HS.out.av k e hk), fun k hk h => ?_, (HA4.out.mono (fun _ x => x.elim)).trans hs5⟩
                   rcases hb5 with e | e
                   · rw [e] at hk; exact HS.out.av k hk h
                   · rw [e] at hk
                     have h1 := (HS.out.aw k h).2
                     have h2 := HA4.out.size
                     cases hk
                     omega)
                 have HB5 := Lib.hid ((HB.out.stay0 HA4.out).stay hs5 (fun e => HS.out.vb _ e rfl))
                 have HBN := Lib.hid (Box.new w5 ⟨[], [], false⟩)
                 have HA6 := Lib.hid (show Stay (fun _ => False) w5 (w5.alloc (.cells (enC ⟨[], [], false⟩).toArray 28)) from Stay.alloc _ _)
                 have HZ6 := Lib.hid (show (w5.alloc (.cells (enC ⟨[], [], false⟩).toArray 28)).heap.size = w5.heap.size + 1 by simp)
                 obtain ⟨w6, hw6⟩ : ∃ w6, w5.alloc (.cells (enC ⟨[], [], false⟩).toArray 28) = w6 := ⟨_, rfl⟩
                 rw [hw6] at HBN HA6 HZ6
                 have W6 := Lib.hid hw6
                 clear ho5 hs5 hb5 hw6)
              | (refine wpList_load_run (by rfl) 28 (.tmp 9) rfl ⟨b, 0, none⟩ rfl _ HB5.out.run_load ?_)
              | (with_reducible refine alloc_en rfl rfl ?_; rw [W6.out])
              | (refine Box.store HBN.out rfl (.tmp 9) (.tmp 41) rfl rfl cur rfl ?_
                 intro w7 hb7 hs7
                 have HB7 := Lib.hid hb7
                 have HSB := Lib.hid hs7
                 clear hb7 hs7))
            have HS7 := Lib.hid (show Stay (· = w5.heap.size) w5 w7 from (HA6.out.mono (fun _ x => x.elim)).trans HSB.out)
            have HZ7 := Lib.hid (show w5.heap.size < w7.heap.size from by have h1 := HSB.out.size; have h2 := HZ6.out; omega)
            have HR7 := Lib.hid (HQ5.out.2.1.stay HS7.out (fun k hk e => by have h1 := (HS.out.aw k hk).2; have h2 : k = w5.heap.size := e; have h3 := HQ5.out.2.2.2.size; omega))
            have HNX := Lib.hid (next_any A w7 r Ls.length rest HR7.out (by have := HLEN.out; omega))
            go_wp2_with fail
            refine HNX.out.mono ?_
            rintro e w8 ⟨t8, x8, rfl, hr8, hs8, hm8, he8, hx8⟩
            have HR8 := Lib.hid hr8
            have HS8 := Lib.hid hs8
            have HM8 := Lib.hid hm8
            have HE8 := Lib.hid he8
            have HB8 := Lib.hid (HB7.out.stay hs8 (fun h => by have h1 := (HS.out.aw _ h).2; have h2 := HQ5.out.2.2.2.size; omega))
            clear hr8 hs8 hm8 he8 hx8 HNX
            go_wp2_with (first
              | (refine Box.store HB8.out rfl (.tmp 9) (.tmp 28) rfl rfl x8 rfl ?_
                 intro w9 hb9 hs9
                 have HB9 := Lib.hid hb9
                 have HS9 := Lib.hid hs9
                 clear hb9 hs9))
            have z1 := HQ5.out.2.2.2.size
            have z2 := HZ7.out
            have z3 := HS8.out.size
            have z4 := HS9.out.size
            have z5 := HS.out.st.size
            have hav : ∀ k, v5.ownBlock = some k → ¬ A k ∧ k < w5.heap.size := fun k hk => ⟨HQ5.out.2.2.1 k hk, (HQ5.out.1.lt k hk).2⟩
            refine ⟨⟨w5.heap.size, t8, done ++ [cur], rest.tail, x8, fun k => (A k ∨ w7.heap.size ≤ k) ∧ k < w8.heap.size, rfl, rfl, Lib.hid ⟨?_, ?_, ?_, HB9.out, ?_, ?_, ?_, ?_, ?_, ?_, ?_⟩⟩, ?_⟩
            · exact ((HQ5.out.1.stay HS7.out (fun k hk e => by have h1 := (hav k hk).2; have h2 : k = w5.heap.size := e; omega)).stay HS8.out (fun k hk h => (hav k hk).1 h)).stay HS9.out (fun k hk e => by have h1 := (hav k hk).2; have h2 : k = w5.heap.size := e; omega)
            · have h1 := HS.out.eq
              have h2 := HE8.out
              rw [h1]
              simp only [if_true, List.append_assoc]
              congr 2
            · intro h
              have h2 := HE8.out
              rw [h] at h2
              cases hM : rest with
              | nil => rfl
              | cons a r => rw [hM] at h2; have := congrArg List.length h2; simp at this
            · exact (HR8.out.mono (A' := fun k => (A k ∨ w7.heap.size ≤ k) ∧ k < w8.heap.size) (fun k hk h => ⟨h, hk⟩)).stay HS9.out (fun k hk e => by have h2 : k = w5.heap.size := e; exact hk.1.elim (fun h => by have h1 := (HS.out.aw k h).2; omega) (fun h => by omega))
            · intro h
              rcases h.1 with h | h
              · have h1 := (HS.out.aw _ h).2
                omega
              · omega
            · intro k hk h
              rcases h.1 with h | h
              · exact (hav k hk).1 h
              · have h1 := (hav k hk).2
                omega
            · intro k h
              refine ⟨h.1.elim (fun h => (HS.out.aw k h).1) (fun h => by omega), by have := h.2; omega⟩
            · intro k hk e
              have h1 := (hav k hk).2
              omega
            · omega
            · exact stay_seal ((((HS.out.st.mono (Y := fun k => w.heap.size ≤ k) (fun _ x => x.elim)).trans (HQ5.out.2.2.2.mono (fun k hk => (HS.out.al.lt k hk).1))).trans (HS7.out.mono (fun k e => by have h2 : k = w5.heap.size := e; omega))).trans ((HS8.out.mono (fun k hk => (HS.out.aw k hk).1)).trans (HS9.out.mono (fun k e => by have h2 : k = w5.heap.size := e; omega)))) (fun k hk => hk)
            · obtain ⟨H1, k1, _⟩ := HS.out.rd.ex
              obtain ⟨H2, k2, _⟩ := HR7.out.ex
              obtain ⟨H3, k3, _⟩ := HR8.out.ex
              have hl1 : leftW w7 r = leftW wr r := by
                have j1 := (k1.stay HQ5.out.2.2.2 (fun k hk e => HS.out.av k e hk)).stay HS7.out (fun k hk e => by have h1 := (HS.out.aw k hk).2; have h2 : k = w5.heap.size := e; omega)
                rw [j1.left, k1.left]
              have hl2 : leftW w9 r = leftW w8 r := by
                rw [k3.left, ((k3.mono (A' := fun k => (A k ∨ w7.heap.size ≤ k) ∧ k < w8.heap.size) (fun k hk h => ⟨h, hk⟩)).stay HS9.out (fun k hk e => by have h2 : k = w5.heap.size := e; exact hk.1.elim (fun h => by have h1 := (HS.out.aw k h).2; omega) (fun h => by omega))).left]
              have h1 := HM8.out
              rw [hl1] at h1
              show leftW w9 r + tN (.bool t8) < leftW wr r + tN (.bool true)
              rw [hl2]
              cases t8 <;> simp [tN] at h1 ⊢ <;> omega
          | true =>
            have c2 := HS.out.bx.c (j := 2) rfl
            rw [hg] at c2
            have HB5 := Lib.hid HS.out.bx
            have HQ5 := Lib.hid (show EnO w.heap.size wr u8 (keepL true (done ++ [cur])) ∧ RdS A wr r rest Ls.length ∧ (∀ k, u8.ownBlock = some k → ¬ A k) ∧ Stay (fun k => u8.ownBlock = some k) wr wr from
              ⟨by rw [keep_snoc, hg]; exact HS.out.al, HS.out.rd, HS.out.av, Stay.refl _ _⟩)
            have HBN := Lib.hid (Box.new wr ⟨[], [], false⟩)
            have HA6 := Lib.hid (show Stay (fun _ => False) wr (wr.alloc (.cells (enC ⟨[], [], false⟩).toArray 28)) from Stay.alloc _ _)
            have HZ6 := Lib.hid (show (wr.alloc (.cells (enC ⟨[], [], false⟩).toArray 28)).heap.size = wr.heap.size + 1 by simp)
            obtain ⟨w6, hw6⟩ : ∃ w6, wr.alloc (.cells (enC ⟨[], [], false⟩).toArray 28) = w6 := ⟨_, rfl⟩
            rw [hw6] at HBN HA6 HZ6
            have W6 := Lib.hid hw6
            clear hw6
            go_wp2_with (first
              | (refine wpList_load_run (by rfl) 28 (.tmp 9) rfl ⟨b, 0, none⟩ rfl _ HB5.out.run_load ?_)
              | (with_reducible refine alloc_en rfl rfl ?_; rw [W6.out])
              | (refine Box.store HBN.out rfl (.tmp 9) (.tmp 41) rfl rfl cur rfl ?_
                 intro w7 hb7 hs7
                 have HB7 := Lib.hid hb7
                 have HSB := Lib.hid hs7
                 clear hb7 hs7))
            have HS7 := Lib.hid (show Stay (· = wr.heap.size) wr w7 from (HA6.out.mono (fun _ x => x.elim)).trans HSB.out)
            have HZ7 := Lib.hid (show wr.heap.size < w7.heap.size from by have h1 := HSB.out.size; have h2 := HZ6.out; omega)
            have HR7 := Lib.hid (HQ5.out.2.1.stay HS7.out (fun k hk e => by have h1 := (HS.out.aw k hk).2; have h2 : k = wr.heap.size := e; have h3 := HQ5.out.2.2.2.size; omega))
            have HNX := Lib.hid (next_any A w7 r Ls.length rest HR7.out (by have := HLEN.out; omega))
            go_wp2_with fail
            refine HNX.out.mono ?_
            rintro e w8 ⟨t8, x8, rfl, hr8, hs8, hm8, he8, hx8⟩
            have HR8 := Lib.hid hr8
            have HS8 := Lib.hid hs8
            have HM8 := Lib.hid hm8
            have HE8 := Lib.hid he8
            have HB8 := Lib.hid (HB7.out.stay hs8 (fun h => by have h1 := (HS.out.aw _ h).2; have h2 := HQ5.out.2.2.2.size; omega))
            clear hr8 hs8 hm8 he8 hx8 HNX
            go_wp2_with (first
              | (refine Box.store HB8.out rfl (.tmp 9) (.tmp 28) rfl rfl x8 rfl ?_
                 intro w9 hb9 hs9
                 have HB9 := Lib.hid hb9
                 have HS9 := Lib.hid hs9
                 clear hb9 hs9))
            have z1 := HQ5.out.2.2.2.size
            have z2 := HZ7.out
            have z3 := HS8.out.size
            have z4 := HS9.out.size
            have z5 := HS.out.st.size
            have hav : ∀ k, u8.ownBlock = some k → ¬ A k ∧ k < wr.heap.size := fun k hk => ⟨HQ5.out.2.2.1 k hk, (HQ5.out.1.lt k hk).2⟩
            refine ⟨⟨wr.heap.size, t8, done ++ [cur], rest.tail, x8, fun k => (A k ∨ w7.heap.size ≤ k) ∧ k < w8.heap.size, rfl, rfl, Lib.hid ⟨?_, ?_, ?_, HB9.out, ?_, ?_, ?_, ?_, ?_, ?_, ?_⟩⟩, ?_⟩
            · exact ((HQ5.out.1.stay HS7.out (fun k hk e => by have h1 := (hav k hk).2; have h2 : k = wr.heap.size := e; omega)).stay HS8.out (fun k hk h => (hav k hk).1 h)).stay HS9.out (fun k hk e => by have h1 := (hav k hk).2; have h2 : k = wr.heap.size := e; omega)
            · have h1 := HS.out.eq
              have h2 := HE8.out
              rw [h1]
              simp only [if_true, List.append_assoc]
              congr 2
            · intro h
              have h2 := HE8.out
              rw [h] at h2
              cases hM : rest with
              | nil => rfl
              | cons a r => rw [hM] at h2; have := congrArg List.length h2; simp at this
            · exact (HR8.out.mono (A' := fun k => (A k ∨ w7.heap.size ≤ k) ∧ k < w8.heap.size) (fun k hk h => ⟨h, hk⟩)).stay HS9.out (fun k hk e => by have h2 : k = wr.heap.size := e; exact hk.1.elim (fun h => by have h1 := (HS.out.aw k h).2; omega) (fun h => by omega))
            · intro h
              rcases h.1 with h | h
              · have h1 := (HS.out.aw _ h).2
                omega
              · omega
            · intro k hk h
              rcases h.1 with h | h
              · exact (hav k hk).1 h
              · have h1 := (hav k hk).2
                omega
            · intro k h
              refine ⟨h.1.elim (fun h => (HS.out.aw k h).1) (fun h => by omega), by have := h.2; omega⟩
            · intro k hk e
              have h1 := (hav k hk).2
              omega
            · omega
            · exact stay_seal ((((HS.out.st.mono (Y := fun k => w.heap.size ≤ k) (fun _ x => x.elim)).trans (HQ5.out.2.2.2.mono (fun k hk => (HS.out.al.lt k hk).1))).trans (HS7.out.mono (fun k e => by have h2 : k = wr.heap.size := e; omega))).trans ((HS8.out.mono (fun k hk => (HS.out.aw k hk).1)).trans (HS9.out.mono (fun k e => by have h2 : k = wr.heap.size := e; omega)))) (fun k hk => hk)
            · obtain ⟨H1, k1, _⟩ := HS.out.rd.ex
              obtain ⟨H2, k2, _⟩ := HR7.out.ex
              obtain ⟨H3, k3, _⟩ := HR8.out.ex
              have hl1 : leftW w7 r = leftW wr r := by
                have j1 := k1.stay HS7.out (fun k hk e => by have h1 := (HS.out.aw k hk).2; have h2 : k = wr.heap.size := e; omega)
                rw [j1.left, k1.left]
              have hl2 : leftW w9 r = leftW w8 r := by
                rw [k3.left, ((k3.mono (A' := fun k => (A k ∨ w7.heap.size ≤ k) ∧ k < w8.heap.size) (fun k hk h => ⟨h, hk⟩)).stay HS9.out (fun k hk e => by have h2 : k = wr.heap.size := e; exact hk.1.elim (fun h => by have h1 := (HS.out.aw k h).2; omega) (fun h => by omega))).left]
              have h1 := HM8.out
              rw [hl1] at h1
              show leftW w9 r + tN (.bool t8) < leftW wr r + tN (.bool true)
              rw [hl2]
              cases t8 <;> simp [tN] at h1 ⊢ <;> omega
  · have HNA := Lib.hid hna
    clear hs1 hna HNEW
    go_wp2
    refine bodyPost_ret (v := .tuple #[.slice none 0 0, .iface 47 (.int .i64 41)]) (by simp [results, Try.results7]) rfl ⟨HS1.out, .inr ⟨HNA.out, rfl⟩⟩
end Go.Proofs.Ytdfhjmodacjilaa.Mg
