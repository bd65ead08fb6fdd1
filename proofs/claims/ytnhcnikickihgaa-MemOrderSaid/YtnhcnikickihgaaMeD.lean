/-
  mem: how many, how many bytes, a key's entry, all dropped.
-/
import Derived.Test.YtnhcnikickihgaaMeC
namespace Go.Proofs.Ytnhcnikickihgaa.Me
open Go.RowKit Go.Maps
set_option maxRecDepth 100000
set_option linter.unusedVariables false

theorem MR.ptr {w : World} {pv : Value} {L : List En} (h : MR w pv L) : ∃ p0, pv = .pointer p0 := by
  rcases h with ⟨e, _⟩ | ⟨p, v, e, _⟩
  · exact ⟨_, e⟩
  · exact ⟨_, e⟩
theorem alloc_en {ops : Array Oper} {rest : List Oper} {o : Oper} {a : Act} {w : World} {Q : Exit → Act → World → Prop} (hgd : o.guard = none) (ho : o.op = .alloc 27)
    (hn : wpList Try.prog ops Q rest (a.put o.dst (.pointer (some ⟨w.heap.size, 0, none⟩))) (w.alloc (.cells (enC ⟨[], [], false⟩).toArray 27))) : wpList Try.prog ops Q (o :: rest) a w :=
  wpList_alloc_at hgd _ ho zeroV (zero_en w) hn

theorem len_any (w : World) (pv : Value) (L : List En) (h : MR w pv L) :
    Calls Try.prog 11 #[pv] w fun e w' => e = .returned (.int .i64 (L.length : Int)) ∧ w = w' := by
  have H := Lib.hid h
  obtain ⟨p0, rfl⟩ := h.ptr
  clear h
  go_enter Try.func11, Try.ntmps11
  go_wp2_with fail
  refine (all_any w _ L H.out).mono ?_
  rintro e w1 ⟨x, rfl, hx, rfl⟩
  obtain ⟨a0, c, rfl⟩ := hx.form
  clear hx
  go_wp2
  go_ret
  exact ⟨rfl, rfl⟩

theorem clear_nil (w : World) : Calls Try.prog 9 #[.pointer none] w fun e w' => e = .returned (.tuple #[]) ∧ w = w' := by
  go_enter Try.func9, Try.ntmps9
  go_wp2
  exact bodyPost_end (results_none rfl _ _ _) rfl ⟨rfl, rfl⟩
theorem clear_any {B : Nat → Prop} (w : World) (p : Nat) (L : List En) (h : MAt B w p L) :
    Calls Try.prog 9 #[.pointer (some ⟨p, 0, none⟩)] w fun e w' => e = .returned (.tuple #[]) ∧ MAt B w' p [] ∧ Stay B w w' := by
  have HB := Lib.hid h.bp
  obtain ⟨v, h1, h2, h3⟩ := h.ex
  have hc : w.cell? ⟨p, 0, none⟩ = some v := by rw [cell_of_row w p 0 _ _ _ h1]; rfl
  have hf := frozen_of_row w p 0 _ _ h1
  have H1 := Lib.hid (show (w.setCell ⟨p, 0, none⟩ (.slice none 0 0)).heap[p]? = some (.cells #[.slice none 0 0] 43 (0, 0)) from heap_setCell_same w p 0 _ _ _ h1)
  have H2 := Lib.hid (show Stay B w (w.setCell ⟨p, 0, none⟩ (.slice none 0 0)) from Stay.setCell _ _ _ HB.out)
  obtain ⟨a0, c, rfl⟩ := h2.form
  clear h h1 h2 h3
  go_enter Try.func9, Try.ntmps9
  go_wp2
  exact bodyPost_end (results_none rfl _ _ _) rfl ⟨rfl, ⟨⟨_, H1.out, EnO.nil _ _, fun k hk => by cases hk⟩, HB.out, sorted_nil⟩, H2.out⟩

set_option maxHeartbeats 4000000 in
theorem size_any (w : World) (pv : Value) (L : List En) (h : MR w pv L) (hz : sizeL L ≤ 1000000000000000000) :
    Calls Try.prog 12 #[pv] w fun e w' => e = .returned (.int .i64 (sizeL L : Int)) ∧ Stay (fun _ => False) w w' := by
  have H := Lib.hid h
  obtain ⟨p0, rfl⟩ := h.ptr
  have HZ := Lib.hid hz
  clear h hz
  go_enter Try.func12, Try.ntmps12
  go_wp2_with fail
  refine (all_any w _ L H.out).mono ?_
  rintro e w1 ⟨x, rfl, hx, rfl⟩
  have HX := Lib.hid hx
  obtain ⟨a0, c, rfl, hnc, hcm, _⟩ := hx
  go_wp2
  go_loopw [3, 9] (fun n i wr => ∃ j : Nat, j ≤ L.length ∧ i = .int .i64 (j : Int) ∧ n = .int .i64 (sizeL (L.take j) : Int) ∧ Stay (fun _ => False) w wr) (fun _ i _ => L.length - (intOf i).toNat)
  case atStart => exact ⟨0, Nat.zero_le _, rfl, rfl, Stay.refl _ _⟩
  case round =>
    obtain ⟨j, hj, rfl, rfl, hst⟩ := hrel
    have HT := Lib.hid hst
    clear hst
    by_cases hlt : j < L.length
    · obtain ⟨e, he⟩ : ∃ e, L[j]? = some e := ⟨_, List.getElem?_eq_getElem (by omega)⟩
      obtain ⟨g, o, rfl, _, hc⟩ := (HX.out.stay0 HT.out).at (by omega)
      obtain ⟨h0, h1, h2⟩ := hc _ e he
      have kl := Lib.hid (run_load_at h0 h1 h2)
      have hs1 : sizeL (L.take (j + 1)) = sizeL (L.take j) + (e.k.length + e.v.length) := by rw [List.take_add_one, he]; exact sizeL_snoc _ _
      have hs2 : sizeL (L.take (j + 1)) ≤ sizeL L := by
        conv => rhs; rw [← List.take_append_drop (j + 1) L]
        rw [sizeL_append]
        omega
      have HS := Lib.hid hs1
      have hzz : sizeL (L.take j) + (e.k.length + e.v.length) ≤ 1000000000000000000 := by have := HZ.out; omega
      have HBX := Lib.hid (Box.new wr ⟨[], [], false⟩)
      have HA := Lib.hid (show Stay (fun _ => False) wr (wr.alloc (.cells (enC ⟨[], [], false⟩).toArray 27)) from Stay.alloc _ _)
      clear he hc h0 h1 h2 hs1 hs2
      generalize sizeL (L.take j) = S at *
      go_wp2_with (first
        | (refine wpList_load_run (by rfl) 27 (.tmp 11) rfl ⟨g, o + j * 3, none⟩ rfl _ kl.out ?_)
        | (with_reducible refine alloc_en rfl rfl ?_)
        | (refine Box.store HBX.out rfl (.tmp 5) (.tmp 12) rfl rfl e rfl ?_
           intro w3 hb3 hs3
           have c0 := hb3.c (j := 0) rfl
           have c1 := hb3.c (j := 1) rfl
           have HS3 := Lib.hid (HT.out.trans (stay_seal (HA.out.mono (fun _ x => x.elim) |>.trans hs3) (fun k hk => by have hk' : k = wr.heap.size := hk; omega)))
           clear hb3 hs3))
      refine ⟨⟨j + 1, hlt, by go_num, ?_, HS3.out⟩, by simp [intOf]; omega⟩
      exact congrArg (Value.int .i64) (by rw [HS.out]; omega)
    · obtain rfl : j = L.length := by omega
      have HL := Lib.hid (show L.take L.length = L from List.take_length)
      rw [HL.out] at *
      go_wp2
      go_ret
      exact ⟨rfl, HT.out⟩
end Go.Proofs.Ytnhcnikickihgaa.Me
