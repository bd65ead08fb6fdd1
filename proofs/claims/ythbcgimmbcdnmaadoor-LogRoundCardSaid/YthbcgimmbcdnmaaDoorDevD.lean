/-
  dev: the contracts of Read and Write.
-/
import Derived.Test.YthbcgimmbcdnmaaDoorDevC
import Derived.BigQuiet
import Derived.Deep.QuietTactic
namespace Go.Proofs.YthbcgimmbcdnmaaDoor
open Go.RowKit Go.Maps
set_option maxRecDepth 100000

theorem wfI (i : Nat) (h : i ≤ 16384) : (Lit.int .i64 (i : Int)).wf = true := by
  have e1 : IntKind.i64.min = -9223372036854775808 := by decide
  have e2 : IntKind.i64.max = 9223372036854775807 := by decide
  simp only [Lit.wf, e1, e2, Bool.and_eq_true, decide_eq_true_eq]; omega
theorem zero_blk (w : World) : (zeroValue 84).run Tryd.prog w = .ok (secV zsec) w := by kernel_rfl

theorem u8Info : (Tryd.prog.info? 5).map (fun i => (i.zero, i.size, i.bytes)) = some (some (.int .u8 0), 1, 1) := by kernel_rfl

theorem clone_any (b off n cap : Nat) (xs : List Value) (w : World) (h : ∀ j u, xs[j]? = some u → w.cell? ⟨b, off + j, none⟩ = some u) (hn : xs.length = n) (h0 : 0 < n) (h1 : ∀ u ∈ xs, u.oneCell' = true) (hm : n ≤ 140737488355328) :
    Calls Tryd.prog 43 #[.slice (some ⟨b, off, none⟩) n cap] w fun e w' => ∃ v, e = .returned v ∧ w'.ownsRow w.heap.size 5 1 v n xs ∧ Stay (fun _ => False) w w' ∧ v ≠ .slice none 0 0 := by
  obtain ⟨i0, hi, hz0, hz1, hz2⟩ := info_parts u8Info
  have hq := @Lib.run_eql_slice_nil
  have hcl : ∀ j u, xs[j]? = some u → (w.alloc (.cells #[] 5)).cell? ((⟨b, off, none⟩ : Addr).add j) = some u := by
    intro j u hu
    rw [add_at]
    have hc := h j u hu
    exact (World.cell?_alloc_lt w _ _ (World.block_lt_of_cell? w _ hc)).trans hc
  have how : (w.alloc (.cells #[] 5)).ownsRow w.heap.size 5 1 (.slice (some ⟨w.heap.size, 0, none⟩) 0 0) 0 [] := World.ownsRow_lit w #[] 0 (Nat.le_refl _) (Nat.zero_le _) rfl
  have hlen : xs.length = n * 1 := by omega
  have hml : 0 + n ≤ maxLen := by unfold maxLen; omega
  have HI := Lib.hid hi
  have HZ0 := Lib.hid hz0
  have HZ1 := Lib.hid hz1
  have HZ2 := Lib.hid hz2
  have HN := Lib.hid hn
  have HL := Lib.hid hlen
  have HC := Lib.hid h
  clear hi hz0 hz1 hz2 hn hlen h
  go_enter Tryd.func43, Tryd.ntmps43
  go_wp2_with (at_builtin; refine wpList_append_own _ rfl (.tmp 5) (.tmp 6) 36 rfl w.heap.size 5 i0 (.int .u8 0) 1 1 Tryd.underlying36 HI.out HZ0.out HZ1.out HZ2.out rfl (by decide) (.slice (some ⟨w.heap.size, 0, none⟩) 0 0) 0 [] rfl how ⟨b, off, none⟩ n cap xs rfl HL.out hcl h1 hml (by omega) (by simp) ?_; intro v' w1 hown hgr hnn)
  go_ret
  refine ⟨v', rfl, ?_, (Stay.alloc (X := fun _ => False) w _).andThen (Stay.grown (X := fun k => k = w.heap.size) hgr (fun k hk => by simpa [Value.ownBlock] using hk.symm)) (fun k hk e => by omega), fun e => ?_⟩
  · simpa using hown
  · simpa using hnn.1 e

/-- What Read does behind the map's answer, where it is in the map. -/
theorem read_some (w : World) (pd ps pm : Nat) (d : DS) (i : Nat) (l : List UInt8) (h : DevAt w pd ps pm d) (hcr : d.cr = false) (hlo : d.lo = false) (hi : i < d.n) (hL : d.L i = some l) :
    Calls Tryd.prog 36 #[.pointer (some ⟨pd, 0, none⟩), .int .i64 i] w fun e w' => ∃ v, e = .returned (.tuple #[v, .nilIface]) ∧
      w'.ownsRow w.heap.size 5 1 v 64 (cellsB l) ∧ Stay (fun _ => False) w w' ∧ v ≠ .slice none 0 0 := by
  have hn2 := h.n2
  have hwf := wfI i (by omega)
  have hl64 := (h.map.1 i l hL).1
  have c0 := h.c0
  have c1 := h.c1
  have c2 := h.c2
  have c3 := h.c3
  rw [hcr] at c2
  rw [hlo] at c3
  have HL := Lib.hid hL
  have H64 := Lib.hid hl64
  clear hL hcr hlo hl64
  go_enter Tryd.func36, Tryd.ntmps36
  go_wp2_with (first
    | (go_at_call 57; refine (reach_in _ _ _ _ _ c0 c2 c3 (by omega) (by omega)).mono ?_; rintro e w' ⟨rfl, rfl⟩)
    | (at_lookup; refine wpList_look rfl _ _ _ _ rfl h.map Tryd.underlying3 Tryd.underlying52 (zero_blk _) i hwf rfl rfl l true (by rw [HL.out]; rfl) (by rw [HL.out]; rfl) ?_)
    | ((with_reducible refine wpList_alloc_at rfl 84 rfl _ (zero_blk _) ?_); show wpList _ _ _ _ _ (w.alloc (.cells (cellsB zsec).toArray 84)))
    | ((with_reducible refine wpList_store_mid rfl 84 (.tmp 7) (.tmp 22) rfl w.heap.size 0 ?e1 84 (cellsB zsec) (cellsB l) ?e2 (heap_alloc_new _ _) ?e3 ?e4 (oneCell_cellsB _) ?e5); case e1 => rfl
       case e2 => rfl
       case e3 => rw [length_cellsB, H64.out]; kernel_rfl
       case e4 => simp [length_cellsB, H64.out, zsec]
       intro w2 hg2 hs2)
    | (go_at_call 43; refine (clone_any w.heap.size 0 64 64 (cellsB l) _ ?f1 ?f2 (by omega) (oneCell_cellsB _) (by omega)).mono ?_
       case f1 =>
         intro j u hu
         rw [cell_of_row _ _ _ _ _ _ hg2]
         have e : splice (cellsB zsec) 0 (cellsB l) = cellsB l := by simp [splice, length_cellsB, H64.out, zsec]
         rw [e]; simpa using hu
       case f2 => rw [length_cellsB, H64.out]
       rintro e w3 ⟨v, rfl, hv, hs3, hne⟩))
  go_ret2
  have hsz : w.heap.size ≤ w2.heap.size := by have := hs2.size; simp at this; omega
  have hS : Stay (fun _ => False) w w2 := (Stay.alloc (X := fun _ => False) w _).andThen hs2 (fun k hk e => by omega)
  exact ⟨v, rfl, ownsRow_base_le hv hsz, hS.trans hs3, hne⟩

theorem read_none (w : World) (pd ps pm : Nat) (d : DS) (i : Nat) (h : DevAt w pd ps pm d) (hcr : d.cr = false) (hlo : d.lo = false) (hi : i < d.n) (hL : d.L i = none) :
    Calls Tryd.prog 36 #[.pointer (some ⟨pd, 0, none⟩), .int .i64 i] w fun e w' => ∃ v, e = .returned (.tuple #[v, .nilIface]) ∧
      w'.ownsRow w.heap.size 5 1 v 64 (cellsB (d.s i)) ∧ Stay (fun _ => False) w w' ∧ v ≠ .slice none 0 0 := by
  have hn2 := h.n2
  have hwf := wfI i (by omega)
  have hl64 := h.wide i
  have c0 := h.c0
  have c1 := h.c1
  have c2 := h.c2
  have c3 := h.c3
  rw [hcr] at c2
  rw [hlo] at c3
  have HL := Lib.hid hL
  have H64 := Lib.hid hl64
  clear hL hcr hlo hl64
  have hsp : ∀ l : List UInt8, l.length = 64 → splice (cellsB zsec) 0 (cellsB l) = cellsB l := fun l hl => by simp [splice, length_cellsB, hl, zsec]
  have HSP := Lib.hid hsp
  clear hsp
  go_enter Tryd.func36, Tryd.ntmps36
  go_wp2_with (first
    | (go_at_call 57; refine (reach_in _ _ _ _ _ c0 c2 c3 (by omega) (by omega)).mono ?_; rintro e w' ⟨rfl, rfl⟩)
    | (at_lookup; refine wpList_look rfl _ _ _ _ rfl h.map Tryd.underlying3 Tryd.underlying52 (zero_blk _) i hwf rfl rfl zsec false (by rw [HL.out]; rfl) (by rw [HL.out]; rfl) ?_)
    | ((with_reducible refine wpList_alloc_at rfl 84 rfl _ (zero_blk _) ?_); show wpList _ _ _ _ _ (w.alloc (.cells (cellsB zsec).toArray 84)))
    | ((with_reducible refine wpList_store_mid rfl 84 (.tmp 7) (.tmp 22) rfl w.heap.size 0 ?e1 84 (cellsB zsec) (cellsB zsec) ?e2 (heap_alloc_new _ _) ?e3 ?e4 (oneCell_cellsB _) ?e5); case e1 => rfl
       case e2 => rfl
       case e3 => kernel_rfl
       case e4 => simp [length_cellsB, zsec]
       rw [HSP.out _ length_zsec]
       intro w2 hg2 hs2
       have h2 : DevAt w2 pd ps pm d := (h.stay (Stay.alloc (X := fun _ => False) w _) (fun x => x) (fun x => x) (fun x => x)).stay hs2 (Nat.ne_of_lt h.lt1) (Nat.ne_of_lt h.lt2) (Nat.ne_of_lt h.lt3)
       have d0 := h2.c0)
    | ((with_reducible refine wpList_load_mid rfl 84 (.tmp 31) rfl ps (i * 64) ?g1 84 (cellsB (flat d.s d.n)).toArray (cellsB (d.s i)).toArray (0, 0) _ h2.sec Tryd.underlying84 rfl ?g2 (cells_at h.wide hi) ?_)
       case g1 => rfl
       case g2 => rw [List.size_toArray, length_cellsB, H64.out]; kernel_rfl)
    | ((with_reducible refine wpList_store_mid rfl 84 (.tmp 7) (.tmp 32) rfl w.heap.size 0 ?k1 84 (cellsB zsec) (cellsB (d.s i)) ?k2 hg2 ?k3 ?k4 (oneCell_cellsB _) ?k5); case k1 => rfl
       case k2 => rfl
       case k3 => rw [length_cellsB, H64.out]; kernel_rfl
       case k4 => simp [length_cellsB, H64.out, zsec]
       rw [HSP.out _ H64.out]
       intro w4 hg4 hs4)
    | (go_at_call 43; refine (clone_any w.heap.size 0 64 64 (cellsB (d.s i)) _ ?f1 ?f2 (by omega) (oneCell_cellsB _) (by omega)).mono ?_
       case f1 =>
         intro j u hu
         rw [cell_of_row _ _ _ _ _ _ hg4]
         simpa using hu
       case f2 => rw [length_cellsB, H64.out]
       rintro e w3 ⟨v, rfl, hv, hs3, hne⟩))
  go_ret2
  have hsz : w.heap.size ≤ w4.heap.size := by have := hs2.size; have := hs4.size; simp at *; omega
  have hS : Stay (fun _ => False) w w4 := ((Stay.alloc (X := fun _ => False) w _).andThen hs2 (fun k hk e => by omega)).andThen hs4 (fun k hk e => by omega)
  exact ⟨v, rfl, ownsRow_base_le hv hsz, hS.trans hs3, hne⟩

end Go.Proofs.YthbcgimmbcdnmaaDoor
