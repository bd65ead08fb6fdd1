/-
  The document's answer (chapter 2): a reader's Bool and Count.
-/
import Derived.Test.YtnlknnhibnfhcaaDoorPkRefI
namespace Go.Proofs.YtnlknnhibnfhcaaDoor.Pk
open Go.RowKit
set_option maxRecDepth 100000

set_option maxHeartbeats 2000000 in
theorem rrbool_any (b : List UInt8) (err : Nat) (w : World) (x : Value) (hx : Slc w x b) : Calls Tryd.prog 23 #[rdV x err] w fun e w' => RdRet boolV w' x (takeB truB false ⟨b, err⟩) e ∧ Stay (fun _ => False) w w' := by
  have HX := Lib.hid hx
  unfold rdV
  by_cases he : err = 0
  · subst he
    cases b with
    | nil =>
      obtain ⟨a0, cap, rfl, hr, hn, hcap, hcm⟩ := hx
      rw [takeB_error (s := ⟨[], 0⟩) (c := 12) rfl rfl]
      clear hr hn
      go_enter Tryd.func23, Tryd.ntmps23
      go_wp2_with fail
      refine (fail_new _ _ _ 12 _ _ rfl).mono ?_
      rintro e w2 ⟨rfl, hs2⟩
      obtain ⟨hb0, hb1⟩ := two_boxes hs2
      obtain ⟨d10, d11, g10, g11⟩ := two_cells hb1
      have hst2 : Stay (fun _ => False) w w2 := ((Stay.alloc _ _).trans (Stay.alloc _ _)).trans hs2
      clear hs2 hb0 hb1
      unfold rdV
      go_wp2
      have hfin := stay_set2 (B := w.heap.size + 1) hst2 (by omega) (.slice a0 0 cap) (.int .i64 (12 : Int))
      refine bodyPost_ret (v := .tuple #[rdV (.slice a0 0 cap) 12, .bool false]) (by simp [results, Tryd.results23, go_sem, d10, d11]; rfl) rfl ⟨⟨_, rfl, Sub.stay0 (Sub.refl HX.out) hfin⟩, hfin⟩
    | cons c r =>
      obtain ⟨a0, cap, rfl, hr, hn, hcap, hcm⟩ := hx
      obtain ⟨ad, rfl, hcell⟩ := hr (by simp)
      have hc : w.cell? ad = some (.int .u8 (c.toNat : Int)) := hcell 0 _ rfl
      have hadl := World.block_lt_of_cell? w ad hc
      have hcb := c.toNat_lt
      have hcut := Slc.cut (k := 1) HX.out (by simp)
      rw [List.drop_succ_cons, List.drop_zero] at hcut
      rw [List.length_cons] at *
      have hl0 : (((r.length + 1 : Nat) : Int) == 0) = false := beq_eq_false_iff_ne.2 (by omega)
      have hl1 : (0 : Int) < ((r.length + 1 : Nat) : Int) := by omega
      have hrl : (r.length : Int) ≤ 9223372036854775806 := by omega
      have hcw : ((w.alloc (.cells #[.slice (some ad) (r.length + 1) cap, .int .i64 0] 57)).alloc (.cells #[.slice none 0 0, .int .i64 0] 57)).cell? ad = some (.int .u8 (c.toNat : Int)) := by
        rw [World.cell?_alloc_lt _ _ ad (by simp; omega), World.cell?_alloc_lt _ _ ad hadl]
        exact hc
      clear hr hn hcell hc
      have HCU := Lib.hid hcut
      clear hcut
      by_cases h1 : 1 < c.toNat
      · have ht : truB (c :: r) = .error 3 := by simp [truB, h1]
        rw [takeB_error (s := ⟨c :: r, 0⟩) (c := 3) rfl ht]
        clear ht
        go_enter Tryd.func23, Tryd.ntmps23
        go_wp2_with fail
        refine (fail_new _ _ _ 3 _ _ rfl).mono ?_
        rintro e w2 ⟨rfl, hs2⟩
        obtain ⟨hb0, hb1⟩ := two_boxes hs2
        obtain ⟨d10, d11, g10, g11⟩ := two_cells hb1
        have hst2 : Stay (fun _ => False) w w2 := ((Stay.alloc _ _).trans (Stay.alloc _ _)).trans hs2
        clear hs2 hb0 hb1
        unfold rdV
        go_wp2
        have hfin := stay_set2 (B := w.heap.size + 1) hst2 (by omega) (.slice (some ad) (r.length + 1) cap) (.int .i64 (3 : Int))
        refine bodyPost_ret (v := .tuple #[rdV (.slice (some ad) (r.length + 1) cap) 3, .bool false]) (by simp [results, Tryd.results23, go_sem, d10, d11]; rfl) rfl ⟨⟨_, rfl, Sub.stay0 (Sub.refl HX.out) hfin⟩, hfin⟩
      · have ht : truB (c :: r) = .ok (c.toNat == 1, r) := by simp [truB, h1]
        rw [takeB_ok (s := ⟨c :: r, 0⟩) rfl ht]
        clear ht
        have hcut := HCU.out
        rw [Option.map_some, Nat.add_sub_cancel] at hcut
        have hq : ((c.toNat : Int) == 1) = (c.toNat == 1) := by
          by_cases h : c.toNat = 1
          · rw [h]; rfl
          · rw [beq_eq_false_iff_ne.2 h, beq_eq_false_iff_ne.2 (by omega)]
        generalize (c.toNat == 1) = q at hq ⊢
        have hcases : cap = 1 ∨ ¬ cap = 1 := by omega
        rcases hcases with hck | hck
        · subst hck
          have hr0 : r.length = 0 := by omega
          rw [if_pos rfl, Nat.sub_self, show Value.slice (some ad) r.length 0 = .slice (some ad) 0 0 by rw [hr0]] at hcut
          clear hr0
          have HCUT := Lib.hid hcut
          clear hcut
          go_enter Tryd.func23, Tryd.ntmps23
          go_wp2
          refine bodyPost_ret (v := .tuple #[rdV (.slice (some ad) 0 0) 0, .bool q]) (by simp [results, Tryd.results23, go_sem]; rfl) rfl ⟨⟨_, rfl, Sub.stay0 HCUT.out ((Stay.alloc _ _).trans (Stay.alloc _ _))⟩, (Stay.alloc _ _).trans (Stay.alloc _ _)⟩
        · rw [if_neg hck] at hcut
          have HCUT := Lib.hid hcut
          clear hcut
          go_enter Tryd.func23, Tryd.ntmps23
          go_wp2
          refine bodyPost_ret (v := .tuple #[rdV (.slice (some (ad.add 1)) r.length (cap - 1)) 0, .bool q]) (by simp [results, Tryd.results23, go_sem]; rfl) rfl ⟨⟨_, rfl, Sub.stay0 HCUT.out ((Stay.alloc _ _).trans (Stay.alloc _ _))⟩, (Stay.alloc _ _).trans (Stay.alloc _ _)⟩
  · have hb : ((err : Int) == 0) = false := beq_eq_false_iff_ne.2 (by omega)
    rw [takeB_bad he]
    obtain ⟨a0, cap, rfl, hr, hn, hcap, hcm⟩ := hx
    clear hr hn
    go_enter Tryd.func23, Tryd.ntmps23
    go_wp2
    refine bodyPost_ret (v := .tuple #[rdV (.slice a0 b.length cap) err, .bool false]) (by simp [results, Tryd.results23, go_sem]; rfl) rfl ⟨⟨_, rfl, Sub.stay0 (Sub.refl HX.out) ((Stay.alloc _ _).trans (Stay.alloc _ _))⟩, (Stay.alloc _ _).trans (Stay.alloc _ _)⟩

end Go.Proofs.YtnlknnhibnfhcaaDoor.Pk
