/-
  The document's answer (chapter 2): a reader's Int; what it says at its end.
-/
import Derived.Test.YtgfkeoicdjcfpaaDoorPkRefR
namespace Go.Proofs.YtgfkeoicdjcfpaaDoor.Pk
open Go.RowKit
set_option maxRecDepth 100000

theorem sigB_cons (c : UInt8) (r : List UInt8) (h : ¬ 1 < c.toNat) : sigB (c :: r) = match numB M63 r with
    | .error e => .error e
    | .ok (n, r2) => .ok (if (c.toNat == 1) = true then -1 - (n : Int) else (n : Int), r2) := by
  unfold sigB
  have : truB (c :: r) = .ok (c.toNat == 1, r) := by simp [truB, h]
  rw [this]
  simp only []
  cases numB M63 r <;> rfl
theorem Slc.ad_lt {w : World} {ad : Addr} {n cap : Nat} {c : UInt8} {r : List UInt8} (h : Slc w (.slice (some ad) n cap) (c :: r)) : w.cell? ad = some (.int .u8 (c.toNat : Int)) ∧ ad.block < w.heap.size := by
  obtain ⟨a0, c0, e, hr, _⟩ := h
  cases e
  obtain ⟨ad', e, hc⟩ := hr (by simp)
  cases e
  have h0 : w.cell? ad = some (.int .u8 (c.toNat : Int)) := hc 0 _ rfl
  exact ⟨h0, World.block_lt_of_cell? w ad h0⟩

theorem rruint_at (b : List UInt8) (err most : Nat) (m : Int) (w : World) (x v : Value) (hm' : m = (most : Int)) (hv : v = rdV x err) (hx : Slc w x b) (hm : most ≤ M64) : Calls Tryd.prog 7 #[v, .int .u64 m] w fun e w' => RdRet u64V w' x (takeB (numB most) 0 ⟨b, err⟩) e ∧ Stay (fun _ => False) w w' := by
  subst hm'
  subst hv
  exact rruint_any b err most w x hx hm

theorem Sub.stayB {B : Nat} {w w' : World} {x v : Value} {r : List UInt8} (h : Sub w x v r) (hx : ∀ k, x.ownBlock = some k → k < B) (hs : Stay (fun k => B ≤ k) w w') : Sub w' x v r :=
  ⟨h.1.stay hs (fun k e _ hB => by have h1 := hx k (h.2 k e); omega), h.2⟩
theorem stayB_set2 {B C : Nat} (w : World) (hB : B ≤ C) (u v : Value) (o : Obj) : Stay (fun k => B ≤ k) w (((w.setCell ⟨C, 0, none⟩ u).setCell ⟨C, 1, none⟩ v).alloc o) :=
  ((Stay.setCell _ _ _ hB).trans (Stay.setCell _ _ _ hB)).trans (Stay.alloc _ _)

theorem i64_neg (n : Nat) (h : n ≤ 9223372036854775807) : IntKind.i64.wrap (-(n : Int)) = -(n : Int) := IntWalk.i64_in _ (by omega)

set_option maxHeartbeats 4000000 in
theorem rrint_any (b : List UInt8) (err : Nat) (w : World) (x : Value) (hx : Slc w x b) : Calls Tryd.prog 9 #[rdV x err] w fun e w' => RdRet i64V w' x (takeB sigB 0 ⟨b, err⟩) e ∧ Stay (fun _ => False) w w' := by
  have HX := Lib.hid hx
  unfold rdV
  by_cases he : err = 0
  · subst he
    cases b with
    | nil =>
      obtain ⟨a0, cap, rfl, hr, hn, hcap, hcm⟩ := hx
      rw [takeB_error (s := ⟨[], 0⟩) (c := 12) rfl rfl]
      clear hr hn
      go_enter Tryd.func9, Tryd.ntmps9
      go_wp2_with fail
      refine (fail_new _ _ _ 12 _ _ rfl).mono ?_
      rintro e w2 ⟨rfl, hs2⟩
      obtain ⟨hb0, hb1⟩ := two_boxes hs2
      obtain ⟨d10, d11, g10, g11⟩ := two_cells hb1
      have hst2 : Stay (fun _ => False) w w2 := ((Stay.alloc _ _).trans (Stay.alloc _ _)).trans hs2
      clear hs2 hb0 hb1
      unfold rdV
      go_wp2
      have hfin := stay_set2 (B := w.heap.size + 1) hst2 (by omega) (.slice a0 0 cap) (.int .i64 (12 : Int))
      refine bodyPost_ret (v := .tuple #[rdV (.slice a0 0 cap) 12, .int .i64 0]) (by simp [results, Tryd.results9, go_sem, d10, d11]; rfl) rfl ⟨⟨_, rfl, Sub.stay0 (Sub.refl HX.out) hfin⟩, hfin⟩
    | cons c r =>
      obtain ⟨a0, cap, rfl, hr, hn, hcap, hcm⟩ := hx
      obtain ⟨ad, rfl, hcell⟩ := hr (by simp)
      have hc : w.cell? ad = some (.int .u8 (c.toNat : Int)) := hcell 0 _ rfl
      have hadl := World.block_lt_of_cell? w ad hc
      have hcb := c.toNat_lt
      have hcut := Slc.cut (k := 1) HX.out (by simp)
      rw [List.drop_succ_cons, List.drop_zero] at hcut
      rw [List.length_cons] at *
      have hl0 : (((r.length + 1 : Nat) : Int) == 0) = false := beq_eq_false_iff_ne.2 (by omega)
      have hl1 : (0 : Int) < ((r.length + 1 : Nat) : Int) := by omega
      have hrl : (r.length : Int) ≤ 9223372036854775806 := by omega
      have hcw : ((w.alloc (.cells #[.slice (some ad) (r.length + 1) cap, .int .i64 0] 27)).alloc (.cells #[.slice none 0 0, .int .i64 0] 27)).cell? ad = some (.int .u8 (c.toNat : Int)) := by
        rw [World.cell?_alloc_lt _ _ ad (by simp; omega), World.cell?_alloc_lt _ _ ad hadl]
        exact hc
      clear hr hn hcell
      have HCU := Lib.hid hcut
      clear hcut
      by_cases h1 : 1 < c.toNat
      · have ht : sigB (c :: r) = .error 3 := by
          unfold sigB
          have : truB (c :: r) = .error 3 := by simp [truB, h1]
          rw [this]
        rw [takeB_error (s := ⟨c :: r, 0⟩) (c := 3) rfl ht]
        clear ht
        go_enter Tryd.func9, Tryd.ntmps9
        go_wp2_with fail
        refine (fail_new _ _ _ 3 _ _ rfl).mono ?_
        rintro e w2 ⟨rfl, hs2⟩
        obtain ⟨hb0, hb1⟩ := two_boxes hs2
        obtain ⟨d10, d11, g10, g11⟩ := two_cells hb1
        have hst2 : Stay (fun _ => False) w w2 := ((Stay.alloc _ _).trans (Stay.alloc _ _)).trans hs2
        clear hs2 hb0 hb1
        unfold rdV
        go_wp2
        have hfin := stay_set2 (B := w.heap.size + 1) hst2 (by omega) (.slice (some ad) (r.length + 1) cap) (.int .i64 (3 : Int))
        refine bodyPost_ret (v := .tuple #[rdV (.slice (some ad) (r.length + 1) cap) 3, .int .i64 0]) (by simp [results, Tryd.results9, go_sem, d10, d11]; rfl) rfl ⟨⟨_, rfl, Sub.stay0 (Sub.refl HX.out) hfin⟩, hfin⟩
      · have hsig := sigB_cons c r h1
        have hcut := HCU.out
        rw [Option.map_some, Nat.add_sub_cancel] at hcut
        obtain ⟨TK, htk⟩ : ∃ TK, TK = takeB sigB 0 ⟨c :: r, 0⟩ := ⟨_, rfl⟩
        rw [← htk]
        have HT := Lib.hid htk
        have HSig := Lib.hid hsig
        have HHC := Lib.hid hc
        have hcases : cap = 1 ∨ ¬ cap = 1 := by omega
        have HCAP := Lib.hid hcap
        clear htk hsig hcap hc
        obtain ⟨X, hX⟩ : ∃ X, X = Value.slice (some ad) (r.length + 1) cap := ⟨_, rfl⟩
        have HXV := Lib.hid hX
        clear hX
        rcases hcases with hck | hck
        subst hck
        all_goals
          first
            | rw [if_pos rfl, Nat.sub_self] at hcut
            | rw [if_neg hck] at hcut
          have HCUT := Lib.hid hcut
          clear hcut
          go_enter Tryd.func9, Tryd.ntmps9
          go_wp2_with fail
          refine (rruint_at r 0 M63 _ _ _ _ rfl rfl (Slc.stay0 HCUT.out.1 ((Stay.alloc _ _).trans (Stay.alloc _ _))) (by decide)).mono ?_
          rintro e w1 ⟨hret, hs1⟩
          obtain ⟨hb0, hb1⟩ := two_boxes hs1
          obtain ⟨c00, c01, f00, f01⟩ := two_cells hb0
          obtain ⟨c10, c11, f10, f11⟩ := two_cells hb1
          have hlt0 := lt_of_block hb0
          have hlt1 := lt_of_block hb1
          have hst : Stay (fun _ => False) w w1 := ((Stay.alloc _ _).trans (Stay.alloc _ _)).trans hs1
          have HB1 := Lib.hid hb1
          have had1 : ad.block < w1.heap.size := Nat.lt_of_lt_of_le hadl hst.size
          have HC1 := Lib.hid (hst.cell HHC.out (fun x => x))
          clear hb0 hb1 hs1 hcw
          cases hnr : numB M63 r with
          | error c' =>
            rw [takeB_error (s := ⟨r, 0⟩) rfl hnr] at hret
            obtain ⟨x2, rfl, hsub⟩ := hret
            obtain ⟨a2, c2, rfl, _⟩ := id hsub.1
            have hc0 := numB_err hnr
            have hcb' : ((c' : Int) == 0) = false := beq_eq_false_iff_ne.2 (by omega)
            have hsg : sigB (c :: r) = .error c' := by rw [HSig.out, hnr]
            have HTK := Lib.hid (HT.out.trans (takeB_error (s := ⟨c :: r, 0⟩) rfl hsg))
            clear hnr hc0 hsub hsg
            unfold rdV u64V
            go_wp2_with fail
            refine (fail_new _ _ _ c' _ _ rfl).mono ?_
            rintro e w2 ⟨rfl, hs2⟩
            have hst2 : Stay (fun _ => False) w w2 := (hst.trans (Stay.alloc _ _)).trans hs2
            obtain ⟨d10, d11, g10, g11⟩ := two_cells ((hs2.block (w.heap.size + 1) (by simp; omega) (fun x => x)).trans ((Below.heap_alloc _ _ _ hlt1).trans HB1.out))
            clear c00 c01 f00 f01 c10 c11 f10 f11 hst hs2
            unfold rdV
            go_wp2
            refine bodyPost_ret (v := .tuple #[rdV X c', .int .i64 0]) (by rw [HXV.out]; simp [results, Tryd.results9, go_sem, d10, d11]; rfl) rfl ⟨?_, stay_set2 (B := w.heap.size + 1) hst2 (by omega) _ _⟩
            rw [HTK.out]
            refine ⟨X, rfl, ?_⟩
            rw [HXV.out]
            exact Sub.stay0 (Sub.refl HX.out) (stay_set2 (B := w.heap.size + 1) hst2 (by omega) _ _)
          | ok p =>
            obtain ⟨n, r2⟩ := p
            rw [takeB_ok (s := ⟨r, 0⟩) rfl hnr] at hret
            obtain ⟨x2, rfl, hsub⟩ := hret
            obtain ⟨a2, c2, rfl, _⟩ := id hsub.1
            have hle := numB_le hnr
            unfold M63 at hle
            have hw := i64_neg n hle
            have hsg : sigB (c :: r) = .ok (if (c.toNat == 1) = true then -1 - (n : Int) else (n : Int), r2) := by rw [HSig.out, hnr]
            have HTK := Lib.hid (HT.out.trans (takeB_ok (s := ⟨c :: r, 0⟩) rfl hsg))
            have hcw1 : (w1.alloc (.cells #[.slice a2 r2.length c2, .int .i64 0] 27)).cell? ad = some (.int .u8 (c.toNat : Int)) := by
              rw [World.cell?_alloc_lt _ _ ad had1]
              exact HC1.out
            have HSub2 := Lib.hid (Sub.trans (Sub.stay0 HCUT.out hst) hsub)
            clear hnr hsub hsg
            unfold rdV u64V
            by_cases hc1 : c.toNat = 1
            · have hq : ((c.toNat : Int) == 1) = true := by rw [hc1]; rfl
              have HC := Lib.hid hc1
              clear hc1
              go_wp2
              refine bodyPost_ret (v := .tuple #[rdV (.slice a2 r2.length c2) 0, .int .i64 (-(n : Int) - 1)]) (by simp [results, Tryd.results9, go_sem, c10, c11, hlt1]; rfl) rfl ⟨?_, (stay_set2 (B := w.heap.size + 1) hst (by omega) _ _).trans (Stay.alloc _ _)⟩
              rw [HTK.out, HC.out]
              refine ⟨.slice a2 r2.length c2, ?_, ?_⟩
              · simp [i64V]
                omega
              · exact Sub.stayB HSub2.out (fun k e => by cases e; exact hadl) (stayB_set2 w1 (Nat.le_succ _) _ _ _)
            · have hq : ((c.toNat : Int) == 1) = false := beq_eq_false_iff_ne.2 (by omega)
              have HC := Lib.hid (show (c.toNat == 1) = false from beq_eq_false_iff_ne.2 hc1)
              have hw2 : IntKind.i64.wrap (n : Int) = (n : Int) := IntWalk.i64_in _ (by omega)
              clear hc1
              go_wp2
              refine bodyPost_ret (v := .tuple #[rdV (.slice a2 r2.length c2) 0, .int .i64 (n : Int)]) (by simp [results, Tryd.results9, go_sem, c10, c11, hlt1]; rfl) rfl ⟨?_, (stay_set2 (B := w.heap.size + 1) hst (by omega) _ _).trans (Stay.alloc _ _)⟩
              rw [HTK.out, HC.out]
              refine ⟨.slice a2 r2.length c2, ?_, ?_⟩
              · simp [i64V]
              · exact Sub.stayB HSub2.out (fun k e => by cases e; exact hadl) (stayB_set2 w1 (Nat.le_succ _) _ _ _)
  · have hb : ((err : Int) == 0) = false := beq_eq_false_iff_ne.2 (by omega)
    rw [takeB_bad he]
    obtain ⟨a0, cap, rfl, hr, hn, hcap, hcm⟩ := hx
    clear hr hn
    go_enter Tryd.func9, Tryd.ntmps9
    go_wp2
    refine bodyPost_ret (v := .tuple #[rdV (.slice a0 b.length cap) err, .int .i64 0]) (by simp [results, Tryd.results9, go_sem]; rfl) rfl ⟨⟨_, rfl, Sub.stay0 (Sub.refl HX.out) ((Stay.alloc _ _).trans (Stay.alloc _ _))⟩, (Stay.alloc _ _).trans (Stay.alloc _ _)⟩

theorem rdone_ref (b : List UInt8) (err : Nat) (w : World) (x : Value) (hx : Slc w x b) : Calls Tryd.prog 22 #[rdV x err] w fun e w' => e = .returned (.int .i64 (doneB ⟨b, err⟩ : Nat)) ∧ Stay (fun _ => False) w w' := by
  obtain ⟨a0, cap, rfl, _, _, hcap, hcm⟩ := hx
  have hlen : (b.length : Int) ≤ 9223372036854775807 := by omega
  unfold rdV
  by_cases he : err = 0
  · subst he
    by_cases hb : 0 < b.length
    · have hd : doneB ⟨b, 0⟩ = 3 := by simp [doneB]; exact List.length_pos_iff.1 hb
      rw [hd]
      clear hd
      go_enter Tryd.func22, Tryd.ntmps22
      go_wp2
      go_ret
      exact ⟨rfl, Stay.alloc _ _⟩
    · have hb0 : b.length = 0 := by omega
      have hd : doneB ⟨b, 0⟩ = 0 := by
        unfold doneB
        rw [if_neg (fun h => h rfl), if_neg hb]
      rw [hd, hb0]
      clear hd hb0 hb hlen hcap
      go_enter Tryd.func22, Tryd.ntmps22
      go_wp2
      go_ret
      exact ⟨rfl, Stay.alloc _ _⟩
  · have hd : doneB ⟨b, err⟩ = err := by simp [doneB, he]
    have hb : ((err : Int) == 0) = false := beq_eq_false_iff_ne.2 (by omega)
    rw [hd]
    clear hd he
    go_enter Tryd.func22, Tryd.ntmps22
    go_wp2
    go_ret
    exact ⟨rfl, Stay.alloc _ _⟩

end Go.Proofs.YtgfkeoicdjcfpaaDoor.Pk
