import Derived.Test.YtlmaooeeklhelaaGreatDoorGaS
import Derived.Test.YtlmaooeeklhelaaGreatDoorTrX
import Derived.Test.YtlmaooeeklhelaaGreatDoorTrY
import Derived.Test.YtlmaooeeklhelaaGreatDoorGaN
import Derived.Test.YtlmaooeeklhelaaGreatDoorDevU
import Derived.Test.YtlmaooeeklhelaaGreatDoorTgS
import Derived.Test.YtlmaooeeklhelaaGreatDoorPkOpen
import Derived.Test.YtlmaooeeklhelaaGreatDoorTgWholeF
import Derived.Test.YtlmaooeeklhelaaGreatDoorCards
import Derived.Test.YtlmaooeeklhelaaGreatDoorTie
import Derived.SevenTiedAt
/-
  The document's toggle (drydockref04): Save, where nothing is written.
-/
namespace Go.Proofs.YtlmaooeeklhelaaGreatDoor.Tg
open Go.RowKit Pk
set_option maxRecDepth 100000

set_option maxHeartbeats 2000000 in
theorem rsave_early (w : World) (v1 v2 v3 : Value) (r : RDev) (d : DS) (b : Int) (f s : Int) (l : List UInt8) (h : Dv w v1 v2 v3 r) (hr : ROk d.n b r) (hsim : Sim d r) (hw : ∀ j, (d.cur j).length = 64) (h0 : 0 < d.n) (hn : d.n ≤ 16384) (hf : I64 f) (hs : I64 s) (hl : l.length ≤ 9223372036854775806)
    (c : Nat) (hc : ((askD d f s).2 ≠ 0 ∧ (askD d f s).2 ≠ 8 ∧ c = (askD d f s).2) ∨ (((askD d f s).2 = 0 ∨ (askD d f s).2 = 8) ∧ roomI s < (l.length : Int) ∧ c = 2)) :
    Calls Tryz.prog 18 #[devV v1 v2 v3 r, areaV f s, strV l] w fun e w' => e = .returned (.tuple #[devV v1 v2 v3 r, .int .i64 (c : Nat)]) ∧ Stay (fun _ => False) w w' := by
  obtain ⟨w1, hw1, HST, HSZ, HB, HA, HZ⟩ := save_boxes w v1 v2 v3 r f s
  have hlook := fun W (hW : Stay (fun _ => False) w1 W) => rlook_any W v1 v2 v3 r d b f s (h.stay0 (HST.out.trans hW)) hr hsim hw h0 hn hf hs
  have HO := Lib.hid h.one
  have HROOM := Lib.hid (fun W => rroom_any f s W)
  obtain ⟨q, hq⟩ : ∃ q, askD d f s = q := ⟨_, rfl⟩
  rw [hq] at hlook hc
  obtain ⟨q1, qc⟩ := q
  dsimp only at hc
  have HLK := Lib.hid hlook
  clear h hr hsim hw hq hlook
  rcases hc with ⟨c0, c8, rfl⟩ | ⟨c08, hlong, rfl⟩
  · have e0 : ((c : Int) == 0) = false := beq_eq_false_iff_ne.2 (by omega)
    have e8 : ((c : Int) == 8) = false := beq_eq_false_iff_ne.2 (by omega)
    have e0' : ((c : Int) = 0) = False := eq_false (by omega)
    have e8' : ((c : Int) = 8) = False := eq_false (by omega)
    have n0 : ((c : Int) != 0) = true := by simp [bne, e0]
    have n8 : ((c : Int) != 8) = true := by simp [bne, e8]
    unfold devV areaV strV
    go_enter Tryz.func18, Tryz.ntmps18
    go_wp2_with (first
      | (refine load_box rfl (.tmp 3) rfl w.heap.size rfl _ _ _ _ HB.out ?_)
      | (refine load_area rfl (.tmp 4) rfl (w.heap.size + 1) rfl f s HA.out ?_))
    clear hw1
    refine (HLK.out w1 (Stay.refl _ _)).mono ?_
    rintro e w2 ⟨rfl, t2⟩
    have HB2 := Lib.hid (HB.out.stay t2 (fun y => y))
    have HZ2 := Lib.hid (HZ.out.stay t2 (fun y => y))
    have HS2 := Lib.hid (HST.out.trans t2)
    clear t2
    unfold askV
    go_wp2_with (first
      | (refine load_box rfl (.tmp 3) rfl w.heap.size rfl _ _ _ _ HB2.out ?_)
      | (refine store_box rfl (.tmp 6) (.tmp 29) rfl (w.heap.size + 2) rfl _ _ _ _ _ _ _ _ rfl HO.out HZ2.out ?_
         intro wE hE sE
         have HE := Lib.hid hE
         have SE := Lib.hid sE
         clear hE sE))
    have hld := run_load_box HE.out
    refine bodyPost_ret (v := .tuple #[devV v1 v2 v3 r, .int .i64 (c : Nat)]) (by simp [results, Tryz.results18, asAddr, hld]) rfl ⟨rfl, ?_⟩
    exact stay_seal (X := fun j => w.heap.size ≤ j) ((HS2.out.mono (fun _ y => y.elim)).trans (SE.out.mono (fun j (e : j = w.heap.size + 2) => by omega))) (fun _ hk => hk)
  · have hl2 : (l.length : Int) ≤ 9223372036854775806 := by omega
    rcases c08 with rfl | rfl
    all_goals
      unfold devV areaV strV
      go_enter Tryz.func18, Tryz.ntmps18
      go_wp2_with (first
        | (refine load_box rfl (.tmp 3) rfl w.heap.size rfl _ _ _ _ HB.out ?_)
        | (refine load_area rfl (.tmp 4) rfl (w.heap.size + 1) rfl f s HA.out ?_))
      clear hw1
      refine (HLK.out w1 (Stay.refl _ _)).mono ?_
      rintro e w2 ⟨rfl, t2⟩
      have HB2 := Lib.hid (HB.out.stay t2 (fun y => y))
      have HA2 := Lib.hid (HA.out.stay t2 (fun y => y))
      have HZ2 := Lib.hid (HZ.out.stay t2 (fun y => y))
      have HS2 := Lib.hid (HST.out.trans t2)
      clear t2
      unfold askV
      go_wp2_with (refine load_area rfl (.tmp 4) rfl (w.heap.size + 1) rfl f s HA2.out ?_)
      refine (HROOM.out w2).mono ?_
      rintro e w3 ⟨rfl, t3⟩
      have HB3 := Lib.hid (HB2.out.stay t3 (fun y => y))
      have HZ3 := Lib.hid (HZ2.out.stay t3 (fun y => y))
      have HS3 := Lib.hid (HS2.out.trans t3)
      clear t3
      go_wp2_with (first
        | (refine load_box rfl (.tmp 3) rfl w.heap.size rfl _ _ _ _ HB3.out ?_)
        | (refine store_box rfl (.tmp 6) (.tmp 36) rfl (w.heap.size + 2) rfl _ _ _ _ _ _ _ _ rfl HO.out HZ3.out ?_
           intro wE hE sE
           have HE := Lib.hid hE
           have SE := Lib.hid sE
           clear hE sE))
      have hld := run_load_box HE.out
      refine bodyPost_ret (v := .tuple #[devV v1 v2 v3 r, .int .i64 2]) (by simp [results, Tryz.results18, asAddr, hld]) rfl ⟨rfl, ?_⟩
      exact stay_seal (X := fun j => w.heap.size ≤ j) ((HS3.out.mono (fun _ y => y.elim)).trans (SE.out.mono (fun j (e : j = w.heap.size + 2) => by omega))) (fun _ hk => hk)
end Go.Proofs.YtlmaooeeklhelaaGreatDoor.Tg

/-
  ToggleRuns: Save of the document's toggle, whole.
-/
namespace Go.Proofs.YtlmaooeeklhelaaGreatDoor.Tg
open Go.RowKit Pk
set_option maxRecDepth 100000

theorem rsave_any (w : World) (v1 v2 v3 : Value) (r : RDev) (d : DS) (b : Int) (f s : Int) (l : List UInt8) (h : Dv w v1 v2 v3 r) (hr : ROk d.n b r) (hb : b ≤ 1099511000000) (hsim : Sim d r) (hw : ∀ j, (d.cur j).length = 64) (h0 : 0 < d.n) (hn : d.n ≤ 16384) (hf : I64 f) (hs : I64 s) (hl : l.length ≤ 9223372036854775806) :
    Calls Tryz.prog 18 #[devV v1 v2 v3 r, areaV f s, strV l] w fun e w' => ∃ u1 u2 u3 r2, e = .returned (.tuple #[devV u1 u2 u3 r2, .int .i64 ((saveD d f s l).2 : Nat)]) ∧ Dv w' u1 u2 u3 r2 ∧ Sim (saveD d f s l).1 r2 ∧ ROk d.n (b + 20000) r2 ∧ (∀ k, blk3 u1 u2 u3 k → w.heap.size ≤ k ∨ blk3 v1 v2 v3 k) ∧ Stay (fun _ => False) w w' := by
  by_cases hbad : (askD d f s).2 ≠ 0 ∧ (askD d f s).2 ≠ 8
  · have e1 : saveD d f s l = (d, (askD d f s).2) := if_pos hbad
    rw [e1]
    refine (rsave_early w v1 v2 v3 r d b f s l h hr hsim hw h0 hn hf hs hl _ (.inl ⟨hbad.1, hbad.2, rfl⟩)).mono ?_
    rintro e w' ⟨rfl, st⟩
    exact ⟨v1, v2, v3, r, rfl, h.stay0 st, hsim, hr.mono (by omega), fun k hk => .inr hk, st⟩
  have h08 : (askD d f s).2 = 0 ∨ (askD d f s).2 = 8 := by omega
  by_cases hlong : roomI s < (l.length : Int)
  · have e1 : saveD d f s l = (d, 2) := by
      unfold saveD
      rw [if_neg hbad, if_pos hlong]
    rw [e1]
    refine (rsave_early w v1 v2 v3 r d b f s l h hr hsim hw h0 hn hf hs hl 2 (.inr ⟨h08, hlong, rfl⟩)).mono ?_
    rintro e w' ⟨rfl, st⟩
    exact ⟨v1, v2, v3, r, rfl, h.stay0 st, hsim, hr.mono (by omega), fun k hk => .inr hk, st⟩
  obtain ⟨q, hq⟩ : ∃ q, askD d f s = q := ⟨_, rfl⟩
  obtain ⟨⟨tn, tb, tm⟩, c⟩ := q
  rw [hq] at h08
  dsimp only at h08
  rcases h08 with e0 | e8
  · subst e0
    obtain ⟨_, _, _, htn, _⟩ := ask_ok hq
    have e1 : saveD d f s l = saveAt d f s l tn (!(!tb)) := by
      unfold saveD
      rw [if_neg hbad, if_neg hlong, hq, Bool.not_not]
      rfl
    rw [e1]
    exact rsave_up w v1 v2 v3 r d b f s l tn tm (!tb) (by unfold topN at htn; omega) h hr hb hsim hw h0 hn hf hs (by rw [hq, Bool.not_not]) (by omega)
  · subst e8
    obtain ⟨rfl, rfl, rfl⟩ := ask_eight hq
    have e1 : saveD d f s l = saveAt d f s l 0 (!false) := by
      unfold saveD
      rw [if_neg hbad, if_neg hlong, hq]
      rfl
    rw [e1]
    exact rsave_none w v1 v2 v3 r d b f s l h hr hb hsim hw h0 hn hf hs hq (by omega)
end Go.Proofs.YtlmaooeeklhelaaGreatDoor.Tg

/-
  ToggleRuns: the program's device and the document's, side by side in memory: what one act makes of both.
-/
namespace Go.Proofs.YtlmaooeeklhelaaGreatDoor.Tg
open Go.RowKit Pk
set_option maxRecDepth 100000

/-- Arm, whatever the device is. -/
def armD (d : DS) (k : Int) : DS × Nat := if down d = true then (d, 13) else ({ d with ar := true, left := k }, 0)
theorem arm_down (w : World) (pd ps pm : Nat) (d : DS) (k : Int) (h : DevAt w pd ps pm d) (hd : (d.cr || d.lo) = true) (hk : 0 ≤ k) :
    Calls Tryz.prog 9 #[.pointer (some ⟨pd, 0, none⟩), .int .i64 k] w fun e w' => e = .returned (.iface 65 (.int .i64 13)) ∧ w = w' := by
  have c2 := h.c2
  have c3 := h.c3
  have HD := Lib.hid hd
  clear hd
  go_enter Tryz.func9, Tryz.ntmps9
  go_wp2_with fail
  refine (awake_down pd d.cr d.lo w c2 c3 HD.out).mono ?_
  rintro e w' ⟨rfl, rfl⟩
  go_wp2
  go_ret
  exact ⟨rfl, rfl⟩
theorem arm_all (w : World) (pd ps pm : Nat) (d : DS) (k : Int) (h : DevAt w pd ps pm d) (hk : 0 ≤ k) :
    Calls Tryz.prog 9 #[.pointer (some ⟨pd, 0, none⟩), .int .i64 k] w fun e w' => e = .returned (errV (armD d k).2) ∧ DevAt w' pd ps pm (armD d k).1 ∧ Stay (own pd ps pm) w w' := by
  by_cases hd : down d = true
  · have e1 : armD d k = (d, 13) := if_pos hd
    rw [e1]
    refine (arm_down w pd ps pm d k h hd hk).mono ?_
    rintro e w' ⟨rfl, rfl⟩
    exact ⟨rfl, h, Stay.refl _ _⟩
  · have e1 : armD d k = ({ d with ar := true, left := k }, 0) := if_neg hd
    obtain ⟨hcr, hlo⟩ := up_cr hd
    rw [e1]
    exact arm_up w pd ps pm d k h hcr hlo hk

/-- Start, whatever the device is. -/
def startD (d : DS) (ks : List Bool) : DS := if d.lo = true then d else d.started ks
theorem start_all (w : World) (pd ps pm : Nat) (d : DS) (v : Value) (ks : List Bool) (base : Nat) (h : DevAt w pd ps pm d) (hr : w.ownsRow base 4 1 v ks.length (cellsK ks)) (hb : ∀ k, own pd ps pm k → k < base) (hl : ks.length ≤ 140737488355328) :
    Calls Tryz.prog 10 #[.pointer (some ⟨pd, 0, none⟩), v] w fun e w' => e = .returned (.tuple #[]) ∧ DevAt w' pd ps pm (startD d ks) ∧ Stay (own pd ps pm) w w' := by
  by_cases hlo : d.lo = true
  · have e1 : startD d ks = d := if_pos hlo
    rw [e1]
    refine (start_lost w pd ps pm d v h hlo).mono ?_
    rintro e w' ⟨rfl, rfl⟩
    exact ⟨rfl, h, Stay.refl _ _⟩
  · have e1 : startD d ks = d.started ks := if_neg hlo
    rw [e1]
    exact start_marks w pd ps pm d v ks base h (by simpa using hlo) hr hb hl
theorem sim_startD {d : DS} {r : RDev} (h : Sim d r) (ks : List Bool) : Sim (startD d ks) (startR r ks) := by
  by_cases hlo : d.lo = true
  · have e1 : startD d ks = d := if_pos hlo
    have e2 : startR r ks = r := if_pos (h.lo.trans hlo)
    rw [e1, e2]
    exact h
  · have e1 : startD d ks = d.started ks := if_neg hlo
    rw [e1]
    exact sim_start h (by simpa using hlo) ks

/-- Lose, and Replace, whatever the device is. -/
def loseD (d : DS) : DS := { d with lo := true, L := none64, s := fun _ => zsec }
def replaceD (d : DS) : DS := if d.lo = true then { d with lo := false, cr := false, ar := false } else d
theorem replace_idle (w : World) (pd ps pm : Nat) (d : DS) (h : DevAt w pd ps pm d) (hlo : d.lo = false) :
    Calls Tryz.prog 15 #[.pointer (some ⟨pd, 0, none⟩)] w fun e w' => e = .returned (.tuple #[]) ∧ w = w' := by
  have c3 := h.c3
  rw [hlo] at c3
  clear hlo
  go_enter Tryz.func15, Tryz.ntmps15
  go_wp2
  refine bodyPost_ret (results_none rfl _ _ _) rfl ?_
  exact ⟨rfl, rfl⟩
theorem replace_all (w : World) (pd ps pm : Nat) (d : DS) (h : DevAt w pd ps pm d) :
    Calls Tryz.prog 15 #[.pointer (some ⟨pd, 0, none⟩)] w fun e w' => e = .returned (.tuple #[]) ∧ DevAt w' pd ps pm (replaceD d) ∧ Stay (own pd ps pm) w w' := by
  by_cases hlo : d.lo = true
  · have e1 : replaceD d = { d with lo := false, cr := false, ar := false } := if_pos hlo
    rw [e1]
    exact replace_lost w pd ps pm d h hlo
  · have e1 : replaceD d = d := if_neg hlo
    rw [e1]
    refine (replace_idle w pd ps pm d h (by simpa using hlo)).mono ?_
    rintro e w' ⟨rfl, rfl⟩
    exact ⟨rfl, h, Stay.refl _ _⟩
theorem sim_replaceD {d : DS} {r : RDev} (h : Sim d r) : Sim (replaceD d) (replaceR r) := by
  by_cases hlo : d.lo = true
  · have e1 : replaceD d = { d with lo := false, cr := false, ar := false } := if_pos hlo
    rw [e1]
    exact sim_replace h hlo
  · have e1 : replaceD d = d := if_neg hlo
    have e2 : replaceR r = r := if_neg (by rw [h.lo]; exact hlo)
    rw [e1, e2]
    exact h

theorem startD_n (d : DS) (ks : List Bool) : (startD d ks).n = d.n := by unfold startD; split <;> rfl
theorem replaceD_n (d : DS) : (replaceD d).n = d.n := by unfold replaceD; split <;> rfl
theorem armD_n (d : DS) (k : Int) : (armD d k).1.n = d.n := by unfold armD; split <;> rfl
theorem saveD_n (d : DS) (f s : Int) (l : List UInt8) : (saveD d f s l).1.n = d.n := by
  unfold saveD saveAt
  (repeat' split) <;> first | rfl | (rw [wrAll_n, wrAll_n]) | (rw [wrAll_n])
theorem startD_ok {d : DS} {K : Int} (h : DOk d K) (ks : List Bool) : DOk (startD d ks) K := by
  unfold startD
  split
  · exact h
  · exact started_ok h ks
theorem loseD_ok {d : DS} {K : Int} (h : DOk d K) : DOk (loseD d) K := ⟨h.w0, h.wk, h.l⟩
theorem replaceD_ok {d : DS} {K : Int} (h : DOk d K) : DOk (replaceD d) K := by
  unfold replaceD
  split
  · exact ⟨h.w0, h.wk, fun e => by cases e⟩
  · exact h
theorem armD_ok {d : DS} {K : Int} (h : DOk d K) (k : Nat) (hk : k < 12) : DOk (armD d k).1 K := by
  unfold armD
  split
  · exact h
  · exact ⟨h.w0, h.wk, fun _ => ⟨by show (0 : Int) ≤ (k : Int); omega, by show (k : Int) ≤ _; omega⟩⟩

theorem mod12 (x : Int) : ∃ k : Nat, k < 12 ∧ wrap64 ((IntKind.u64.wrap x).tmod 12) = (k : Int) := by
  have h0 : 0 ≤ IntKind.u64.wrap x := wrap_u64_nonneg x
  rw [Int.tmod_eq_emod_of_nonneg h0]
  have h1 : 0 ≤ IntKind.u64.wrap x % 12 := Int.emod_nonneg _ (by decide)
  have h2 : IntKind.u64.wrap x % 12 < 12 := Int.emod_lt_of_pos _ (by decide)
  refine ⟨(IntKind.u64.wrap x % 12).toNat, by omega, ?_⟩
  generalize IntKind.u64.wrap x % 12 = y at *
  unfold wrap64
  omega

/-- The variables of the law. -/
def TBox (w : World) (g : Nat) (f s : Int) : Prop := w.heap[g]? = some (.cells #[.int .i64 f, .int .i64 s] 36 (0, 0))
theorem TBox.stay {X : Nat → Prop} {w w' : World} {g : Nat} {f s : Int} (h : TBox w g f s) (hs : Stay X w w') (hx : ¬ X g) : TBox w' g f s := (hs.block g (lt_of_block h) hx).trans h
theorem TBox.c0 {w : World} {g : Nat} {f s : Int} (h : TBox w g f s) : w.cell? ⟨g, 0, none⟩ = some (.int .i64 f) := cell_of_row w g 0 _ _ _ h
theorem TBox.c1 {w : World} {g : Nat} {f s : Int} (h : TBox w g f s) : w.cell? ⟨g, 1, none⟩ = some (.int .i64 s) := cell_of_row w g 1 _ _ _ h
def CBox (w : World) (g : Nat) (k n : Int) (x y : Value) : Prop := w.heap[g]? = some (.cells #[.int .i64 k, .int .i64 n, x, y] 39 (0, 0))
theorem CBox.stay {X : Nat → Prop} {w w' : World} {g : Nat} {k n : Int} {x y : Value} (h : CBox w g k n x y) (hs : Stay X w w') (hx : ¬ X g) : CBox w' g k n x y := (hs.block g (lt_of_block h) hx).trans h
theorem CBox.c0 {w : World} {g : Nat} {k n : Int} {x y : Value} (h : CBox w g k n x y) : w.cell? ⟨g, 0, none⟩ = some (.int .i64 k) := cell_of_row w g 0 _ _ _ h
theorem CBox.c1 {w : World} {g : Nat} {k n : Int} {x y : Value} (h : CBox w g k n x y) : w.cell? ⟨g, 1, none⟩ = some (.int .i64 n) := cell_of_row w g 1 _ _ _ h
theorem CBox.c2 {w : World} {g : Nat} {k n : Int} {x y : Value} (h : CBox w g k n x y) : w.cell? ⟨g, 2, none⟩ = some x := cell_of_row w g 2 _ _ _ h
theorem CBox.c3 {w : World} {g : Nat} {k n : Int} {x y : Value} (h : CBox w g k n x y) : w.cell? ⟨g, 3, none⟩ = some y := cell_of_row w g 3 _ _ _ h

/-- What holds between two acts. -/
structure RSt (w wr : World) (f s : Int) (pd ps pm B T : Nat) (d : DS) (u1 u2 u3 : Value) (r : RDev) (b : Int) : Prop where
  dev : DevAt wr pd ps pm d
  nn : d.n = 14
  dok : DOk d b
  box : BoxAt wr B u1 u2 u3 r
  dv : Dv wr u1 u2 u3 r
  sim : Sim d r
  ok : ROk d.n b r
  ab : ABox wr w.heap.size f s
  tb : TBox wr T f s
  far : ∀ k, blk3 u1 u2 u3 k → ¬ own pd ps pm k ∧ k ≠ B
  oB : ¬ own pd ps pm B
  oA : ¬ own pd ps pm w.heap.size
  oT : ¬ own pd ps pm T
  bA : w.heap.size ≠ B
  bT : T ≠ B
  up : ∀ k, own pd ps pm k → w.heap.size ≤ k
  upB : w.heap.size ≤ B
  st : Stay (fun k => w.heap.size ≤ k) w wr

section
variable {w wr w2 w3 w4 : World} {f s : Int} {pd ps pm B T : Nat} {d d2 : DS} {u1 u2 u3 y1 y2 y3 : Value} {r r2 : RDev} {b b2 : Int}

theorem RSt.stay0 (h : RSt w wr f s pd ps pm B T d u1 u2 u3 r b) (hs : Stay (fun _ => False) wr w2) : RSt w w2 f s pd ps pm B T d u1 u2 u3 r b :=
  { h with
    dev := h.dev.stay hs (fun x => x) (fun x => x) (fun x => x)
    box := (hs.block B (lt_of_block h.box) (fun x => x)).trans h.box
    dv := h.dv.stay0 hs
    ab := h.ab.stay hs (fun x => x)
    tb := h.tb.stay hs (fun x => x)
    st := h.st.trans (hs.mono (fun _ x => x.elim)) }
theorem RSt.mono (h : RSt w wr f s pd ps pm B T d u1 u2 u3 r b) (hb : b ≤ b2) : RSt w wr f s pd ps pm B T d u1 u2 u3 r b2 :=
  { h with dok := h.dok.mono hb, ok := h.ok.mono hb }
theorem RSt.wide (h : RSt w wr f s pd ps pm B T d u1 u2 u3 r b) : ∀ j, (d.cur j).length = 64 := fun j => cur_len h.dev.wide h.dev.map.1 j

/-- The document's device where the program's has been called. -/
theorem RSt.dv2 (h : RSt w wr f s pd ps pm B T d u1 u2 u3 r b) (h2 : Stay (own pd ps pm) wr w2) : Dv w2 u1 u2 u3 r := h.dv.stayB h2 (fun k e => (h.far k e).1)
theorem RSt.box2 (h : RSt w wr f s pd ps pm B T d u1 u2 u3 r b) (h2 : Stay (own pd ps pm) wr w2) : BoxAt w2 B u1 u2 u3 r := (h2.block B (lt_of_block h.box) h.oB).trans h.box

theorem RSt.next (h : RSt w wr f s pd ps pm B T d u1 u2 u3 r b) (hd : DevAt w2 pd ps pm d2) (h2 : Stay (own pd ps pm) wr w2) (hn : d2.n = d.n) (hk : DOk d2 b2) (hv : Dv w3 y1 y2 y3 r2)
    (hf : ∀ k, blk3 y1 y2 y3 k → w2.heap.size ≤ k ∨ blk3 u1 u2 u3 k) (h3 : Stay (fun _ => False) w2 w3) (hb : BoxAt w4 B y1 y2 y3 r2) (h4 : Stay (fun k => k = B) w3 w4) (hsim : Sim d2 r2) (hok : ROk d.n b2 r2) :
    RSt w w4 f s pd ps pm B T d2 y1 y2 y3 r2 b2 := by
  have h34 : Stay (fun k => k = B) w2 w4 := (h3.mono (fun _ x => x.elim)).trans h4
  have hB2 : B < w2.heap.size := Nat.lt_of_lt_of_le (lt_of_block h.box) h2.size
  have hfar : ∀ k, blk3 y1 y2 y3 k → ¬ own pd ps pm k ∧ k ≠ B := fun k e => by
    rcases hf k e with q | q
    · exact ⟨fun x => by have := dev_lts hd k x; omega, fun x => by omega⟩
    · exact h.far k q
  exact {
    dev := hd.stay h34 (fun e => h.oB (Or.inl e.symm)) (fun e => h.oB (Or.inr (Or.inl e.symm))) (fun e => h.oB (Or.inr (Or.inr e.symm)))
    nn := hn.trans h.nn
    dok := hk
    box := hb
    dv := hv.stayB h4 (fun k e => (hfar k e).2)
    sim := hsim
    ok := by rw [hn]; exact hok
    ab := (h.ab.stay h2 h.oA).stay h34 h.bA
    tb := (h.tb.stay h2 h.oT).stay h34 h.bT
    far := hfar
    oB := h.oB, oA := h.oA, oT := h.oT, bA := h.bA, bT := h.bT, up := h.up, upB := h.upB
    st := h.st.trans ((h2.mono h.up).trans (h34.mono (fun k e => by have := h.upB; show w.heap.size ≤ k; omega))) }

theorem RSt.armed (h : RSt w wr f s pd ps pm B T d u1 u2 u3 r b) (k : Nat) (hk12 : k < 12) (hb : 12 ≤ b) (hd : DevAt w2 pd ps pm { d with ar := true, left := (k : Int) }) (h2 : Stay (own pd ps pm) wr w2) :
    RSt w ((w2.setCell ⟨B, 4, none⟩ (.bool true)).setCell ⟨B, 5, none⟩ (.int .i64 (k : Int))) f s pd ps pm B T { d with ar := true, left := (k : Int) } u1 u2 u3 { r with ar := true, left := (k : Int) } b := by
  have hv := h.dv2 h2
  have hs := h.sim
  have ho := h.ok
  exact h.next (r2 := { r with ar := true, left := (k : Int) }) hd h2 rfl ⟨h.dok.w0, h.dok.wk, fun _ => ⟨by show (0 : Int) ≤ (k : Int); omega, by show (k : Int) ≤ _; omega⟩⟩ ⟨hv.s1, hv.s2, hv.s3⟩ (fun _ e => .inr e) (Stay.refl _ _) (((h.box2 h2).set4 true).set5 (k : Int))
    ((Stay.setCell (X := fun k => k = B) w2 ⟨B, 4, none⟩ (.bool true) rfl).trans (Stay.setCell (X := fun k => k = B) _ ⟨B, 5, none⟩ (.int .i64 (k : Int)) rfl))
    ⟨hs.n1, hs.n2, hs.n3, hs.cr, hs.lo, rfl, fun _ => rfl, hs.now, hs.safe, hs.loose, hs.z⟩
    ⟨ho.n1, ho.n2, ho.n3, ho.w0, ho.w1, by show -b ≤ (k : Int); omega, by show (k : Int) ≤ b; omega⟩
end
end Go.Proofs.YtlmaooeeklhelaaGreatDoor.Tg

/-
  ToggleRuns: what one act makes of both devices, as the walk calls them.
-/
namespace Go.Proofs.YtlmaooeeklhelaaGreatDoor.Tg
open Go.RowKit Pk
set_option maxRecDepth 100000

/-- Once both have been called, and the document's device is back in its box. -/
def NextOk (w wa : World) (f s : Int) (pd ps pm B T : Nat) (v1 v2 v3 : Value) (d7 : DS) (b7 : Int) (r7 : RDev) : Prop :=
  ∀ w2 w3 w4 y1 y2 y3, DevAt w2 pd ps pm d7 → Stay (own pd ps pm) wa w2 → Dv w3 y1 y2 y3 r7 → (∀ k, blk3 y1 y2 y3 k → w2.heap.size ≤ k ∨ blk3 v1 v2 v3 k) → Stay (fun _ => False) w2 w3 → BoxAt w4 B y1 y2 y3 r7 → Stay (fun k => k = B) w3 w4 → RSt w w4 f s pd ps pm B T d7 y1 y2 y3 r7 b7

section
variable {w wa : World} {f s : Int} {pd ps pm B T : Nat} {d : DS} {v1 v2 v3 : Value} {r : RDev} {b : Int}

theorem RSt.nextOk {d7 : DS} {r7 : RDev} {b7 : Int} (h : RSt w wa f s pd ps pm B T d v1 v2 v3 r b) (hn : d7.n = d.n) (hk : DOk d7 b7) (hsim : Sim d7 r7) (hok : ROk d.n b7 r7) : NextOk w wa f s pd ps pm B T v1 v2 v3 d7 b7 r7 :=
  fun _ _ _ _ _ _ hd h2 hv hf h3 hb h4 => h.next hd h2 hn hk hv hf h3 hb h4 hsim hok

theorem RSt.txt {x : Value} {l : List UInt8} (h : RSt w wa f s pd ps pm B T d v1 v2 v3 r b) (hx : Slc w x l) : Txt wa pd ps pm x l :=
  ⟨hx.stay h.st (fun k _ hlt q => by omega), fun h0 k hk q => by have := slc_block_lt hx h0 hk; have := h.up k q; omega⟩
theorem RSt.marks {y : Value} {ks : List Bool} (h : RSt w wa f s pd ps pm B T d v1 v2 v3 r b) (hy : Marks w y ks) : Marks wa y ks := hy.stay h.st (fun k hlt q => by omega)
theorem RSt.err (h : RSt w wa f s pd ps pm B T d v1 v2 v3 r b) (hg : ErrCell w) : ErrCell wa := hg.stay h.st (fun q => by have := World.block_lt_of_cell? w _ hg; omega)

theorem pair_write (h : RSt w wa f s pd ps pm B T d v1 v2 v3 r b) (n : Int) (hn : I64 n) (x : Value) (l : List UInt8) (hx : Slc w x l) (hl : l.length ≤ 140737488355328) (hb : b ≤ 1000000) : ∃ d7 r7 c,
    (Calls Tryz.prog 7 #[.pointer (some ⟨pd, 0, none⟩), .int .i64 n, x] wa fun e w' => e = .returned (errV c) ∧ DevAt w' pd ps pm d7 ∧ Stay (own pd ps pm) wa w') ∧
    (∀ W, Dv W v1 v2 v3 r → Calls Tryz.prog 8 #[devV v1 v2 v3 r, .int .i64 n, strV l] W fun e w' => ∃ y1 y2 y3, e = .returned (.tuple #[devV y1 y2 y3 r7, .int .i64 (c : Nat)]) ∧ Dv w' y1 y2 y3 r7 ∧ (∀ k, blk3 y1 y2 y3 k → W.heap.size ≤ k ∨ blk3 v1 v2 v3 k) ∧ Stay (fun _ => False) W w') ∧
    NextOk w wa f s pd ps pm B T v1 v2 v3 d7 (b + 20000) r7 := by
  refine ⟨(writeD d n l).1, (writeR r n l).1, (writeD d n l).2, write_all wa pd ps pm d n x l h.dev (h.dok.mono (by omega)) (h.txt hx).arg, fun W hW => ?_, h.nextOk (writeD_n d n l) ((writeD_ok h.dok n l).mono (by omega)) (sim_write h.sim n l).1 ((rok_write h.ok n l).mono (by omega))⟩
  rw [← (sim_write h.sim n l).2]
  exact rwrite_any W v1 v2 v3 r d.n b n l hW h.ok (by omega) (by rw [h.nn]; omega) (by rw [h.nn]; omega) hn hl

theorem pair_start (h : RSt w wa f s pd ps pm B T d v1 v2 v3 r b) (y : Value) (ks : List Bool) (hy : Marks w y ks) : ∃ d7 r7,
    (∀ W v, Stay (fun _ => False) wa W → W.ownsRow wa.heap.size 4 1 v ks.length (cellsK ks) → Calls Tryz.prog 10 #[.pointer (some ⟨pd, 0, none⟩), v] W fun e w' => e = .returned (.tuple #[]) ∧ DevAt w' pd ps pm d7 ∧ Stay (own pd ps pm) wa w') ∧
    (∀ W, Dv W v1 v2 v3 r → Stay (own pd ps pm) wa W → Calls Tryz.prog 12 #[devV v1 v2 v3 r, y] W fun e w' => ∃ y1 y2 y3, e = .returned (devV y1 y2 y3 r7) ∧ Dv w' y1 y2 y3 r7 ∧ (∀ k, blk3 y1 y2 y3 k → W.heap.size ≤ k ∨ blk3 v1 v2 v3 k) ∧ Stay (fun _ => False) W w') ∧
    NextOk w wa f s pd ps pm B T v1 v2 v3 d7 b r7 := by
  have hkl : ks.length ≤ 140737488355328 := by obtain ⟨_, _, _, _, _, h1⟩ := hy; exact h1
  refine ⟨startD d ks, startR r ks, fun W v hW hr => ?_, fun W hW hS => ?_, h.nextOk (startD_n d ks) (startD_ok h.dok ks) (sim_startD h.sim ks) (rok_start h.ok ks)⟩
  · refine (start_all W pd ps pm d v ks wa.heap.size (h.dev.stay hW (fun x => x) (fun x => x) (fun x => x)) hr (dev_lts h.dev) hkl).mono ?_
    rintro e w' ⟨rfl, h1, h2⟩
    exact ⟨rfl, h1, (hW.mono (fun _ x => x.elim)).trans h2⟩
  · exact rstart_any W v1 v2 v3 y r ks d.n b hW h.ok (by rw [h.nn]; omega) (by rw [h.nn]; omega) (hy.stay (h.st.trans (hS.mono h.up)) (fun k hlt q => by omega))

theorem pair_lose (h : RSt w wa f s pd ps pm B T d v1 v2 v3 r b) : ∃ d7 r7,
    (Calls Tryz.prog 13 #[.pointer (some ⟨pd, 0, none⟩)] wa fun e w' => e = .returned (.tuple #[]) ∧ DevAt w' pd ps pm d7 ∧ Stay (own pd ps pm) wa w') ∧
    (∀ W, Dv W v1 v2 v3 r → Calls Tryz.prog 14 #[devV v1 v2 v3 r] W fun e w' => ∃ y1 y2 y3, e = .returned (devV y1 y2 y3 r7) ∧ Dv w' y1 y2 y3 r7 ∧ (∀ k, blk3 y1 y2 y3 k → W.heap.size ≤ k ∨ blk3 v1 v2 v3 k) ∧ Stay (fun _ => False) W w') ∧
    NextOk w wa f s pd ps pm B T v1 v2 v3 d7 b r7 := by
  refine ⟨loseD d, loseR r, lose_any wa pd ps pm d h.dev, fun W hW => ?_, h.nextOk rfl (loseD_ok h.dok) (sim_lose h.sim) (rok_lose h.ok)⟩
  refine (rlose_any W v1 v2 v3 r d.n b hW h.ok (by rw [h.nn]; omega) (by rw [h.nn]; omega)).mono ?_
  rintro e w' ⟨y1, y2, y3, rfl, h1, h2, h3⟩
  exact ⟨y1, y2, y3, rfl, h1, fun k e => .inl (h2 k e), h3⟩

theorem pair_replace (h : RSt w wa f s pd ps pm B T d v1 v2 v3 r b) (hb : 0 ≤ b) : ∃ d7 r7,
    (Calls Tryz.prog 15 #[.pointer (some ⟨pd, 0, none⟩)] wa fun e w' => e = .returned (.tuple #[]) ∧ DevAt w' pd ps pm d7 ∧ Stay (own pd ps pm) wa w') ∧
    (∀ W, Dv W v1 v2 v3 r → Calls Tryz.prog 16 #[devV v1 v2 v3 r] W fun e w' => ∃ y1 y2 y3, e = .returned (devV y1 y2 y3 r7) ∧ Dv w' y1 y2 y3 r7 ∧ (∀ k, blk3 y1 y2 y3 k → W.heap.size ≤ k ∨ blk3 v1 v2 v3 k) ∧ Stay (fun _ => False) W w') ∧
    NextOk w wa f s pd ps pm B T v1 v2 v3 d7 b r7 :=
  ⟨replaceD d, replaceR r, replace_all wa pd ps pm d h.dev, fun W hW => rreplace_any W v1 v2 v3 r d.n b hW h.ok (by rw [h.nn]; omega) (by rw [h.nn]; omega), h.nextOk (replaceD_n d) (replaceD_ok h.dok) (sim_replaceD h.sim) (rok_replace h.ok hb)⟩

theorem pair_save (h : RSt w wa f s pd ps pm B T d v1 v2 v3 r b) (hf : I64 f) (hs : I64 s) (x : Value) (l : List UInt8) (hx : Slc w x l) (hl : l.length ≤ 140737488355328) (hb : b ≤ 1000000) : ∃ d7 c,
    (Calls Tryz.prog 17 #[.pointer (some ⟨pd, 0, none⟩), .agg #[.int .i64 f, .int .i64 s], x] wa fun e w' => e = .returned (errV c) ∧ DevAt w' pd ps pm d7 ∧ Stay (own pd ps pm) wa w') ∧
    (∀ W, Dv W v1 v2 v3 r → Calls Tryz.prog 18 #[devV v1 v2 v3 r, .agg #[.int .i64 f, .int .i64 s], strV l] W fun e w' => ∃ y1 y2 y3 r7, e = .returned (.tuple #[devV y1 y2 y3 r7, .int .i64 (c : Nat)]) ∧ Dv w' y1 y2 y3 r7 ∧ (∀ k, blk3 y1 y2 y3 k → W.heap.size ≤ k ∨ blk3 v1 v2 v3 k) ∧ Stay (fun _ => False) W w' ∧
      NextOk w wa f s pd ps pm B T v1 v2 v3 d7 (b + 20000) r7) := by
  refine ⟨(saveD d f s l).1, (saveD d f s l).2, save_any wa pd ps pm d f s x l h.dev (h.dok.mono (by omega)) (h.txt hx) hf hs, fun W hW => ?_⟩
  refine (rsave_any W v1 v2 v3 r d b f s l hW h.ok (by omega) h.sim h.wide (by rw [h.nn]; omega) (by rw [h.nn]; omega) hf hs (by omega)).mono ?_
  rintro e w' ⟨y1, y2, y3, r7, rfl, h1, h2, h3, h4, h5⟩
  exact ⟨y1, y2, y3, r7, rfl, h1, h4, h5, h.nextOk (saveD_n d f s l) (save_ok h.dok f s l) h2 h3⟩

theorem pair_arm (h : RSt w wa f s pd ps pm B T d v1 v2 v3 r b) (k : Nat) (hk : k < 12) : 
    (Calls Tryz.prog 9 #[.pointer (some ⟨pd, 0, none⟩), .int .i64 (k : Int)] wa fun e w' => e = .returned (errV (armD d k).2) ∧ DevAt w' pd ps pm (armD d k).1 ∧ Stay (own pd ps pm) wa w') ∧
    ((down d = true ∧ (r.cr || r.lo) = true ∧ armD d k = (d, 13)) ∨ (r.cr = false ∧ r.lo = false ∧ armD d k = ({ d with ar := true, left := (k : Int) }, 0))) := by
  refine ⟨arm_all wa pd ps pm d k h.dev (by omega), ?_⟩
  by_cases hd : down d = true
  · exact .inl ⟨hd, by rw [h.sim.cr, h.sim.lo]; exact hd, if_pos hd⟩
  · obtain ⟨h1, h2⟩ := up_cr hd
    exact .inr ⟨h.sim.cr.trans h1, h.sim.lo.trans h2, if_neg hd⟩

theorem pair_load (h : RSt w wa f s pd ps pm B T d v1 v2 v3 r b) (hf : I64 f) (hs : I64 s) : ∃ t n c,
    (Calls Tryz.prog 19 #[.pointer (some ⟨pd, 0, none⟩), .agg #[.int .i64 f, .int .i64 s]] wa fun e w' => ∃ v, e = .returned (.tuple #[v, .int .u64 (n : Nat), errV c]) ∧ Owns wa.heap.size w' v t ∧ Stay (fun _ => False) wa w') ∧
    (∀ W, Stay (fun _ => False) wa W → Calls Tryz.prog 20 #[devV v1 v2 v3 r, .agg #[.int .i64 f, .int .i64 s]] W fun e w' => e = .returned (.tuple #[strV t, .int .u64 (n : Nat), .int .i64 (c : Nat)]) ∧ Stay (fun _ => False) W w') := by
  refine ⟨(loadD d f s).1, (loadD d f s).2.1, (loadD d f s).2.2, load_any wa pd ps pm d f s h.dev hf hs, fun W hW => ?_⟩
  exact rload_any W v1 v2 v3 r d b f s (h.dv.stay0 hW) h.ok h.sim h.wide (by rw [h.nn]; omega) (by rw [h.nn]; omega) hf hs

theorem pair_read (h : RSt w wa f s pd ps pm B T d v1 v2 v3 r b) (i : Nat) (hi : i < 14) : ∃ t c, (c = 0 ∨ c = 13) ∧
    (Calls Tryz.prog 22 #[.pointer (some ⟨pd, 0, none⟩), .int .i64 (i : Int)] wa fun e w' => ∃ v, e = .returned (.tuple #[v, errV c]) ∧ Owns wa.heap.size w' v t ∧ Stay (fun _ => False) wa w') ∧
    (∀ W, Stay (fun _ => False) wa W → Calls Tryz.prog 23 #[devV v1 v2 v3 r, .int .i64 (i : Int)] W fun e w' => e = .returned (.tuple #[strV t, .int .i64 (c : Nat)]) ∧ Stay (fun _ => False) W w') := by
  have hi' : i < d.n := by rw [h.nn]; exact hi
  refine ⟨(readD d i).1, (readD d i).2, ?_, read_all wa pd ps pm d i h.dev hi', fun W hW => ?_⟩
  · unfold readD
    split
    · exact .inr rfl
    · exact .inl rfl
  · rw [← sim_read h.sim i hi']
    exact rread_any W _ r i (h.dv.stay0 hW).ref ⟨by omega, by omega⟩
end
end Go.Proofs.YtlmaooeeklhelaaGreatDoor.Tg

/-
  ToggleRuns' walk.
-/
namespace Go.Proofs.YtlmaooeeklhelaaGreatDoor.Tg
open Go.RowKit Pk
set_option maxRecDepth 100000

set_option maxHeartbeats 8000000 in
theorem runs_walk (w : World) (f s : Int) (ap : Option Addr) (L : List Ac) (cap : Nat) (hf : I64 f) (hs : I64 s) (hok : ∀ t ∈ L, t.Ok w) (hL : ActsAt w ap L) (hlen : L.length ≤ 9223372036854775807) (hg : ErrCell w) :
    Calls Tryz.prog 3 #[.agg #[.int .i64 f, .int .i64 s], .slice ap L.length cap] w fun e w' => e = .returned (.bool true) ∧ Stay (fun _ => False) w w' := by
  have HG := Lib.hid hg
  have HOKL := Lib.hid hok
  have HLA := Lib.hid hL
  clear hg hok hL
  go_enter Tryz.func3, Tryz.ntmps3
  go_wp2_with fail
  obtain ⟨w0, hw0⟩ : ∃ w0, w.alloc (.cells #[.int .i64 f, .int .i64 s] 23) = w0 := ⟨_, rfl⟩
  have HA0 := Lib.hid (show ABox w0 w.heap.size f s from hw0 ▸ heap_alloc_new w _)
  have HS0 := Lib.hid (show Stay (fun _ => False) w w0 from hw0 ▸ Stay.alloc _ _)
  have HZ0 := Lib.hid (show w0.heap.size = w.heap.size + 1 by rw [← hw0]; simp)
  rw [hw0]
  clear hw0
  refine (new_at 14 w0 (by omega) (by omega)).mono ?_
  rintro e w1 ⟨pd, ps, pm, rfl, h1, hF, hs1⟩
  have HF := Lib.hid hF
  have HD1 := Lib.hid h1
  have HS1 := Lib.hid hs1
  clear hF h1 hs1
  go_wp2_with fail
  refine (rnew_any w1 14 (by omega) (by omega)).mono ?_
  rintro e w2 ⟨u1, u2, u3, rfl, hv, hfr, hs2⟩
  have HV := Lib.hid hv
  have HFR := Lib.hid hfr
  have HO := Lib.hid hv.one
  have HS2 := Lib.hid hs2
  have HS2' := Lib.hid (show Stay (fun _ => False) w2 (w2.alloc (.cells #[.slice none 0 0, .slice none 0 0, .slice none 0 0, .int .i64 0, .bool false, .int .i64 0, .bool false, .bool false] 33)) from Stay.alloc _ _)
  have HZB := Lib.hid (show BoxAt (w2.alloc (.cells #[.slice none 0 0, .slice none 0 0, .slice none 0 0, .int .i64 0, .bool false, .int .i64 0, .bool false, .bool false] 33)) w2.heap.size (.slice none 0 0) (.slice none 0 0) (.slice none 0 0) zeroR from heap_alloc_new w2 _)
  clear hv hfr hs2
  go_wp2_with (first
    | (refine store_box rfl (.tmp 7) (.tmp 32) rfl w2.heap.size rfl _ _ _ _ _ _ _ _ rfl HO.out HZB.out ?_
       intro w3 hB3 hS3
       have HB3 := Lib.hid hB3
       have HS3 := Lib.hid hS3
       have HA3 := Lib.hid ((((HA0.out.stay HS1.out (fun x => x)).stay HS2.out (fun x => x)).stay HS2'.out (fun x => x)).stay hS3 (fun e => by have := HZ0.out; have := HS1.out.size; have := HS2.out.size; omega))
       have ka0 := HA3.out.c0
       have ka1 := HA3.out.c1
       clear hB3 hS3))
  obtain ⟨w4, hw4⟩ : ∃ w4, w3.alloc (.cells #[.int .i64 f, .int .i64 s] 36) = w4 := ⟨_, rfl⟩
  have HT4 := Lib.hid (show TBox w4 w3.heap.size f s from hw4 ▸ heap_alloc_new w3 _)
  have HS4 := Lib.hid (show Stay (fun _ => False) w3 w4 from hw4 ▸ Stay.alloc _ _)
  rw [hw4]
  clear hw4
  have HR0 := Lib.hid (show RSt w w4 f s pd ps pm w2.heap.size w3.heap.size (fresh 14) u1 u2 u3 (newR 14) 0 from by
    have z0 := HZ0.out
    have z1 := HS1.out.size
    have z2 := HS2.out.size
    have z3 : w2.heap.size + 1 ≤ w3.heap.size := by have := HS3.out.size; simpa using this
    have hlt := dev_lts HD1.out
    have hok0 : ROk 14 0 (newR 14) := ⟨by simp [newR], by simp [newR], by simp [newR], by simp [newR], by simp [newR], by simp [newR], by simp [newR]⟩
    have hvl := HV.out.lt hok0 (by omega)
    have h24 : Stay (fun k => k = w2.heap.size) w2 w4 := (HS2'.out.mono (fun _ x => x.elim)).trans (HS3.out.trans (HS4.out.mono (fun _ x => x.elim)))
    have hd2 := HD1.out.stay HS2.out (fun x => x) (fun x => x) (fun x => x)
    have hup : ∀ k, own pd ps pm k → w.heap.size + 1 ≤ k := fun k q => by
      rcases Nat.lt_or_ge k w0.heap.size with q2 | q2
      · exact absurd q (HF.out.not_own q2)
      · omega
    exact {
      dev := hd2.stay h24 (fun e => by have := hlt pd (Or.inl rfl); omega) (fun e => by have := hlt ps (Or.inr (Or.inl rfl)); omega) (fun e => by have := hlt pm (Or.inr (Or.inr rfl)); omega)
      nn := rfl
      dok := dok_fresh 14
      box := (HS4.out.block _ (lt_of_block HB3.out) (fun x => x)).trans HB3.out
      dv := HV.out.stayB h24 (fun k e => by have := hvl k e; omega)
      sim := sim_new 14
      ok := hok0
      ab := HA3.out.stay HS4.out (fun x => x)
      tb := HT4.out
      far := fun k e => ⟨fun q => by have := hlt k q; have := HFR.out k e; omega, by have := hvl k e; omega⟩
      oB := fun q => by have := hlt _ q; omega
      oA := fun q => by have := hup _ q; omega
      oT := fun q => by have := hlt _ q; omega
      bA := by omega
      bT := by omega
      up := fun k q => by have := hup k q; omega
      upB := by omega
      st := ((((HS0.out.trans HS1.out).trans HS2.out).mono (fun _ x => x.elim)).trans (h24.mono (fun k e => by show w.heap.size ≤ k; omega))) })
  clear ka0 ka1
  clear HA0 HS0 HZ0 HF HD1 HS1 HV HFR HO HS2 HS2' HZB HB3 HS3 HA3 HT4 HS4
  go_loopw [10] (fun c wr => ∃ (i : Nat) (d : DS) (y1 y2 y3 : Value) (r : RDev), i ≤ L.length ∧ i ≤ 30 ∧ c = .int .i64 (i : Int) ∧ RSt w wr f s pd ps pm w2.heap.size w3.heap.size d y1 y2 y3 r (20000 * (i : Int))) (fun c _ => 30 - valI c)
  case atStart => exact ⟨0, _, _, _, _, _, Nat.zero_le _, Nat.zero_le _, rfl, HR0.out⟩
  case round =>
    clear HR0
    obtain ⟨i, d, v1, v2, v3, r, hi1, hi2, rfl, hst⟩ := hrel
    generalize w2.heap.size = B at *
    generalize w3.heap.size = T at *
    have HR := Lib.hid hst
    clear hst
    by_cases hmore : i < L.length ∧ i < 30
    · obtain ⟨hm1, hm2⟩ := hmore
      obtain ⟨ad, rfl, hact⟩ := HLA.out (by omega)
      obtain ⟨t, ht⟩ : ∃ t, L[i]? = some t := ⟨L[i], List.getElem?_eq_getElem hm1⟩
      have hto := HOKL.out t (List.mem_of_getElem? ht)
      have hcs := hact i t ht
      obtain ⟨k, n, x, b, y, ks⟩ := t
      have hsx : Slc w x b := hto.slc
      have hmy : Marks w y ks := hto.marks
      obtain ⟨ax, cx, rfl, _⟩ := hsx
      obtain ⟨ay, cy, rfl, _⟩ := hmy
      have HTO := Lib.hid hto
      have hcw : ∀ j v, [.int .i64 k, .int .i64 n, .slice ax b.length cx, .slice ay ks.length cy][j]? = some v → wr.cell? ((ad.add (i * 4)).add j) = some v := fun j v hv => HR.out.st.cell (hcs j v hv) (fun q => by have := World.block_lt_of_cell? w _ (hcs j v hv); omega)
      have hld := run_load_at wr (ad.add (i * 4)) 39 [.int .i64 k, .int .i64 n, .slice ax b.length cx, .slice ay ks.length cy] _ Tryz.underlying39 rfl (by kernel_rfl) hcw
      have HLD := Lib.hid hld
      clear hact ht hcs hcw hld hto
      obtain ⟨wa, hwa⟩ : ∃ wa, wr.alloc (.cells #[.int .i64 k, .int .i64 n, .slice ax b.length cx, .slice ay ks.length cy] 39) = wa := ⟨_, rfl⟩
      have HC := Lib.hid (show CBox wa wr.heap.size k n (.slice ax b.length cx) (.slice ay ks.length cy) from hwa ▸ heap_alloc_new wr _)
      have HRA := Lib.hid (show RSt w wa f s pd ps pm B T d v1 v2 v3 r (20000 * (i : Int)) from hwa ▸ HR.out.stay0 (Stay.alloc _ _))
      have HNG := Lib.hid (show ¬ own pd ps pm wr.heap.size from fun q => by have := dev_lts HR.out.dev _ q; omega)
      have kt0 : (wr.alloc (.cells #[.int .i64 k, .int .i64 n, .slice ax b.length cx, .slice ay ks.length cy] 39)).cell? ⟨T, 0, none⟩ = some (.int .i64 f) := hwa ▸ HRA.out.tb.c0
      have kt1 : (wr.alloc (.cells #[.int .i64 k, .int .i64 n, .slice ax b.length cx, .slice ay ks.length cy] 39)).cell? ⟨T, 1, none⟩ = some (.int .i64 s) := hwa ▸ HRA.out.tb.c1
      have HWA := Lib.hid hwa
      clear hwa
      go_wp2_with (first
        | (refine wpList_load_at rfl _ (.tmp 57) rfl (ad.add (i * 4)) rfl _ HLD.out ?_))
      all_goals clear kt0 kt1
      · rw [HWA.out]
        obtain ⟨d7, r7, c7, hp1, hp2, hnx⟩ := pair_write HRA.out n ⟨HTO.out.n1, HTO.out.n2⟩ _ b HTO.out.slc HTO.out.len (by omega)
        have HP2 := Lib.hid hp2
        have HNX := Lib.hid hnx
        clear hp2 hnx
        refine hp1.mono ?_
        rintro e w5 ⟨rfl, hd5, hs5⟩

        have HD5 := Lib.hid hd5
        have HS5 := Lib.hid hs5
        have HB5 := Lib.hid (HRA.out.box2 hs5)
        have HV5 := Lib.hid (HRA.out.dv2 hs5)
        have hc5 := HC.out.stay hs5 HNG.out
        have kc1 := hc5.c1
        have kc2 := hc5.c2
        have kc3 := hc5.c3
        have hcv5 := conv_slc ((HRA.out.txt HTO.out.slc).stay hs5 (fun _ _ q => q)).s
        clear hd5 hs5 hc5
        go_wp2_with (refine load_box rfl (.tmp 7) rfl B rfl _ _ _ _ HB5.out ?_)
        refine (HP2.out w5 HV5.out).mono ?_
        rintro e w6 ⟨y1, y2, y3, rfl, hv6, hf6, hs6⟩

        have HO6 := Lib.hid hv6.one
        have HV6 := Lib.hid hv6
        have HF6 := Lib.hid hf6
        have HS6 := Lib.hid hs6
        have HB6 := Lib.hid (HB5.out.stay hs6 (fun x => x))
        clear hv6 hf6 hs6 kc1 kc2 kc3
        clear hcv5
        go_wp2_with (first
          | (refine store_box rfl (.tmp 7) (.tmp 98) rfl B rfl _ _ _ _ _ _ _ _ rfl HO6.out HB6.out ?_
             intro w7 hB7 hS7
             have HR7 := Lib.hid (HNX.out w5 w6 w7 y1 y2 y3 HD5.out HS5.out HV6.out HF6.out HS6.out hB7 hS7)
             have kt0 := HR7.out.tb.c0
             have kt1 := HR7.out.tb.c1
             clear hB7 hS7))

        obtain ⟨t8, n8, c8, hl1, hl2⟩ := pair_load HR7.out hf hs
        have HL2 := Lib.hid hl2
        clear hl2
        refine hl1.mono ?_
        rintro e w8 ⟨vl, rfl, ho8, hs8⟩
        have HO8 := Lib.hid ho8
        have HS8 := Lib.hid hs8
        have HR8 := Lib.hid (HR7.out.stay0 hs8)
        have ka0 := HR8.out.ab.c0
        have ka1 := HR8.out.ab.c1
        clear ho8 hs8
        go_wp2_with (refine load_box rfl (.tmp 7) rfl B rfl _ _ _ _ HR8.out.box ?_)
        refine (HL2.out w8 HS8.out).mono ?_
        rintro e w9 ⟨rfl, hs9⟩
        have HS9 := Lib.hid hs9
        have HR9 := Lib.hid (HR8.out.stay0 hs9)
        clear hs9 ka0 ka1
        unfold strV
        go_wp2_with fail
        refine (num_any c7 w9 (HR9.out.err HG.out) _ rfl).mono ?_
        rintro e w10 ⟨rfl, hs10⟩
        have HS10 := Lib.hid hs10
        have HR10 := Lib.hid (HR9.out.stay0 hs10)
        have hcv := conv_slc (Slc.stay0 HO8.out.slc (HS9.out.trans hs10))
        unfold strV at hcv
        clear hs10
        go_wp2_with fail
        refine (num_any c8 w10 (HR10.out.err HG.out) _ rfl).mono ?_
        rintro e w11 ⟨rfl, hs11⟩
        have HR11 := Lib.hid (HR10.out.stay0 hs11)
        clear hs11 hcv
        go_wp2
        go_roundw
        case rel => exact ⟨i + 1, _, _, _, _, _, by omega, by omega, by go_num, HR11.out.mono (by omega)⟩
        case measure => simp [valI]; omega
      · rw [HWA.out]
        obtain ⟨k12, hk12, hkw⟩ := mod12 n
        rw [hkw]
        obtain ⟨hp1, hcase⟩ := pair_arm HRA.out k12 hk12
        rcases hcase with ⟨_, hcl, e1⟩ | ⟨hcr, hlo, e1⟩
        · rw [e1] at hp1
          have hcl' : r.cr = true ∨ (r.cr = false ∧ r.lo = true) := by
            cases h1 : r.cr
            · rw [h1] at hcl; exact .inr ⟨rfl, by simpa using hcl⟩
            · exact .inl rfl
          clear hcl e1
          refine hp1.mono ?_
          rintro e w5 ⟨rfl, hd5, hs5⟩
          have hb5 := HRA.out.box2 hs5
          have HR7 := Lib.hid (HRA.out.next hd5 hs5 rfl HRA.out.dok (HRA.out.dv2 hs5) (fun _ e => .inr e) (Stay.refl _ _) hb5 (Stay.refl _ _) HRA.out.sim HRA.out.ok)
          have kb6 := hb5.c 6
          have kb7 := hb5.c 7
          have kt0 := HR7.out.tb.c0
          have kt1 := HR7.out.tb.c1
          clear hd5 hs5 hb5 hkw
          rcases hcl' with h1 | ⟨h1, h2⟩
          · simp only [h1] at kb6
            clear h1 kb7
            have kb6' : w5.cell? ⟨B, 6, none⟩ = some (.bool true) := kb6
            clear kb6
            go_wp2_with fail
            obtain ⟨t8, n8, c8, hl1, hl2⟩ := pair_load HR7.out hf hs
            have HL2 := Lib.hid hl2
            clear hl2
            refine hl1.mono ?_
            rintro e w8 ⟨vl, rfl, ho8, hs8⟩
            have HO8 := Lib.hid ho8
            have HS8 := Lib.hid hs8
            have HR8 := Lib.hid (HR7.out.stay0 hs8)
            have ka0 := HR8.out.ab.c0
            have ka1 := HR8.out.ab.c1
            clear ho8 hs8
            go_wp2_with (refine load_box rfl (.tmp 7) rfl B rfl _ _ _ _ HR8.out.box ?_)
            refine (HL2.out w8 HS8.out).mono ?_
            rintro e w9 ⟨rfl, hs9⟩
            have HS9 := Lib.hid hs9
            have HR9 := Lib.hid (HR8.out.stay0 hs9)
            clear hs9 ka0 ka1
            unfold strV
            go_wp2_with fail
            refine (num_any 13 w9 (HR9.out.err HG.out) _ rfl).mono ?_
            rintro e w10 ⟨rfl, hs10⟩
            have HS10 := Lib.hid hs10
            have HR10 := Lib.hid (HR9.out.stay0 hs10)
            have hcv := conv_slc (Slc.stay0 HO8.out.slc (HS9.out.trans hs10))
            unfold strV at hcv
            clear hs10
            go_wp2_with fail
            refine (num_any c8 w10 (HR10.out.err HG.out) _ rfl).mono ?_
            rintro e w11 ⟨rfl, hs11⟩
            have HR11 := Lib.hid (HR10.out.stay0 hs11)
            clear hs11 hcv
            go_wp2
            go_roundw
            case rel => exact ⟨i + 1, _, _, _, _, _, by omega, by omega, by go_num, HR11.out.mono (by omega)⟩
            case measure => simp [valI]; omega

          · simp only [h1] at kb6
            simp only [h2] at kb7
            clear h1 h2
            have kb6' : w5.cell? ⟨B, 6, none⟩ = some (.bool false) := kb6
            have kb7' : w5.cell? ⟨B, 7, none⟩ = some (.bool true) := kb7
            clear kb6 kb7
            go_wp2_with fail
            obtain ⟨t8, n8, c8, hl1, hl2⟩ := pair_load HR7.out hf hs
            have HL2 := Lib.hid hl2
            clear hl2
            refine hl1.mono ?_
            rintro e w8 ⟨vl, rfl, ho8, hs8⟩
            have HO8 := Lib.hid ho8
            have HS8 := Lib.hid hs8
            have HR8 := Lib.hid (HR7.out.stay0 hs8)
            have ka0 := HR8.out.ab.c0
            have ka1 := HR8.out.ab.c1
            clear ho8 hs8
            go_wp2_with (refine load_box rfl (.tmp 7) rfl B rfl _ _ _ _ HR8.out.box ?_)
            refine (HL2.out w8 HS8.out).mono ?_
            rintro e w9 ⟨rfl, hs9⟩
            have HS9 := Lib.hid hs9
            have HR9 := Lib.hid (HR8.out.stay0 hs9)
            clear hs9 ka0 ka1
            unfold strV
            go_wp2_with fail
            refine (num_any 13 w9 (HR9.out.err HG.out) _ rfl).mono ?_
            rintro e w10 ⟨rfl, hs10⟩
            have HS10 := Lib.hid hs10
            have HR10 := Lib.hid (HR9.out.stay0 hs10)
            have hcv := conv_slc (Slc.stay0 HO8.out.slc (HS9.out.trans hs10))
            unfold strV at hcv
            clear hs10
            go_wp2_with fail
            refine (num_any c8 w10 (HR10.out.err HG.out) _ rfl).mono ?_
            rintro e w11 ⟨rfl, hs11⟩
            have HR11 := Lib.hid (HR10.out.stay0 hs11)
            clear hs11 hcv
            go_wp2
            go_roundw
            case rel => exact ⟨i + 1, _, _, _, _, _, by omega, by omega, by go_num, HR11.out.mono (by omega)⟩
            case measure => simp [valI]; omega

        · rw [e1] at hp1
          clear e1
          refine hp1.mono ?_
          rintro e w5 ⟨rfl, hd5, hs5⟩
          have hb5 := HRA.out.box2 hs5
          have HR7 := Lib.hid ((HRA.out.mono (b2 := 20000 * (i : Int) + 20000) (by omega)).armed k12 hk12 (by omega) hd5 hs5)
          have kb6 : w5.cell? ⟨B, 6, none⟩ = some (.bool false) := by rw [hb5.c 6, ← hcr]; rfl
          have kb7 : w5.cell? ⟨B, 7, none⟩ = some (.bool false) := by rw [hb5.c 7, ← hlo]; rfl
          have kb4 := hb5.c 4
          have kf4 := hb5.f 4
          have kb5 := (hb5.set4 true).c 5
          have kf5 := (hb5.set4 true).f 5
          have kt0 := HR7.out.tb.c0
          have kt1 := HR7.out.tb.c1
          clear hd5 hs5 hb5 hkw hcr hlo
          go_wp2_with fail
          obtain ⟨t8, n8, c8, hl1, hl2⟩ := pair_load HR7.out hf hs
          have HL2 := Lib.hid hl2
          clear hl2
          refine hl1.mono ?_
          rintro e w8 ⟨vl, rfl, ho8, hs8⟩
          have HO8 := Lib.hid ho8
          have HS8 := Lib.hid hs8
          have HR8 := Lib.hid (HR7.out.stay0 hs8)
          have ka0 := HR8.out.ab.c0
          have ka1 := HR8.out.ab.c1
          clear ho8 hs8
          go_wp2_with (refine load_box rfl (.tmp 7) rfl B rfl _ _ _ _ HR8.out.box ?_)
          refine (HL2.out w8 HS8.out).mono ?_
          rintro e w9 ⟨rfl, hs9⟩
          have HS9 := Lib.hid hs9
          have HR9 := Lib.hid (HR8.out.stay0 hs9)
          clear hs9 ka0 ka1
          unfold strV
          go_wp2_with fail
          refine (num_nil w9).mono ?_
          rintro e w10 ⟨rfl, hs10⟩
          have HS10 := Lib.hid hs10
          have HR10 := Lib.hid (HR9.out.stay0 hs10)
          have hcv := conv_slc (Slc.stay0 HO8.out.slc (HS9.out.trans hs10))
          unfold strV at hcv
          clear hs10
          go_wp2_with fail
          refine (num_any c8 w10 (HR10.out.err HG.out) _ rfl).mono ?_
          rintro e w11 ⟨rfl, hs11⟩
          have HR11 := Lib.hid (HR10.out.stay0 hs11)
          clear hs11 hcv
          go_wp2
          go_roundw
          case rel => exact ⟨i + 1, _, _, _, _, _, by omega, by omega, by go_num, HR11.out.mono (by omega)⟩
          case measure => simp [valI]; omega
      · rw [HWA.out]
        obtain ⟨d7, r7, hp1, hp2, hnx⟩ := pair_start HRA.out _ ks HTO.out.marks
        have HP1 := Lib.hid hp1
        have HP2 := Lib.hid hp2
        have HNX := Lib.hid hnx
        clear hp1 hp2 hnx
        refine (own_any wa _ ks (HRA.out.marks HTO.out.marks)).mono ?_
        rintro e w4 ⟨vk, rfl, hr4, hs4⟩
        have HR4 := Lib.hid hr4
        have HS4 := Lib.hid hs4
        clear hr4 hs4
        go_wp2_with fail
        refine (HP1.out w4 vk HS4.out HR4.out).mono ?_
        rintro e w5 ⟨rfl, hd5, hs5⟩

        have HD5 := Lib.hid hd5
        have HS5 := Lib.hid hs5
        have HB5 := Lib.hid (HRA.out.box2 hs5)
        have HV5 := Lib.hid (HRA.out.dv2 hs5)
        have hc5 := HC.out.stay hs5 HNG.out
        have kc1 := hc5.c1
        have kc2 := hc5.c2
        have kc3 := hc5.c3
        have hcv5 := conv_slc ((HRA.out.txt HTO.out.slc).stay hs5 (fun _ _ q => q)).s
        clear hd5 hs5 hc5
        go_wp2_with (refine load_box rfl (.tmp 7) rfl B rfl _ _ _ _ HB5.out ?_)
        refine (HP2.out w5 HV5.out HS5.out).mono ?_
        rintro e w6 ⟨y1, y2, y3, rfl, hv6, hf6, hs6⟩

        have HO6 := Lib.hid hv6.one
        have HV6 := Lib.hid hv6
        have HF6 := Lib.hid hf6
        have HS6 := Lib.hid hs6
        have HB6 := Lib.hid (HB5.out.stay hs6 (fun x => x))
        clear hv6 hf6 hs6 kc1 kc2 kc3
        clear hcv5
        go_wp2_with (first
          | (refine store_box rfl (.tmp 7) (.tmp 129) rfl B rfl _ _ _ _ _ _ _ _ rfl HO6.out HB6.out ?_
             intro w7 hB7 hS7
             have HR7 := Lib.hid (HNX.out w5 w6 w7 y1 y2 y3 HD5.out HS5.out HV6.out HF6.out HS6.out hB7 hS7)
             have kt0 := HR7.out.tb.c0
             have kt1 := HR7.out.tb.c1
             clear hB7 hS7))

        obtain ⟨t8, n8, c8, hl1, hl2⟩ := pair_load HR7.out hf hs
        have HL2 := Lib.hid hl2
        clear hl2
        refine hl1.mono ?_
        rintro e w8 ⟨vl, rfl, ho8, hs8⟩
        have HO8 := Lib.hid ho8
        have HS8 := Lib.hid hs8
        have HR8 := Lib.hid (HR7.out.stay0 hs8)
        have ka0 := HR8.out.ab.c0
        have ka1 := HR8.out.ab.c1
        clear ho8 hs8
        go_wp2_with (refine load_box rfl (.tmp 7) rfl B rfl _ _ _ _ HR8.out.box ?_)
        refine (HL2.out w8 HS8.out).mono ?_
        rintro e w9 ⟨rfl, hs9⟩
        have HS9 := Lib.hid hs9
        have HR9 := Lib.hid (HR8.out.stay0 hs9)
        clear hs9 ka0 ka1
        unfold strV
        go_wp2_with fail
        refine (num_nil w9).mono ?_
        rintro e w10 ⟨rfl, hs10⟩
        have HS10 := Lib.hid hs10
        have HR10 := Lib.hid (HR9.out.stay0 hs10)
        have hcv := conv_slc (Slc.stay0 HO8.out.slc (HS9.out.trans hs10))
        unfold strV at hcv
        clear hs10
        go_wp2_with fail
        refine (num_any c8 w10 (HR10.out.err HG.out) _ rfl).mono ?_
        rintro e w11 ⟨rfl, hs11⟩
        have HR11 := Lib.hid (HR10.out.stay0 hs11)
        clear hs11 hcv
        go_wp2
        go_roundw
        case rel => exact ⟨i + 1, _, _, _, _, _, by omega, by omega, by go_num, HR11.out.mono (by omega)⟩
        case measure => simp [valI]; omega
      · rw [HWA.out]
        obtain ⟨d7, r7, hp1, hp2, hnx⟩ := pair_lose HRA.out
        have HP2 := Lib.hid hp2
        have HNX := Lib.hid hnx
        clear hp2 hnx
        refine hp1.mono ?_
        rintro e w5 ⟨rfl, hd5, hs5⟩

        have HD5 := Lib.hid hd5
        have HS5 := Lib.hid hs5
        have HB5 := Lib.hid (HRA.out.box2 hs5)
        have HV5 := Lib.hid (HRA.out.dv2 hs5)
        have hc5 := HC.out.stay hs5 HNG.out
        have kc1 := hc5.c1
        have kc2 := hc5.c2
        have kc3 := hc5.c3
        have hcv5 := conv_slc ((HRA.out.txt HTO.out.slc).stay hs5 (fun _ _ q => q)).s
        clear hd5 hs5 hc5
        go_wp2_with (refine load_box rfl (.tmp 7) rfl B rfl _ _ _ _ HB5.out ?_)
        refine (HP2.out w5 HV5.out).mono ?_
        rintro e w6 ⟨y1, y2, y3, rfl, hv6, hf6, hs6⟩

        have HO6 := Lib.hid hv6.one
        have HV6 := Lib.hid hv6
        have HF6 := Lib.hid hf6
        have HS6 := Lib.hid hs6
        have HB6 := Lib.hid (HB5.out.stay hs6 (fun x => x))
        clear hv6 hf6 hs6 kc1 kc2 kc3
        clear hcv5
        go_wp2_with (first
          | (refine store_box rfl (.tmp 7) (.tmp 135) rfl B rfl _ _ _ _ _ _ _ _ rfl HO6.out HB6.out ?_
             intro w7 hB7 hS7
             have HR7 := Lib.hid (HNX.out w5 w6 w7 y1 y2 y3 HD5.out HS5.out HV6.out HF6.out HS6.out hB7 hS7)
             have kt0 := HR7.out.tb.c0
             have kt1 := HR7.out.tb.c1
             clear hB7 hS7))

        obtain ⟨t8, n8, c8, hl1, hl2⟩ := pair_load HR7.out hf hs
        have HL2 := Lib.hid hl2
        clear hl2
        refine hl1.mono ?_
        rintro e w8 ⟨vl, rfl, ho8, hs8⟩
        have HO8 := Lib.hid ho8
        have HS8 := Lib.hid hs8
        have HR8 := Lib.hid (HR7.out.stay0 hs8)
        have ka0 := HR8.out.ab.c0
        have ka1 := HR8.out.ab.c1
        clear ho8 hs8
        go_wp2_with (refine load_box rfl (.tmp 7) rfl B rfl _ _ _ _ HR8.out.box ?_)
        refine (HL2.out w8 HS8.out).mono ?_
        rintro e w9 ⟨rfl, hs9⟩
        have HS9 := Lib.hid hs9
        have HR9 := Lib.hid (HR8.out.stay0 hs9)
        clear hs9 ka0 ka1
        unfold strV
        go_wp2_with fail
        refine (num_nil w9).mono ?_
        rintro e w10 ⟨rfl, hs10⟩
        have HS10 := Lib.hid hs10
        have HR10 := Lib.hid (HR9.out.stay0 hs10)
        have hcv := conv_slc (Slc.stay0 HO8.out.slc (HS9.out.trans hs10))
        unfold strV at hcv
        clear hs10
        go_wp2_with fail
        refine (num_any c8 w10 (HR10.out.err HG.out) _ rfl).mono ?_
        rintro e w11 ⟨rfl, hs11⟩
        have HR11 := Lib.hid (HR10.out.stay0 hs11)
        clear hs11 hcv
        go_wp2
        go_roundw
        case rel => exact ⟨i + 1, _, _, _, _, _, by omega, by omega, by go_num, HR11.out.mono (by omega)⟩
        case measure => simp [valI]; omega
      · rw [HWA.out]
        obtain ⟨d7, r7, hp1, hp2, hnx⟩ := pair_replace HRA.out (by omega)
        have HP2 := Lib.hid hp2
        have HNX := Lib.hid hnx
        clear hp2 hnx
        refine hp1.mono ?_
        rintro e w5 ⟨rfl, hd5, hs5⟩

        have HD5 := Lib.hid hd5
        have HS5 := Lib.hid hs5
        have HB5 := Lib.hid (HRA.out.box2 hs5)
        have HV5 := Lib.hid (HRA.out.dv2 hs5)
        have hc5 := HC.out.stay hs5 HNG.out
        have kc1 := hc5.c1
        have kc2 := hc5.c2
        have kc3 := hc5.c3
        have hcv5 := conv_slc ((HRA.out.txt HTO.out.slc).stay hs5 (fun _ _ q => q)).s
        clear hd5 hs5 hc5
        go_wp2_with (refine load_box rfl (.tmp 7) rfl B rfl _ _ _ _ HB5.out ?_)
        refine (HP2.out w5 HV5.out).mono ?_
        rintro e w6 ⟨y1, y2, y3, rfl, hv6, hf6, hs6⟩

        have HO6 := Lib.hid hv6.one
        have HV6 := Lib.hid hv6
        have HF6 := Lib.hid hf6
        have HS6 := Lib.hid hs6
        have HB6 := Lib.hid (HB5.out.stay hs6 (fun x => x))
        clear hv6 hf6 hs6 kc1 kc2 kc3
        clear hcv5
        go_wp2_with (first
          | (refine store_box rfl (.tmp 7) (.tmp 141) rfl B rfl _ _ _ _ _ _ _ _ rfl HO6.out HB6.out ?_
             intro w7 hB7 hS7
             have HR7 := Lib.hid (HNX.out w5 w6 w7 y1 y2 y3 HD5.out HS5.out HV6.out HF6.out HS6.out hB7 hS7)
             have kt0 := HR7.out.tb.c0
             have kt1 := HR7.out.tb.c1
             clear hB7 hS7))

        obtain ⟨t8, n8, c8, hl1, hl2⟩ := pair_load HR7.out hf hs
        have HL2 := Lib.hid hl2
        clear hl2
        refine hl1.mono ?_
        rintro e w8 ⟨vl, rfl, ho8, hs8⟩
        have HO8 := Lib.hid ho8
        have HS8 := Lib.hid hs8
        have HR8 := Lib.hid (HR7.out.stay0 hs8)
        have ka0 := HR8.out.ab.c0
        have ka1 := HR8.out.ab.c1
        clear ho8 hs8
        go_wp2_with (refine load_box rfl (.tmp 7) rfl B rfl _ _ _ _ HR8.out.box ?_)
        refine (HL2.out w8 HS8.out).mono ?_
        rintro e w9 ⟨rfl, hs9⟩
        have HS9 := Lib.hid hs9
        have HR9 := Lib.hid (HR8.out.stay0 hs9)
        clear hs9 ka0 ka1
        unfold strV
        go_wp2_with fail
        refine (num_nil w9).mono ?_
        rintro e w10 ⟨rfl, hs10⟩
        have HS10 := Lib.hid hs10
        have HR10 := Lib.hid (HR9.out.stay0 hs10)
        have hcv := conv_slc (Slc.stay0 HO8.out.slc (HS9.out.trans hs10))
        unfold strV at hcv
        clear hs10
        go_wp2_with fail
        refine (num_any c8 w10 (HR10.out.err HG.out) _ rfl).mono ?_
        rintro e w11 ⟨rfl, hs11⟩
        have HR11 := Lib.hid (HR10.out.stay0 hs11)
        clear hs11 hcv
        go_wp2
        go_roundw
        case rel => exact ⟨i + 1, _, _, _, _, _, by omega, by omega, by go_num, HR11.out.mono (by omega)⟩
        case measure => simp [valI]; omega
      · have hm := HRA.out.mono (b2 := 20000 * ((i + 1 : Nat) : Int)) (by omega)
        rw [← HWA.out] at hm
        go_roundw
        case rel => exact ⟨i + 1, _, _, _, _, _, by omega, by omega, by go_num, hm⟩
        case measure => simp [valI]; omega
      · rw [HWA.out]
        obtain ⟨d7, c7, hp1, hp2⟩ := pair_save HRA.out hf hs _ b HTO.out.slc HTO.out.len (by omega)
        have HP2 := Lib.hid hp2
        clear hp2
        refine hp1.mono ?_
        rintro e w5 ⟨rfl, hd5, hs5⟩

        have HD5 := Lib.hid hd5
        have HS5 := Lib.hid hs5
        have HB5 := Lib.hid (HRA.out.box2 hs5)
        have HV5 := Lib.hid (HRA.out.dv2 hs5)
        have hc5 := HC.out.stay hs5 HNG.out
        have kc1 := hc5.c1
        have kc2 := hc5.c2
        have kc3 := hc5.c3
        have hcv5 := conv_slc ((HRA.out.txt HTO.out.slc).stay hs5 (fun _ _ q => q)).s
        have ka0 := (HRA.out.ab.stay hs5 HRA.out.oA).c0
        have ka1 := (HRA.out.ab.stay hs5 HRA.out.oA).c1
        clear hd5 hs5 hc5
        go_wp2_with (refine load_box rfl (.tmp 7) rfl B rfl _ _ _ _ HB5.out ?_)
        refine (HP2.out w5 HV5.out).mono ?_
        rintro e w6 ⟨y1, y2, y3, r7, rfl, hv6, hf6, hs6, hnx⟩
        have HNX := Lib.hid hnx
        clear hnx

        have HO6 := Lib.hid hv6.one
        have HV6 := Lib.hid hv6
        have HF6 := Lib.hid hf6
        have HS6 := Lib.hid hs6
        have HB6 := Lib.hid (HB5.out.stay hs6 (fun x => x))
        clear hv6 hf6 hs6 kc1 kc2 kc3
        clear hcv5 ka0 ka1
        go_wp2_with (first
          | (refine store_box rfl (.tmp 7) (.tmp 80) rfl B rfl _ _ _ _ _ _ _ _ rfl HO6.out HB6.out ?_
             intro w7 hB7 hS7
             have HR7 := Lib.hid (HNX.out w5 w6 w7 y1 y2 y3 HD5.out HS5.out HV6.out HF6.out HS6.out hB7 hS7)
             have kt0 := HR7.out.tb.c0
             have kt1 := HR7.out.tb.c1
             clear hB7 hS7))

        obtain ⟨t8, n8, c8, hl1, hl2⟩ := pair_load HR7.out hf hs
        have HL2 := Lib.hid hl2
        clear hl2
        refine hl1.mono ?_
        rintro e w8 ⟨vl, rfl, ho8, hs8⟩
        have HO8 := Lib.hid ho8
        have HS8 := Lib.hid hs8
        have HR8 := Lib.hid (HR7.out.stay0 hs8)
        have ka0 := HR8.out.ab.c0
        have ka1 := HR8.out.ab.c1
        clear ho8 hs8
        go_wp2_with (refine load_box rfl (.tmp 7) rfl B rfl _ _ _ _ HR8.out.box ?_)
        refine (HL2.out w8 HS8.out).mono ?_
        rintro e w9 ⟨rfl, hs9⟩
        have HS9 := Lib.hid hs9
        have HR9 := Lib.hid (HR8.out.stay0 hs9)
        clear hs9 ka0 ka1
        unfold strV
        go_wp2_with fail
        refine (num_any c7 w9 (HR9.out.err HG.out) _ rfl).mono ?_
        rintro e w10 ⟨rfl, hs10⟩
        have HS10 := Lib.hid hs10
        have HR10 := Lib.hid (HR9.out.stay0 hs10)
        have hcv := conv_slc (Slc.stay0 HO8.out.slc (HS9.out.trans hs10))
        unfold strV at hcv
        clear hs10
        go_wp2_with fail
        refine (num_any c8 w10 (HR10.out.err HG.out) _ rfl).mono ?_
        rintro e w11 ⟨rfl, hs11⟩
        have HR11 := Lib.hid (HR10.out.stay0 hs11)
        clear hs11 hcv
        go_wp2
        go_roundw
        case rel => exact ⟨i + 1, _, _, _, _, _, by omega, by omega, by go_num, HR11.out.mono (by omega)⟩
        case measure => simp [valI]; omega
    · go_wp2
      all_goals
        go_loopw [21] (fun c wz => ∃ j : Nat, j ≤ 14 ∧ c = .int .i64 (j : Int) ∧ RSt w wz f s pd ps pm B T d v1 v2 v3 r (20000 * (i : Int))) (fun c _ => 14 - valI c)
        case atStart => exact ⟨0, by omega, rfl, HR.out⟩
        case round =>
          obtain ⟨j, hj, rfl, hst⟩ := hrel
          have HRJ := Lib.hid hst
          clear hst
          by_cases hm : j < 14
          · obtain ⟨t8, c8, hc8, hl1, hl2⟩ := pair_read HRJ.out j hm
            have HL1 := Lib.hid hl1
            have HL2 := Lib.hid hl2
            clear hl1 hl2
            go_wp2_with fail
            refine HL1.out.mono ?_
            rintro e w8 ⟨vl, rfl, ho8, hs8⟩
            have hsl := ho8.slc
            obtain ⟨al, cl, rfl, _, hnn, hln, hcm⟩ := hsl
            have HO8 := Lib.hid ho8
            have HS8 := Lib.hid hs8
            have HR8 := Lib.hid (HRJ.out.stay0 hs8)
            clear ho8 hs8
            go_wp2_with (refine load_box rfl (.tmp 7) rfl B rfl _ _ _ _ HR8.out.box ?_)
            refine (HL2.out w8 HS8.out).mono ?_
            rintro e w9 ⟨rfl, hs9⟩
            have HS9 := Lib.hid hs9
            have HR9 := Lib.hid (HR8.out.stay0 hs9)
            clear hs9
            unfold strV
            go_wp2_with fail
            refine (num_any c8 w9 (HR9.out.err HG.out) _ rfl).mono ?_
            rintro e w10 ⟨rfl, hs10⟩
            have HR10 := Lib.hid (HR9.out.stay0 hs10)
            have hcv := conv_slc (Slc.stay0 HO8.out.slc (HS9.out.trans hs10))
            unfold strV at hcv
            clear hs10
            rcases hc8 with rfl | rfl
            all_goals
              go_wp2
              go_roundw
              case rel => exact ⟨j + 1, by omega, by go_num, HR10.out⟩
              case measure => simp [valI]; omega
          · go_wp2_with fail
            refine (sure_any _).mono ?_
            rintro e w8 ⟨rfl, hs8⟩
            have HS8 := Lib.hid (HRJ.out.st.trans (hs8.mono (fun _ x => x.elim)))
            clear hs8
            go_wp2
            go_ret
            exact ⟨rfl, stay_seal (X := fun k => w.heap.size ≤ k) HS8.out (fun _ hk => hk)⟩
end Go.Proofs.YtlmaooeeklhelaaGreatDoor.Tg

/-
  ToggleRuns: its arguments opened: an area; what a slice of acts weighs.
-/
namespace Go.Proofs.YtlmaooeeklhelaaGreatDoor.Tg
theorem weights_each {H : Type} {ts : List TypeId} {ds : List (DataW H)} {n : Nat} (hsz : (DataW.weightsEach Tryz.prog ts ds).all (· ≤ n) = true) {j : Nat} {t : TypeId} {d : DataW H} (ht : ts[j]? = some t) (hd : ds[j]? = some d) : (d.weights Tryz.prog t).all (· ≤ n) = true := by
  induction ts generalizing ds j with
  | nil => simp at ht
  | cons t0 ts ih =>
    cases ds with
    | nil => simp at hd
    | cons d0 ds =>
      rw [DataW.weightsEach, List.all_append, Bool.and_eq_true] at hsz
      cases j with
      | zero =>
        simp at ht hd
        subst ht hd
        exact hsz.1
      | succ j => exact ih hsz.2 (by simpa using ht) (by simpa using hd)
end Go.Proofs.YtlmaooeeklhelaaGreatDoor.Tg
namespace Go.Proofs.YtlmaooeeklhelaaGreatDoor
open Go.ChangeShapes Go.WideShapes Go.ChangeAt Go.RowKit
set_option maxRecDepth 100000

theorem cells_area : Tryz.prog.cellsOf 23 = 2 := by kernel_rfl
theorem cells_one_area : Tryz.prog.cellsOf 3 = 1 := by kernel_rfl

section
variable {H : Type} {enc : TypeId × Value → H}
theorem open_area {w : World} {base b0 : Nat} {r : Reach} {v : Value} {d : DataW H} {p : List MemPlace} (hv : Value.okWide Tryz.prog w r b0 23 v) (h : DataW.Trod enc Tryz.prog w base (fun _ => true) true 23 v d p) :
    ∃ x0 x1 : Int, v = .agg #[.int .i64 x0, .int .i64 x1] ∧ (Lit.int .i64 x0).wf = true ∧ (Lit.int .i64 x1).wf = true := by
  obtain ⟨cs, rfl, hsz⟩ : ∃ cs, v = .agg cs ∧ cs.size = Tryz.prog.cellsOf 23 := by
    have := hv
    simp only [Value.okWide, Tryz.underlying23] at this
    obtain ⟨cs, e, hs, _⟩ := this
    exact ⟨cs, e, hs⟩
  rw [cells_area] at hsz
  obtain ⟨l⟩ := cs
  obtain ⟨c0, c1, rfl⟩ : ∃ a b, l = [a, b] := by
    match l, hsz with
    | [a, b], _ => exact ⟨a, b, rfl⟩
  obtain ⟨fuel, hf⟩ := h
  obtain ⟨y0, y1, m, hx, _, hy0, hy1⟩ := trod_struct2 Tryz.underlying23 hf
  obtain ⟨x0, e0, rfl, w0⟩ := DataW.trod_int Tryz.underlying3 hy0
  obtain ⟨x1, e1, rfl, w1⟩ := DataW.trod_int Tryz.underlying3 hy1
  have hc1 : Tryz.prog.cellsOf 3 = 1 := cells_one_area
  simp [hc1, Value.cells] at e0 e1
  exact ⟨x0, x1, by rw [e0, e1], w0, w1⟩
end

end Go.Proofs.YtlmaooeeklhelaaGreatDoor

/-
  ToggleRuns answers true for every input, and each argument reads afterwards as it read before; errors.errorType stands as the program's text lays it (the card ties it).
-/
namespace Go.Proofs.YtlmaooeeklhelaaGreatDoor
open Go.ChangeShapes Go.WideShapes Go.ChangeAt Go.RowKit
set_option maxRecDepth 100000

theorem toggleRuns_lifted (os : Os) (started : os.Started) (H : Type) (enc : TypeId × Value → H) :
    ReturnsInHanded {} Tryz.checked os 3 .any (fun w args => (Rows.toggleRunsSpec.pre enc Tryz.prog Tryz.f3 [] false w args ∧ laidMetH Tryz.prog laidErr w) ∧ sizedMet enc Tryz.prog Tryz.f3 (OpenSpec.ofChange Rows.toggleRunsSpec) false w args)
      (Rows.toggleRunsSpec.post enc Tryz.prog Tryz.f3 false true false false) := by
  refine returnsInHanded_of_change_and (C := Tryz.checked) (X := fun w _ => laidMetH Tryz.prog laidErr w) (fun _ _ _ hh h => h.of_heap hh) Tryz.own started (by kernel_rfl) Tryz.func3
    (ChangeSpec.witness_at (enc := enc) (C := Tryz.checked) (os := os) (X := fun w _ => laidMetH Tryz.prog laidErr w) false (laidWorld os) #[.agg #[.int .i64 0, .int .i64 0], .slice none 0 0] 8 rfl (by kernel_rfl) (by kernel_rfl) (by kernel_rfl) (by kernel_rfl) (by kernel_rfl) (laidWorld_met os _)) ?_
  intro W base args ds gs before hval0 hW _ hsz hL _
  have hval : ∀ (j : Nat) t v, Tryz.f3.params[j]? = some t → args[j]? = some v → Value.okWide Tryz.prog W .any base t v := hval0
  have hW' := hW
  obtain ⟨p, q, hA0, hV0, rfl, hfz, hnd⟩ := hW
  have hA : DataW.TrodAll enc Tryz.prog W 0 (fun _ => true) true Tryz.f3.params.toList args.toList ds p := hA0
  have hAk := hA
  have hV : DataW.TrodVars enc Tryz.prog W (fun _ => true) [] gs q := hV0
  rw [Tryz.params3] at hA hval
  obtain ⟨v0, v1, d0, d1, p0, p1, rfl, rfl, rfl, h0, h1⟩ := trodAll_two hA
  obtain ⟨x00, x01, rfl, wx00, wx01⟩ := open_area (hval 0 23 v0 rfl rfl) h0
  obtain ⟨a1, m1, c1, rfl⟩ := okWide_slice Tryz.underlying24 (hval 1 24 v1 rfl rfl)
  obtain ⟨x1, rfl, hx1⟩ := Tg.open_acts h1 (Tg.weights_each hsz (j := 1) (by rw [Tryz.params3]; rfl) rfl)
  have hg := err_of_laid hL
  obtain ⟨rfl, rfl⟩ : gs = [] ∧ q = [] := by
    cases gs with
    | nil => exact ⟨rfl, hV⟩
    | cons g r => exact absurd hV (by intro h; cases h)
  simp only [List.append_nil] at hW' hAk
  refine (Tg.runs_walk W x00 x01 a1 x1 c1 (Tg.i64_of wx00) (Tg.i64_of wx01) hx1.1 hx1.2.1 hx1.2.2 hg).mono fun e W' ⟨he, hst⟩ => ?_
  subst he
  exact ⟨_, rfl, law_post Tryz.laidOut hW' hAk (fun t ht => by
      rw [Tryz.params3] at ht
      simp at ht
      rcases ht with rfl | rfl <;> exact ⟨by kernel_rfl, of_decide_eq_true (by kernel_rfl)⟩) rfl rfl rfl rfl (by kernel_rfl) Tryz.underlying4 (hst.toBelow (Nat.le_refl _) (fun _ x => x.elim))⟩

theorem toggleRuns_row : Rows.ToggleRunsSaid :=
  OpenClaim.holds_of_wide 3 Tryz.f3 rfl rfl rfl rfl rfl rfl rfl ⟨rfl, rfl, rfl, rfl, rfl⟩ rfl rfl rfl rfl rfl (by kernel_rfl) Tryz.func3 (by kernel_rfl)
    (of_decide_eq_true (by kernel_rfl)) (by unfold Func.isWrapper; rw [if_neg (of_decide_eq_false (by kernel_rfl))]; exact ⟨rfl, rfl⟩)
    (fun os started H enc _ => toggleRuns_lifted os started H enc)

theorem toggleRuns_holds : Rows.ToggleRunsCardSaid :=
  Claim7.holds_tied_plain_at .later [] [.handle] true _ true
    toggleRuns_row (fun _ h => by cases h) (by kernel_rfl) (fun _ h => by cases h) toggleRuns_row_tie rfl ⟨rfl, rfl⟩ (by kernel_rfl) rfl
    (fun f fn hf hfn => by
      obtain rfl : f = 3 := Option.some.inj ((show Tryz.prog.funcNamed "drydock/drydocklaw04.ToggleRuns" = some 3 by kernel_rfl).symm.trans hf) |>.symm
      obtain rfl : fn = Tryz.f3 := (Option.some.inj (Tryz.func3.symm.trans hfn)).symm
      exact ⟨by kernel_rfl, fun j t ht => by
        rw [Tryz.params3] at ht
        have h3 : t = 23 ∨ t = 24 := by
          rcases j with _ | _ | j
          · exact .inl (by simpa using ht.symm)
          · exact .inr (by simpa using ht.symm)
          · simp at ht
        rcases h3 with rfl | rfl
        · exact (show Tryz.prog.wantsStandIn 23 = false by kernel_rfl)
        · exact (show Tryz.prog.wantsStandIn 24 = false by kernel_rfl)⟩)
    (by kernel_rfl)

end Go.Proofs.YtlmaooeeklhelaaGreatDoor

