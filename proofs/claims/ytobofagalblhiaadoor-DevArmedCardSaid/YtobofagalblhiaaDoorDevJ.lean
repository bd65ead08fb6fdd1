/-
  dev: what is left of the contracts, in the form in which the laws use them; and 'sure'.
-/
import Derived.Test.YtobofagalblhiaaDoorDevI
import Derived.Lib.SlBytesConst
namespace Go.Proofs.YtobofagalblhiaaDoor
open Go.RowKit Go.Maps
set_option maxRecDepth 100000

/-- The device's blocks are new ones, from block B on. -/
def From (B pd ps pm : Nat) : Prop := B ≤ pd ∧ B ≤ ps ∧ B ≤ pm
theorem From.not_own {B pd ps pm k : Nat} (h : From B pd ps pm) (hk : k < B) : ¬ own pd ps pm k := by
  obtain ⟨h1, h2, h3⟩ := h
  rintro (e | e | e) <;> omega

def fresh (n : Nat) : DS := ⟨n, fun _ => zsec, none64, false, false, false, 0, 0⟩

theorem new_at (n : Nat) (w : World) (h0 : 1 ≤ n) (h1 : n ≤ 16384) :
    Calls Tryd.prog 4 #[.int .i64 n] w fun e w' => ∃ pd ps pm, e = .returned (.tuple #[.pointer (some ⟨pd, 0, none⟩), .nilIface]) ∧ DevAt w' pd ps pm (fresh n) ∧ From w.heap.size pd ps pm ∧ Stay (fun _ => False) w w' := by
  refine (new_dev n w h0 h1).mono ?_
  rintro e w' ⟨rfl, hd, hs, _⟩
  exact ⟨_, _, _, rfl, hd, ⟨by omega, by omega, by omega⟩, hs⟩

/-- Write, where all is well and it is not armed. -/
theorem write_free (w : World) (pd ps pm : Nat) (d : DS) (i : Nat) (sp : Option Addr) (cap : Nat) (l : List UInt8) (h : DevAt w pd ps pm d) (hcr : d.cr = false) (hlo : d.lo = false) (har : d.ar = false) (hi : i < d.n) (hl : l.length ≤ 64)
    (hr : ReadsAs w sp l) (hro : 0 < l.length → ∀ ad, sp = some ad → ¬ own pd ps pm ad.block) (hw0 : 0 ≤ d.wr) (hw1 : d.wr < 4611686018427387904) :
    Calls Tryd.prog 7 #[.pointer (some ⟨pd, 0, none⟩), .int .i64 i, .slice sp l.length cap] w fun e w' => e = .returned .nilIface ∧ DevAt w' pd ps pm (d.wrote i l) ∧ Stay (own pd ps pm) w w' := by
  refine write_with w pd ps pm d d i sp cap l h hcr hlo hi hl hr hro ?_ rfl hw0 hw1
  have c4 := h.c4
  rw [har] at c4
  refine (spend_free pd w c4).mono ?_
  rintro e w' ⟨rfl, rfl⟩
  exact ⟨rfl, h, Stay.refl _ _⟩

/-- Start, with a slice of marks that is not nil and lies elsewhere. -/
theorem start_any (w : World) (pd ps pm : Nat) (d : DS) (kb ko cap : Nat) (ks : List Bool) (h : DevAt w pd ps pm d) (hlo : d.lo = false)
    (hkc : ∀ j, j < ks.length → w.cell? ⟨kb, ko + j, none⟩ = some (.bool (ks.getD j false))) (hko : ¬ own pd ps pm kb) (hkn : ks.length ≤ 9223372036854775807) :
    Calls Tryd.prog 10 #[.pointer (some ⟨pd, 0, none⟩), .slice (some ⟨kb, ko, none⟩) ks.length cap] w fun e w' => e = .returned (.tuple #[]) ∧ DevAt w' pd ps pm (d.started ks) ∧ Stay (own pd ps pm) w w' := by
  by_cases hk : keysL d.L d.n = []
  · exact start_idle w pd ps pm d _ cap ks h hlo hk
  · exact start_kept w pd ps pm d kb ko cap ks h hlo hk hkc hko hkn

theorem start_nils (w : World) (pd ps pm : Nat) (d : DS) (h : DevAt w pd ps pm d) (hlo : d.lo = false) :
    Calls Tryd.prog 10 #[.pointer (some ⟨pd, 0, none⟩), .slice none 0 0] w fun e w' => e = .returned (.tuple #[]) ∧ DevAt w' pd ps pm (d.started []) ∧ Stay (own pd ps pm) w w' := by
  by_cases hk : keysL d.L d.n = []
  · exact start_idle w pd ps pm d none 0 [] h hlo hk
  · exact start_nil w pd ps pm d none 0 h hlo hk

/-- Read, where all is well. -/
theorem read_up (w : World) (pd ps pm : Nat) (d : DS) (i : Nat) (h : DevAt w pd ps pm d) (hcr : d.cr = false) (hlo : d.lo = false) (hi : i < d.n) :
    Calls Tryd.prog 12 #[.pointer (some ⟨pd, 0, none⟩), .int .i64 i] w fun e w' => ∃ g cap, e = .returned (.tuple #[.slice (some ⟨g, 0, none⟩) 64 cap, .nilIface]) ∧
      w.heap.size ≤ g ∧ (∀ j, j < 64 → w'.cell? ⟨g, j, none⟩ = (cellsB (d.cur i))[j]?) ∧ DevAt w' pd ps pm d ∧ Stay (fun _ => False) w w' := by
  have key : Calls Tryd.prog 12 #[.pointer (some ⟨pd, 0, none⟩), .int .i64 i] w fun e w' => ∃ v, e = .returned (.tuple #[v, .nilIface]) ∧
      w'.ownsRow w.heap.size 5 1 v 64 (cellsB (d.cur i)) ∧ Stay (fun _ => False) w w' ∧ v ≠ .slice none 0 0 := by
    cases hL : d.L i with
    | none => unfold DS.cur; rw [hL]; exact read_none w pd ps pm d i h hcr hlo hi hL
    | some l => unfold DS.cur; rw [hL]; exact read_some w pd ps pm d i l h hcr hlo hi hL
  refine key.mono ?_
  rintro e w' ⟨v, rfl, hrow, hs, hne⟩
  rcases hrow.2 with ⟨rfl, h0⟩ | ⟨g, cap, cur, rfl, hb, hg, r⟩
  · exact absurd h0 (by decide)
  · refine ⟨g, cap, rfl, hb, fun j hj => hrow.cellAt j (by omega), h.stay hs (fun x => x) (fun x => x) (fun x => x), hs⟩

theorem stepS_none (s : Nat → List UInt8) (L : Nat → Option (List UInt8)) (keys : List Nat) (ks : List Bool) (h : ∀ i, ks.getD i false = false) : ∀ i, stepS s L keys ks i = s
  | 0 => rfl
  | i + 1 => by rw [stepS, if_neg (by rw [h]; simp)]; exact stepS_none s L keys ks h i

theorem started_none (d : DS) (ks : List Bool) (h : ∀ i, ks.getD i false = false) : (d.started ks).s = d.s := stepS_none _ _ _ _ h _

theorem cur_flushed (d : DS) (i : Nat) : d.flushed.cur i = d.cur i := by simp [DS.flushed, DS.cur, none64]
theorem cur_started (d : DS) (ks : List Bool) (i : Nat) : (d.started ks).cur i = (d.started ks).s i := by simp [DS.started, DS.cur, none64]
theorem cur_wrote_same (d : DS) (i : Nat) (l : List UInt8) : (d.wrote i l).cur i = pad l := by simp [DS.wrote, DS.cur, updL]
theorem cur_wrote_other (d : DS) (i j : Nat) (l : List UInt8) (h : j ≠ i) : (d.wrote i l).cur j = d.cur j := by simp [DS.wrote, DS.cur, updL, h]

/-- One byte that was laid into a new block, and marked. -/
def byteBlk (x : UInt8) : Obj := .cells #[byteV x] 5 (1, 2)
theorem readsAs_one (w : World) (x : UInt8) : ReadsAs (w.alloc (byteBlk x)) (some ⟨w.heap.size, 0, none⟩) [x] := by
  intro _
  refine ⟨_, rfl, fun j v hv => ?_⟩
  have hg : (w.alloc (byteBlk x)).heap[w.heap.size]? = some (.cells #[byteV x] 5 (1, 2)) := heap_alloc_new w _
  rw [add_at, cell_of_row _ _ _ _ _ _ hg]
  simpa [cellsB] using hv

theorem not_own_new {w : World} {pd ps pm : Nat} {d : DS} (h : DevAt w pd ps pm d) : ¬ own pd ps pm w.heap.size := by
  have := h.lt1
  have := h.lt2
  have := h.lt3
  rintro (e | e | e) <;> omega

theorem DevAt.alloc {w : World} {pd ps pm : Nat} {d : DS} (h : DevAt w pd ps pm d) (o : Obj) : DevAt (w.alloc o) pd ps pm d := h.stay (Stay.alloc (X := fun _ => False) w _) (fun x => x) (fun x => x) (fun x => x)

/-- Write of one byte that lies in a new block. -/
theorem write_one (w : World) (pd ps pm : Nat) (d : DS) (x : UInt8) (h : DevAt w pd ps pm d) (hcr : d.cr = false) (hlo : d.lo = false) (har : d.ar = false) (hw0 : 0 ≤ d.wr) (hw1 : d.wr < 4611686018427387904) :
    Calls Tryd.prog 7 #[.pointer (some ⟨pd, 0, none⟩), .int .i64 0, .slice (some ⟨w.heap.size, 0, none⟩) 1 1] (w.alloc (byteBlk x)) fun e w' => e = .returned .nilIface ∧ DevAt w' pd ps pm (d.wrote 0 [x]) ∧ Stay (own pd ps pm) w w' := by
  refine (write_free (w.alloc (byteBlk x)) pd ps pm d 0 _ 1 [x] (h.alloc _) hcr hlo har h.n1 (by simp) (readsAs_one w x) (fun _ ad e => by cases e; exact not_own_new h) hw0 hw1).mono ?_
  rintro e w' ⟨rfl, h1, hs⟩
  exact ⟨rfl, h1, (Stay.alloc (X := own pd ps pm) w _).trans hs⟩

set_option maxHeartbeats 1000000 in
theorem sure_yes (w : World) : Calls Tryd.prog 6 #[] w fun e w' => e = .returned (.bool true) ∧ Stay (fun _ => False) w w' := by
  have kc := fun (w : World) (C : Array Value) (n c : Nat) => Lib.run_convert_bytes_const (P := Tryd.prog) w 22 5 C n c Tryd.underlying22 Tryd.underlying5
  go_enter Tryd.func6, Tryd.ntmps6
  go_wp2_with fail
  refine (new_at 2 w (by omega) (by omega)).mono ?_
  rintro e w1 ⟨pd, ps, pm, rfl, h1, hF, hs1⟩
  go_wp2_with fail
  refine (write_one w1 pd ps pm (fresh 2) 97 h1 rfl rfl rfl (by decide) (by decide)).mono ?_
  rintro e w2 ⟨rfl, h2, hs2⟩
  go_wp2_with fail
  refine (flush_up w2 pd ps pm _ h2 rfl rfl).mono ?_
  rintro e w3 ⟨rfl, h3, hs3⟩
  go_wp2_with fail
  refine (write_one w3 pd ps pm _ 98 h3 rfl rfl rfl (by decide) (by decide)).mono ?_
  rintro e w4 ⟨rfl, h4, hs4⟩
  go_wp2_with fail
  have hkb : ∀ j, j < [false].length → (w4.alloc (.cells #[.bool false] 4)).cell? ⟨w4.heap.size, 0 + j, none⟩ = some (.bool ([false].getD j false)) := by
    intro j hj
    rw [cell_of_row _ _ _ _ _ _ (heap_alloc_new w4 _)]
    obtain rfl : j = 0 := by simpa using hj
    rfl
  refine (start_any (w4.alloc (.cells #[.bool false] 4)) pd ps pm _ w4.heap.size 0 1 [false] (h4.alloc _) rfl hkb (not_own_new h4) (by decide)).mono ?_
  rintro e w5 ⟨rfl, h5, hs5⟩
  clear hkb
  go_wp2_with fail
  refine (read_up w5 pd ps pm _ 0 h5 rfl rfl (by decide)).mono ?_
  rintro e w6 ⟨g, cap, rfl, hg, hc, h6, hs6⟩
  have hcur : ((((((fresh 2).wrote 0 [97]).flushed).wrote 0 [98]).started [false]).cur 0) = pad [97] := by
    rw [cur_started, started_none _ _ (fun i => by cases i <;> simp)]
    show ((fresh 2).wrote 0 [97]).flushed.s 0 = _
    show ((fresh 2).wrote 0 [97]).cur 0 = _
    exact cur_wrote_same _ _ _
  rw [hcur] at hc
  have hc0 : w6.cell? ⟨g, 0, none⟩ = some (.int .u8 97) := hc 0 (by decide)
  have hst : Stay (fun _ => False) w w6 := by
    have hx : Stay (own pd ps pm) w1 w6 := (((hs2.trans hs3).trans hs4).trans ((Stay.alloc (X := own pd ps pm) w4 _).trans hs5)).trans (hs6.mono (fun _ x => x.elim))
    exact hs1.andThen hx (fun k hk e => hF.not_own hk e)
  clear hc hcur kc
  go_wp2
  go_ret
  exact ⟨rfl, hst⟩

end Go.Proofs.YtobofagalblhiaaDoor
