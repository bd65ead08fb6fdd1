/-
  toggle: 'sure': what must come whatever the input is.
-/
import Derived.Test.YtlmaooeeklhelaaGreatDoorTgN
import Derived.Lib.SlBytesConst
namespace Go.Proofs.YtlmaooeeklhelaaGreatDoor.Tg
open Go.RowKit Pk
set_option maxRecDepth 100000

/-- One byte that was laid into a new block, and marked. -/
def markB (x : UInt8) : Obj := .cells #[byteV x] 5 (1, 2)

theorem txt_mark (w : World) (pd ps pm : Nat) (x : UInt8) (h : ∀ k, own pd ps pm k → k < w.heap.size) : Txt (w.alloc (markB x)) pd ps pm (.slice (some ⟨w.heap.size, 0, none⟩) 1 1) [x] := by
  refine ⟨⟨_, 1, rfl, fun _ => ⟨_, rfl, fun j v hv => ?_⟩, (fun e => nomatch e), Nat.le_refl _, by decide⟩, fun _ k hk hq => ?_⟩
  · have hg : (w.alloc (markB x)).heap[w.heap.size]? = some (.cells #[byteV x] 5 (1, 2)) := heap_alloc_new w _
    rw [add_at, cell_of_row _ _ _ _ _ _ hg]
    simpa [cellsB] using hv
  · cases hk
    exact absurd (h _ hq) (Nat.lt_irrefl _)

theorem dev_lts {w : World} {pd ps pm : Nat} {d : DS} (h : DevAt w pd ps pm d) : ∀ k, own pd ps pm k → k < w.heap.size := by
  have := h.lt1
  have := h.lt2
  have := h.lt3
  rintro k (rfl | rfl | rfl) <;> assumption

/-- A save, where the device is not armed, holds a text, and there is room. -/
theorem save_free (w : World) (pd ps pm : Nat) (d : DS) (f s : Nat) (o : Option (List UInt8)) (n : Nat) (x : Value) (l : List UInt8) (h : DevAt w pd ps pm d) (hok : DOk d 4611686018400000000) (hx : Txt w pd ps pm x l) (hh : Holds d f s o n) (hn : n < topN) (har : d.ar = false)
    (hl : l.length ≤ 64 * ((s - 1) / 2)) :
    Calls Tryz.prog 17 #[.pointer (some ⟨pd, 0, none⟩), areaV (f : Int) (s : Int), x] w fun e w' => e = .returned .nilIface ∧ Stay (own pd ps pm) w w' ∧ ∃ d', DevAt w' pd ps pm d' ∧ Holds d' f s (some l) (n + 1) ∧ d'.ar = false ∧ d' = (saveD d f s l).1 ∧ d'.L = none64 ∧ ∀ j, (j < f ∨ f + s ≤ j) → d'.s j = d.cur j := by
  have h1 := hh.s3
  have h2 := hh.fn
  have h3 := hh.n2
  refine (save_any w pd ps pm d f s x l h hok hx ⟨by omega, by omega⟩ ⟨by omega, by omega⟩).mono ?_
  rintro e w' ⟨rfl, hd, hs⟩
  rcases save_shape hh hn l hl with ⟨q0, qh, qa, qn, qL, qo⟩ | ⟨q0, qa, _⟩
  · exact ⟨by rw [q0]; rfl, hs, _, hd, qh, by rw [qa]; exact har, rfl, qL, qo⟩
  · rw [har] at qa; cases qa

theorem saveAt_ok {d : DS} {K : Int} (h : DOk d K) (f s : Int) (l : List UInt8) (n : Nat) (b : Bool) (hl : l.length ≤ 1048576) : DOk (saveAt d f s l n b).1 (K + 20000) := by
  unfold saveAt
  have h1 := wrAll_ok h (placeI f s (!b)) l
  have hp : parts l.length ≤ 16385 := by unfold parts; omega
  split
  · exact h1.mono (by omega)
  · have h2 := wrAll_ok h1 f (tellB (n + 1) (!b) l.length)
    have := (parts_tell (n + 1) (!b) l.length).1
    exact h2.mono (by omega)
theorem save_ok {d : DS} {K : Int} (h : DOk d K) (f s : Int) (l : List UInt8) : DOk (saveD d f s l).1 (K + 20000) := by
  unfold saveD
  split
  · exact h.mono (by omega)
  split
  · exact h.mono (by omega)
  · rename_i h2
    have hr : roomI s ≤ 1048576 := by unfold roomI; split <;> omega
    have hl : l.length ≤ 1048576 := by omega
    split
    · exact saveAt_ok h f s l 0 true hl
    · exact saveAt_ok h f s l _ _ hl
theorem dok_fresh (k : Nat) : DOk (fresh k) 0 := ⟨by show (0 : Int) ≤ 0; omega, by show (0 : Int) ≤ 0; omega, fun h => by cases h⟩

/-- What is told, where the device holds a text. -/
theorem load_some (w : World) (pd ps pm : Nat) (d : DS) (f s n : Nat) (t : List UInt8) (h : DevAt w pd ps pm d) (hh : Holds d f s (some t) n) :
    Calls Tryz.prog 19 #[.pointer (some ⟨pd, 0, none⟩), areaV (f : Int) (s : Int)] w fun e w' => ∃ v, e = .returned (.tuple #[v, .int .u64 (n : Int), .nilIface]) ∧ Owns w.heap.size w' v t ∧ Stay (fun _ => False) w w' := by
  have h1 := hh.s3
  have h2 := hh.fn
  have h3 := hh.n2
  have hl := load_any w pd ps pm d f s h ⟨by omega, by omega⟩ ⟨by omega, by omega⟩
  rw [hh.load] at hl
  exact hl

set_option maxHeartbeats 2000000 in
theorem sure_any (w : World) : Calls Tryz.prog 24 #[] w fun e w' => e = .returned (.bool true) ∧ Stay (fun _ => False) w w' := by
  have kc := fun (w : World) (C : Array Value) (n c : Nat) => Lib.run_convert_bytes_const (P := Tryz.prog) w 37 5 C n c Tryz.underlying37 Tryz.underlying5
  have hroom : ∀ W, Calls Tryz.prog 35 #[.agg #[.int .i64 0, .int .i64 9]] W fun e w' => e = .returned (.int .i64 256) ∧ Stay (fun _ => False) W w' := fun W => room_any 0 9 W
  have HROOM := Lib.hid hroom
  clear hroom
  go_enter Tryz.func24, Tryz.ntmps24
  go_wp2_with fail
  refine (new_at 9 w (by omega) (by omega)).mono ?_
  rintro e w1 ⟨pd, ps, pm, rfl, h1, hF, hs1⟩
  have HS1 := Lib.hid hs1
  have HF := Lib.hid hF
  have HD1 := Lib.hid h1
  clear hs1 hF h1
  go_wp2_with (first
    | (go_at_call 35
       refine (HROOM.out _).mono ?_
       rintro e w2 ⟨rfl, hs2⟩
       have HA2 := Lib.hid ((hs2.block _ (by simp) (fun x => x)).trans (heap_alloc_new w1 _))
       have HS2 := Lib.hid ((Stay.alloc w1 _).trans hs2)
       have ka0 := cell_of_row w2 _ 0 _ _ _ HA2.out
       have ka1 := cell_of_row w2 _ 1 _ _ _ HA2.out
       clear hs2))
  have HD2 := Lib.hid (HD1.out.stay HS2.out (fun x => x) (fun x => x) (fun x => x))
  have hsv : Calls Tryz.prog 17 #[.pointer (some ⟨pd, 0, none⟩), .agg #[.int .i64 0, .int .i64 9], .slice (some ⟨w2.heap.size, 0, none⟩) 1 1] (w2.alloc (markB 97)) _ :=
    save_free (w2.alloc (markB 97)) pd ps pm (fresh 9) 0 9 none 0 _ [97] (HD2.out.stay (Stay.alloc (X := fun _ => False) _ _) (fun x => x) (fun x => x) (fun x => x)) ((dok_fresh 9).mono (by omega)) (txt_mark w2 pd ps pm 97 (dev_lts HD2.out)) (holds_fresh 9 0 9 (by omega) (by omega) (by omega)) (by decide) rfl (by decide)
  refine hsv.mono ?_
  clear hsv
  rintro e w3 ⟨rfl, hs3, d3, hd3, hh3, har3, he3, _, _⟩
  have hok3 := save_ok (dok_fresh 9) 0 9 [97]
  have e09 : saveD (fresh 9) ((0 : Nat) : Int) ((9 : Nat) : Int) [97] = saveD (fresh 9) 0 9 [97] := rfl
  rw [← e09, ← he3] at hok3
  have HS3 := Lib.hid (show Stay (own pd ps pm) w1 w3 from ((HS2.out.mono (fun _ x => x.elim)).trans (Stay.alloc _ _)).trans hs3)
  have HD3 := Lib.hid hd3
  have HH3 := Lib.hid hh3
  have HR3 := Lib.hid har3
  have HK3 := Lib.hid hok3
  have HA3 := Lib.hid (((hs3.block _ (by have := lt_of_block HA2.out; simp; omega) (fun q => by have := dev_lts HD1.out _ q; omega)).trans (Below.heap_alloc _ _ _ (lt_of_block HA2.out))).trans HA2.out)
  have kb0 := cell_of_row w3 _ 0 _ _ _ HA3.out
  have kb1 := cell_of_row w3 _ 1 _ _ _ HA3.out
  clear hs3 hd3 hh3 har3 he3 hok3 e09
  go_wp2_with fail
  have hsv : Calls Tryz.prog 17 #[.pointer (some ⟨pd, 0, none⟩), .agg #[.int .i64 0, .int .i64 9], .slice (some ⟨w3.heap.size, 0, none⟩) 1 1] (w3.alloc (markB 98)) _ :=
    save_free (w3.alloc (markB 98)) pd ps pm d3 0 9 (some [97]) 1 _ [98] (HD3.out.stay (Stay.alloc (X := fun _ => False) _ _) (fun x => x) (fun x => x) (fun x => x)) (HK3.out.mono (by omega)) (txt_mark w3 pd ps pm 98 (dev_lts HD3.out)) HH3.out (by decide) HR3.out (by decide)
  refine hsv.mono ?_
  clear hsv
  rintro e w4 ⟨rfl, hs4, d4, hd4, hh4, _, _, _, _⟩
  have HS4 := Lib.hid (show Stay (own pd ps pm) w1 w4 from (HS3.out.trans (Stay.alloc _ _)).trans hs4)
  have HA4 := Lib.hid (((hs4.block _ (by have := lt_of_block HA3.out; simp; omega) (fun q => by have := dev_lts HD1.out _ q; omega)).trans (Below.heap_alloc _ _ _ (lt_of_block HA3.out))).trans HA3.out)
  have kc0 := cell_of_row w4 _ 0 _ _ _ HA4.out
  have kc1 := cell_of_row w4 _ 1 _ _ _ HA4.out
  have hld : Calls Tryz.prog 19 #[.pointer (some ⟨pd, 0, none⟩), .agg #[.int .i64 0, .int .i64 9]] w4 _ := load_some w4 pd ps pm d4 0 9 2 [98] hd4 hh4
  have HLD := Lib.hid hld
  clear hs4 hd4 hh4 hld
  go_wp2_with fail
  refine HLD.out.mono ?_
  rintro e w5 ⟨v5, rfl, ho5, hs5⟩
  have hcs := conv_slc ho5.slc
  unfold strV at hcs
  have HS5 := Lib.hid (HS4.out.trans (hs5.mono (fun _ x => x.elim)))
  clear ho5 hs5 kc
  go_wp2
  go_ret
  exact ⟨rfl, HS1.out.andThen HS5.out (fun k hk hq => HF.out.not_own hk hq)⟩

end Go.Proofs.YtlmaooeeklhelaaGreatDoor.Tg
