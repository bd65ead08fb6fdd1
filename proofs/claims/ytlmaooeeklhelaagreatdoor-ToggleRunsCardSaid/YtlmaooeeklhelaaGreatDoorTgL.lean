/-
  toggle: Save.
-/
import Derived.Test.YtlmaooeeklhelaaGreatDoorTgD
import Derived.Test.YtlmaooeeklhelaaGreatDoorTgK
import Derived.Test.YtlmaooeeklhelaaGreatDoorIs
namespace Go.Proofs.YtlmaooeeklhelaaGreatDoor.Tg
open Go.RowKit Pk
set_option maxRecDepth 100000

/-- Save, as a function, where the number ahead is n, and b tells whether the second place counts. -/
def saveAt (d : DS) (f s : Int) (l : List UInt8) (n : Nat) (b : Bool) : DS × Nat :=
  if (wrAllD d (placeI f s (!b)) l).2 ≠ 0 then wrAllD d (placeI f s (!b)) l else wrAllD (wrAllD d (placeI f s (!b)) l).1 f (tellB (n + 1) (!b) l.length)
def saveD (d : DS) (f s : Int) (l : List UInt8) : DS × Nat :=
  if (askD d f s).2 ≠ 0 ∧ (askD d f s).2 ≠ 8 then (d, (askD d f s).2) else if roomI s < (l.length : Int) then (d, 2) else
  if (askD d f s).2 = 8 then saveAt d f s l 0 true else saveAt d f s l (askD d f s).1.1 (askD d f s).1.2.1

theorem ask_none {d : DS} {f s : Int} {t : Nat × Bool × Nat} (h : askD d f s = (t, 8)) : inB f s d.n = true ∧ t = (0, false, 0) := by
  unfold askD at h
  split at h
  · cases h
  split at h
  · cases h
  · rename_i h1 h2
    refine ⟨by simpa using h1, ?_⟩
    rcases tell_codes (l := d.cur f.toNat) (room := (roomI s).toNat) with h3 | h3 | h3
    · rw [h] at h3; cases h3
    · rw [h] at h3; cases h3
    · rw [h] at h3; exact congrArg Prod.fst h3

theorem wrAll_ok {d : DS} {K : Int} (h : DOk d K) (i : Int) (l : List UInt8) : DOk (wrAllD d i l).1 (K + parts l.length) := by
  have h1 := writesD_ok l (List.range (parts l.length)) d i K h
  rw [List.length_range] at h1
  unfold wrAllD
  split
  · exact flushD_ok h1
  · exact h1
theorem wrAll_n (d : DS) (i : Int) (l : List UInt8) : (wrAllD d i l).1.n = d.n := by
  unfold wrAllD
  split
  · rw [flushD_n, writesD_n]
  · exact writesD_n _ _ _ _

/-- A text that comes in: it reads as l, and the device isn't in it. -/
structure Txt (w : World) (pd ps pm : Nat) (x : Value) (l : List UInt8) : Prop where
  s : Slc w x l
  o : 0 < l.length → ∀ k, x.ownBlock = some k → ¬ own pd ps pm k

theorem slc_block_lt {w : World} {x : Value} {l : List UInt8} (h : Slc w x l) (h0 : 0 < l.length) {k : Nat} (hk : x.ownBlock = some k) : k < w.heap.size := by
  obtain ⟨a0, c, rfl, hr, _⟩ := h
  obtain ⟨ad, rfl, hc⟩ := hr h0
  cases hk
  have h1 : (cellsB l)[0]? = some ((cellsB l)[0]'(by rw [length_cellsB]; exact h0)) := List.getElem?_eq_getElem _
  have h2 := hc 0 _ h1
  have e0 : ad.add 0 = ad := by unfold Addr.add; simp
  rw [e0] at h2
  exact World.block_lt_of_cell? w ad h2

theorem Txt.stay {X : Nat → Prop} {w w' : World} {pd ps pm : Nat} {x : Value} {l : List UInt8} (h : Txt w pd ps pm x l) (hs : Stay X w w') (hx : ∀ k, k < w.heap.size → X k → own pd ps pm k) : Txt w' pd ps pm x l := by
  refine ⟨?_, h.o⟩
  rcases Nat.eq_zero_or_pos l.length with h0 | h0
  · obtain ⟨a0, c, rfl, _, hr⟩ := h.s
    exact ⟨a0, c, rfl, fun h1 => absurd h1 (by omega), hr⟩
  · exact h.s.stay hs (fun k hk hlt hX => h.o h0 k hk (hx k hlt hX))

theorem Txt.arg {w : World} {pd ps pm : Nat} {x : Value} {l : List UInt8} (h : Txt w pd ps pm x l) : Arg w pd ps pm x l := Arg.of_slc h.s h.o

theorem write_txt (w : World) (pd ps pm : Nat) (d : DS) (i : Int) (x : Value) (l : List UInt8) (h : DevAt w pd ps pm d) (hok : DOk d 4611686018426387903) (hx : Txt w pd ps pm x l)
    (hi0 : 0 ≤ i) (hi1 : i ≤ 1048576) (hl : l.length ≤ 1048576) :
    Calls Tryz.prog 36 #[.pointer (some ⟨pd, 0, none⟩), .int .i64 i, x] w fun e w' => e = .returned (errV (wrAllD d i l).2) ∧ DevAt w' pd ps pm (wrAllD d i l).1 ∧ Stay (own pd ps pm) w w' :=
  write_any w pd ps pm d i x l h hok hx.arg hx.s hi0 hi1 hl

theorem length_tellB (n : Nat) (b : Bool) (m : Nat) : (tellB n b m).length ≤ 19 := by
  have := kOf_le n
  have := kOf_le m
  unfold tellB
  rw [List.length_append, List.length_append, length_spellB, length_spellB]
  simp only [boolB, List.length_cons, List.length_nil]
  omega

theorem three_other (w : World) (b : Nat) (v0 v1 v2 : Value) : Stay (fun k => k = b) w (((w.setCell ⟨b, 0, none⟩ v0).setCell ⟨b, 1, none⟩ v1).setCell ⟨b, 2, none⟩ v2) :=
  ((Stay.setCell (X := fun k => k = b) w ⟨b, 0, none⟩ v0 rfl).trans (Stay.setCell (X := fun k => k = b) _ ⟨b, 1, none⟩ v1 rfl)).trans (Stay.setCell (X := fun k => k = b) _ ⟨b, 2, none⟩ v2 rfl)

set_option maxHeartbeats 4000000 in
theorem save_any (w : World) (pd ps pm : Nat) (d : DS) (f s : Int) (x : Value) (l : List UInt8) (h : DevAt w pd ps pm d) (hok : DOk d 4611686018400000000) (hx : Txt w pd ps pm x l) (hf : I64 f) (hs : I64 s) :
    Calls Tryz.prog 17 #[.pointer (some ⟨pd, 0, none⟩), areaV f s, x] w fun e w' => e = .returned (errV (saveD d f s l).2) ∧ DevAt w' pd ps pm (saveD d f s l).1 ∧ Stay (own pd ps pm) w w' := by
  have hn2 := h.n2
  have hask := fun W (hW : Stay (fun _ => False) w W) => ask_any W pd ps pm d f s (h.stay hW (fun x => x) (fun x => x) (fun x => x)) hf hs
  have hroom := fun W => room_any f s W
  have hlen : (l.length : Int) ≤ 9223372036854775807 := by obtain ⟨_, _, _, _, _, h1, h2⟩ := hx.s; omega
  have HD := Lib.hid h
  have HX := Lib.hid hx
  have hob : ∀ k, own pd ps pm k → k < w.heap.size := by
    have := h.lt1
    have := h.lt2
    have := h.lt3
    rintro k (rfl | rfl | rfl) <;> assumption
  have HOB := Lib.hid hob
  have HOK := Lib.hid hok
  obtain ⟨a0, c0, rfl, _⟩ := hx.s
  by_cases hbad : (askD d f s).2 ≠ 0 ∧ (askD d f s).2 ≠ 8
  · have e1 : saveD d f s l = (d, (askD d f s).2) := if_pos hbad
    rw [e1]
    clear e1
    generalize askD d f s = T at *
    obtain ⟨⟨tn, tb, tm⟩, tc⟩ := T
    dsimp only at hbad hask ⊢
    obtain ⟨hc0, hc8⟩ := hbad
    have hc8' : ((tc : Int) == 8) = false := by simpa using (by omega : ¬ (tc : Int) = 8)
    have his := fun W => is_errno (tc : Int) 8 W
    rw [errV_pos hc0] at hask ⊢
    rw [hc8'] at his
    unfold areaV at hask ⊢
    unfold tellW errI at hask
    unfold errI
    have HASK := Lib.hid hask
    have HIS := Lib.hid his
    clear hask his hroom h hx hok hob hc8 hc8'
    go_enter Tryz.func17, Tryz.ntmps17
    go_wp2_with (first
      | (go_at_call 33
         refine (HASK.out _ (Stay.alloc _ _)).mono ?_
         rintro e w2 ⟨rfl, hs2⟩
         have HS2 := Lib.hid ((Stay.alloc w _).trans hs2)
         clear hs2)
      | (go_at_call 34
         refine (HIS.out _).mono ?_
         rintro e w3 ⟨rfl, rfl⟩))
    go_ret
    have HF := Lib.hid (HS2.out.trans (Stay.alloc (X := fun _ => False) w2 (.cells #[.int .u64 (tn : Int), .bool tb, .int .i64 (tm : Int)] 77)))
    exact ⟨rfl, HD.out.stay HF.out (fun x => x) (fun x => x) (fun x => x), HF.out.mono (fun _ x => x.elim)⟩
  by_cases hc : (askD d f s).2 = 8
  · -- there is none
    have hT : askD d f s = ((0, false, 0), 8) := by
      obtain ⟨t, ht⟩ : ∃ t, askD d f s = (t, 8) := ⟨(askD d f s).1, by rw [← hc]⟩
      rw [ht, (ask_none ht).2]
    have hib := (ask_none hT).1
    obtain ⟨f0, s3, fn⟩ := inB_spec (by rw [hib]; simp : ¬ inB f s d.n = false)
    have e0 : saveD d f s l = if roomI s < (l.length : Int) then (d, 2) else saveAt d f s l 0 true := by
      unfold saveD
      rw [hT]
      simp
    rw [hT] at hask
    have e8 : errV 8 = .iface 65 (.int .i64 8) := rfl
    simp only [e8] at hask
    have his := fun W => is_errno 8 8 W
    have h88 : ((8 : Int) == 8) = true := rfl
    rw [h88] at his
    unfold areaV at hask hroom ⊢
    unfold tellW at hask
    have HASK := Lib.hid hask
    have HIS := Lib.hid his
    have hroom1 : roomI s = 64 * ((s - 1) / 2) := if_neg (by omega)
    obtain ⟨rm, hrm, hrm0, hrm1⟩ : ∃ rm : Int, roomI s = rm ∧ 0 ≤ rm ∧ rm ≤ 1048576 := ⟨_, rfl, by omega, by omega⟩
    rw [hrm] at hroom e0
    have HROOM := Lib.hid hroom
    by_cases hlong : rm < (l.length : Int)
    · have e1 : saveD d f s l = (d, 2) := by rw [e0, if_pos hlong]
      have e2 : errV 2 = .iface 65 (.int .i64 2) := rfl
      rw [e1]
      simp only [e2]
      clear hask his hroom h hx hok hob e0 e1 e2 hrm hroom1 hib
      go_enter Tryz.func17, Tryz.ntmps17
      go_wp2_with (first
        | (go_at_call 33
           refine (HASK.out _ (Stay.alloc _ _)).mono ?_
           rintro e w2 ⟨rfl, hs2⟩
           have HA2 := Lib.hid ((hs2.block _ (by simp) (fun x => x)).trans (heap_alloc_new w (.cells #[.int .i64 f, .int .i64 s] 36)))
           have HS2 := Lib.hid ((Stay.alloc w _).trans hs2)
           have HNE := Lib.hid (Nat.ne_of_lt (lt_of_block HA2.out))
           clear hs2)
        | (go_at_call 34
           refine (HIS.out _).mono ?_
           rintro e w3 ⟨rfl, hw3⟩
           have HB3 := Lib.hid (show w3.heap[w2.heap.size]? = some (.cells #[.int .u64 0, .bool false, .int .i64 0] 77 (0, 0)) by rw [hw3]; exact heap_alloc_new w2 _)
           have HA3 := Lib.hid (show w3.heap[w.heap.size]? = some (.cells #[.int .i64 f, .int .i64 s] 36 (0, 0)) by rw [hw3, Below.heap_alloc _ _ _ (lt_of_block HA2.out)]; exact HA2.out)
           have HS3 := Lib.hid (show Stay (fun _ => False) w w3 by rw [hw3]; exact HS2.out.trans (Stay.alloc _ _))
           have HB3' := Lib.hid (three_set (v0 := .int .u64 0) (v1 := .bool true) (v2 := .int .i64 0) HB3.out)
           have HS3' := Lib.hid (three_stay (v0 := .int .u64 0) (v1 := .bool true) (v2 := .int .i64 0) HS3.out HS2.out.size)
           have HA3' := Lib.hid (((three_other w3 w2.heap.size (.int .u64 0) (.bool true) (.int .i64 0)).block _ (lt_of_block HA3.out) HNE.out).trans HA3.out)
           have kc0 := cell_of_row w3 _ 0 _ _ _ HB3.out
           have kc1 := cell_of_row w3 _ 1 _ _ _ HB3.out
           have kc2 := cell_of_row w3 _ 2 _ _ _ HB3.out
           have kfz := fun j => frozen_of_row w3 _ j _ _ HB3.out
           have ka0 := cell_of_row _ _ 0 _ _ _ HA3'.out
           have ka1 := cell_of_row _ _ 1 _ _ _ HA3'.out
           clear hw3)
        | (go_at_call 35
           refine (HROOM.out _).mono ?_
           rintro e w4 ⟨rfl, hs4⟩
           have HA4 := Lib.hid ((hs4.block _ (lt_of_block HA3'.out) (fun x => x)).trans HA3'.out)
           have HB4 := Lib.hid ((hs4.block _ (lt_of_block HB3'.out) (fun x => x)).trans HB3'.out)
           have HS4 := Lib.hid (HS3'.out.trans hs4)
           have kd0 := cell_of_row w4 _ 0 _ _ _ HA4.out
           have kd1 := cell_of_row w4 _ 1 _ _ _ HA4.out
           have ke0 := cell_of_row w4 _ 0 _ _ _ HB4.out
           have ke1 := cell_of_row w4 _ 1 _ _ _ HB4.out
           have ke2 := cell_of_row w4 _ 2 _ _ _ HB4.out
           have klt4 := lt_of_block HA4.out
           have klt5 := lt_of_block HB4.out
           clear hs4))
      go_ret
      exact ⟨rfl, HD.out.stay HS4.out (fun x => x) (fun x => x) (fun x => x), HS4.out.mono (fun _ x => x.elim)⟩
    · have hplace := fun W => place_any f s false W f0 (by omega) s3 (by omega)
      unfold areaV at hplace
      obtain ⟨_, hp2, hp3, _⟩ := place_in (m := 0) (b := false) f0 s3 fn hn2 (Nat.zero_le _)
      have hwr := fun W (hW : Stay (fun _ => False) w W) => write_txt W pd ps pm d (placeI f s false) _ l (h.stay hW (fun x => x) (fun x => x) (fun x => x)) (hok.mono (by omega)) (hx.stay hW (fun _ _ x => x.elim)) (by omega) (by omega) (by omega)
      have hok1 := wrAll_ok hok (placeI f s false) l
      have hpl : parts l.length ≤ 16385 := by unfold parts; omega
      have hok2 : DOk (wrAllD d (placeI f s false) l).1 4611686018426387903 := hok1.mono (by omega)
      have HOK2 := Lib.hid hok2
      obtain ⟨r1, hr1⟩ : ∃ r1, r1 = (wrAllD d (placeI f s false) l) := ⟨_, rfl⟩
      have e1 : saveD d f s l = if r1.2 ≠ 0 then r1 else wrAllD r1.1 f (tellB 1 false l.length) := by rw [e0, if_neg hlong, hr1]; rfl
      rw [← hr1] at hwr HOK2
      obtain ⟨pl, hpl2⟩ : ∃ pl, pl = placeI f s false := ⟨_, rfl⟩
      rw [← hpl2] at hwr hplace
      have HPL := Lib.hid hplace
      have HTL := Lib.hid (length_tellB 1 false l.length)
      rw [e1]
      have hlen3 : (l.length : Int) ≤ 1048576 := by omega
      have HLAY := Lib.hid (fun W => telllay_any 1 l.length false W (by omega) (by omega))
      by_cases hw0 : r1.2 = 0
      · rw [hw0] at hwr
        simp only [errV_zero] at hwr
        have e2 : (if r1.2 ≠ 0 then r1 else wrAllD r1.1 f (tellB 1 false l.length)) = wrAllD r1.1 f (tellB 1 false l.length) := if_neg (by omega)
        rw [e2]
        have HWR := Lib.hid hwr
        obtain ⟨r2, hr2⟩ : ∃ r2, r2 = wrAllD r1.1 f (tellB 1 false l.length) := ⟨_, rfl⟩
        rw [← hr2]
        have HR2 := Lib.hid hr2
        clear hask his hroom h hx hok hob e0 e1 e2 hrm hroom1 hib hplace hwr hok1 hok2 hr1 hr2 hpl2 hp2 hp3 hw0 
        go_enter Tryz.func17, Tryz.ntmps17
        go_wp2_with (first
          | (go_at_call 33
             refine (HASK.out _ (Stay.alloc _ _)).mono ?_
             rintro e w2 ⟨rfl, hs2⟩
             have HA2 := Lib.hid ((hs2.block _ (by simp) (fun x => x)).trans (heap_alloc_new w (.cells #[.int .i64 f, .int .i64 s] 36)))
             have HS2 := Lib.hid ((Stay.alloc w _).trans hs2)
             have HNE := Lib.hid (Nat.ne_of_lt (lt_of_block HA2.out))
             clear hs2)
          | (go_at_call 34
             refine (HIS.out _).mono ?_
             rintro e w3 ⟨rfl, hw3⟩
             have HB3 := Lib.hid (show w3.heap[w2.heap.size]? = some (.cells #[.int .u64 0, .bool false, .int .i64 0] 77 (0, 0)) by rw [hw3]; exact heap_alloc_new w2 _)
             have HA3 := Lib.hid (show w3.heap[w.heap.size]? = some (.cells #[.int .i64 f, .int .i64 s] 36 (0, 0)) by rw [hw3, Below.heap_alloc _ _ _ (lt_of_block HA2.out)]; exact HA2.out)
             have HS3 := Lib.hid (show Stay (fun _ => False) w w3 by rw [hw3]; exact HS2.out.trans (Stay.alloc _ _))
             have HB3' := Lib.hid (three_set (v0 := .int .u64 0) (v1 := .bool true) (v2 := .int .i64 0) HB3.out)
             have HS3' := Lib.hid (three_stay (v0 := .int .u64 0) (v1 := .bool true) (v2 := .int .i64 0) HS3.out HS2.out.size)
             have HA3' := Lib.hid (((three_other w3 w2.heap.size (.int .u64 0) (.bool true) (.int .i64 0)).block _ (lt_of_block HA3.out) HNE.out).trans HA3.out)
             have kc0 := cell_of_row w3 _ 0 _ _ _ HB3.out
             have kc1 := cell_of_row w3 _ 1 _ _ _ HB3.out
             have kc2 := cell_of_row w3 _ 2 _ _ _ HB3.out
             have kfz := fun j => frozen_of_row w3 _ j _ _ HB3.out
             have ka0 := cell_of_row _ _ 0 _ _ _ HA3'.out
             have ka1 := cell_of_row _ _ 1 _ _ _ HA3'.out
             clear hw3)
          | (go_at_call 35
             refine (HROOM.out _).mono ?_
             rintro e w4 ⟨rfl, hs4⟩
             have HA4 := Lib.hid ((hs4.block _ (lt_of_block HA3'.out) (fun x => x)).trans HA3'.out)
             have HB4 := Lib.hid ((hs4.block _ (lt_of_block HB3'.out) (fun x => x)).trans HB3'.out)
             have HS4 := Lib.hid (HS3'.out.trans hs4)
             have kd0 := cell_of_row w4 _ 0 _ _ _ HA4.out
             have kd1 := cell_of_row w4 _ 1 _ _ _ HA4.out
             have ke0 := cell_of_row w4 _ 0 _ _ _ HB4.out
             have ke1 := cell_of_row w4 _ 1 _ _ _ HB4.out
             have ke2 := cell_of_row w4 _ 2 _ _ _ HB4.out
             have klt4 := lt_of_block HA4.out
             have klt5 := lt_of_block HB4.out
             clear hs4)
          | (go_at_call 37
             refine (HPL.out _).mono ?_
             rintro e w5 ⟨rfl, hs5⟩
             have HS5 := Lib.hid ((HS4.out.trans (Stay.alloc _ _)).trans hs5)
             have HA5 := Lib.hid ((hs5.block _ (by simp; omega) (fun x => x)).trans ((Below.heap_alloc _ _ _ klt4).trans HA4.out))
             have HC5 := Lib.hid ((hs5.block _ (by simp) (fun x => x)).trans (heap_alloc_new w4 _))
             have kg0 := cell_of_row w5 _ 0 _ _ _ HA5.out
             have kh0 := cell_of_row w5 _ 0 _ _ _ HC5.out
             clear hs5)
          | (go_at_call 36
             refine (HWR.out _ HS5.out).mono ?_
             rintro e w6 ⟨rfl, hd6, hs6⟩
             have HA6 := Lib.hid ((hs6.block _ (lt_of_block HA5.out) (fun q => absurd (HOB.out _ q) (Nat.lt_irrefl _))).trans HA5.out)
             have HC6 := Lib.hid ((hs6.block _ (lt_of_block HC5.out) (fun q => absurd (Nat.lt_of_lt_of_le (HOB.out _ q) HS4.out.size) (Nat.lt_irrefl _))).trans HC5.out)
             have HD6 := Lib.hid hd6
             have HS6 := Lib.hid (show Stay (own pd ps pm) w w6 from (HS5.out.mono (fun _ x => x.elim)).trans hs6)
             clear hd6 hs6))
        obtain ⟨S, hSd⟩ : ∃ S : World → Prop, S = Stay (own pd ps pm) w6 := ⟨_, rfl⟩
        have HS := Lib.hid (show ∀ W, S W → Stay (own pd ps pm) w6 W by intro W h; rw [hSd] at h; exact h)
        have HSm := Lib.hid (show ∀ W, Stay (own pd ps pm) w6 W → S W by intro W h; rw [hSd]; exact h)
        have HS0 := Lib.hid (HSm.out w6.drew Stay.drew)
        have hrowA := fun W (h : S W) => ((HS.out W h).block _ (lt_of_block HA6.out) (fun q => absurd (HOB.out _ q) (Nat.lt_irrefl _))).trans HA6.out
        have hrowC := fun W (h : S W) => ((HS.out W h).block _ (lt_of_block HC6.out) (fun q => absurd (Nat.lt_of_lt_of_le (HOB.out _ q) HS4.out.size) (Nat.lt_irrefl _))).trans HC6.out
        have HU0 := Lib.hid (fun W (h : S W) => cell_of_row W _ 0 _ _ _ (hrowA W h))
        have HV0 := Lib.hid (fun W (h : S W) => cell_of_row W _ 0 _ _ _ (hrowC W h))
        have HV1 := Lib.hid (fun W (h : S W) => cell_of_row W _ 1 _ _ _ (hrowC W h))
        have HV2 := Lib.hid (fun W (h : S W) => cell_of_row W _ 2 _ _ _ (hrowC W h))
        clear hSd hrowA hrowC
        refine wp_region_held (S := S) (by kernel_rfl) ?_
        change wpAnyH _ _ _ _ _ _ _ _ (World.drew _)
        refine wpAnyH_takeL (i := 0) (v := .pointer (some ⟨pd, 0, none⟩)) #[true, false, false, false, false, false, false] rfl (by kernel_rfl) (by kernel_rfl) (by kernel_rfl) (fun _ _ _ h => h) (by kernel_rfl) HS0.out (Or.inl ⟨by rfl, fun W hW => ?_⟩) ?_
        · go_simp
        conv =>
          arg 8
          simp [Act.put]
        refine wpAnyH_takeL (i := 1) (v := .pointer (some ⟨w.heap.size, 0, none⟩)) #[true, true, false, false, false, false, false] rfl (by kernel_rfl) (by kernel_rfl) (by kernel_rfl) (fun _ _ _ h => h) (by kernel_rfl) HS0.out (Or.inl ⟨by rfl, fun W hW => ?_⟩) ?_
        · go_simp
        conv =>
          arg 8
          simp [Act.put]
        refine wpAnyH_takeL (i := 2) (v := .int .i64 f) #[true, true, true, false, false, false, false] rfl (by kernel_rfl) (by kernel_rfl) (by kernel_rfl) (fun _ _ _ h => h) (by kernel_rfl) HS0.out (Or.inl ⟨by rfl, fun W hW => ?_⟩) ?_
        · have k0 := HU0.out W hW
          go_simp
        conv =>
          arg 8
          simp [Act.put]
        refine wpAnyH_takeL (i := 3) (v := .agg #[.int .u64 1, .bool false, .int .i64 (l.length : Int)]) #[true, true, true, true, false, false, false] rfl (by kernel_rfl) (by kernel_rfl) (by kernel_rfl) (fun _ _ _ h => h) (by kernel_rfl) HS0.out (Or.inl ⟨by rfl, fun W hW => ?_⟩) ?_
        · have k0 := HV0.out W hW
          have k1 := HV1.out W hW
          have k2 := HV2.out W hW
          go_simp
        conv =>
          arg 8
          simp [Act.put]
        refine wpAnyH_one #[true, true, true, true, true, false, false] (i := 4) rfl (by kernel_rfl) (by kernel_rfl) (fun K hK => ?_)
        go_simp
        go_wp2_with (
          go_at_call 38
          refine (HLAY.out _).mono ?_
          rintro e w7 ⟨v7, rfl, ho7, hs7⟩
          have HS7 := Lib.hid ((Stay.drew (X := fun _ => False) (w := w6)).trans hs7)
          have HX7 := Lib.hid (show Txt w7 pd ps pm v7 (tellB 1 false l.length) from ⟨ho7.slc, fun _ k hk hq => absurd (Nat.lt_of_lt_of_le (HOB.out _ hq) (Nat.le_trans HS6.out.size (ho7.lt k hk).1)) (Nat.lt_irrefl _)⟩)
          clear ho7 hs7)
        refine hK _ _ ?_ ?_
        · exact HSm.out _ (HS7.out.mono (fun _ x => x.elim))
        conv =>
          arg 8
          simp [Act.put]
        refine wpAnyH_one #[true, true, true, true, true, true, false] (i := 5) rfl (by kernel_rfl) (by kernel_rfl) (fun K hK => ?_)
        go_simp
        go_wp2_with (
          go_at_call 36
          refine (write_txt w7 pd ps pm r1.1 f v7 _ (HD6.out.stay HS7.out (fun x => x) (fun x => x) (fun x => x)) HOK2.out HX7.out f0 (by omega) (Nat.le_trans HTL.out (by decide))).mono ?_
          rintro e w8 ⟨rfl, hd8, hs8⟩
          rw [← HR2.out] at hd8 ⊢
          have HD8 := Lib.hid hd8
          have HS8 := Lib.hid ((HS7.out.mono (Y := own pd ps pm) (fun _ x => x.elim)).trans hs8)
          clear hd8 hs8)
        refine hK _ _ ?_ ?_
        · exact HSm.out _ HS8.out
        conv =>
          arg 8
          simp [Act.put]
        refine wpAnyH_takeL (i := 6) (v := errV r2.2) #[true, true, true, true, true, true, true] rfl (by kernel_rfl) (by kernel_rfl) (by kernel_rfl) (fun _ _ _ h => h) (by kernel_rfl) (HSm.out _ HS8.out) (Or.inl ⟨by rfl, fun W hW => ?_⟩) ?_
        · go_simp
        conv =>
          arg 8
          simp [Act.put]
        refine wpAnyH_done (by kernel_rfl) ?_ _
        go_wp2
        go_ret
        exact ⟨rfl, HD8.out, HS6.out.trans HS8.out⟩
      · have hev := errV_pos hw0
        rw [hev] at hwr
        unfold errI at hwr
        have e2 : (if r1.2 ≠ 0 then r1 else wrAllD r1.1 f (tellB 1 false l.length)) = r1 := if_pos hw0
        rw [e2, hev]
        unfold errI
        have HWR := Lib.hid hwr
        clear hask his hroom h hx hok hob e0 e1 e2 hrm hroom1 hib hplace hwr hok1 hok2 hr1 hpl2 hp2 hp3 hw0 hev 
        go_enter Tryz.func17, Tryz.ntmps17
        go_wp2_with (first
          | (go_at_call 33
             refine (HASK.out _ (Stay.alloc _ _)).mono ?_
             rintro e w2 ⟨rfl, hs2⟩
             have HA2 := Lib.hid ((hs2.block _ (by simp) (fun x => x)).trans (heap_alloc_new w (.cells #[.int .i64 f, .int .i64 s] 36)))
             have HS2 := Lib.hid ((Stay.alloc w _).trans hs2)
             have HNE := Lib.hid (Nat.ne_of_lt (lt_of_block HA2.out))
             clear hs2)
          | (go_at_call 34
             refine (HIS.out _).mono ?_
             rintro e w3 ⟨rfl, hw3⟩
             have HB3 := Lib.hid (show w3.heap[w2.heap.size]? = some (.cells #[.int .u64 0, .bool false, .int .i64 0] 77 (0, 0)) by rw [hw3]; exact heap_alloc_new w2 _)
             have HA3 := Lib.hid (show w3.heap[w.heap.size]? = some (.cells #[.int .i64 f, .int .i64 s] 36 (0, 0)) by rw [hw3, Below.heap_alloc _ _ _ (lt_of_block HA2.out)]; exact HA2.out)
             have HS3 := Lib.hid (show Stay (fun _ => False) w w3 by rw [hw3]; exact HS2.out.trans (Stay.alloc _ _))
             have HB3' := Lib.hid (three_set (v0 := .int .u64 0) (v1 := .bool true) (v2 := .int .i64 0) HB3.out)
             have HS3' := Lib.hid (three_stay (v0 := .int .u64 0) (v1 := .bool true) (v2 := .int .i64 0) HS3.out HS2.out.size)
             have HA3' := Lib.hid (((three_other w3 w2.heap.size (.int .u64 0) (.bool true) (.int .i64 0)).block _ (lt_of_block HA3.out) HNE.out).trans HA3.out)
             have kc0 := cell_of_row w3 _ 0 _ _ _ HB3.out
             have kc1 := cell_of_row w3 _ 1 _ _ _ HB3.out
             have kc2 := cell_of_row w3 _ 2 _ _ _ HB3.out
             have kfz := fun j => frozen_of_row w3 _ j _ _ HB3.out
             have ka0 := cell_of_row _ _ 0 _ _ _ HA3'.out
             have ka1 := cell_of_row _ _ 1 _ _ _ HA3'.out
             clear hw3)
          | (go_at_call 35
             refine (HROOM.out _).mono ?_
             rintro e w4 ⟨rfl, hs4⟩
             have HA4 := Lib.hid ((hs4.block _ (lt_of_block HA3'.out) (fun x => x)).trans HA3'.out)
             have HB4 := Lib.hid ((hs4.block _ (lt_of_block HB3'.out) (fun x => x)).trans HB3'.out)
             have HS4 := Lib.hid (HS3'.out.trans hs4)
             have kd0 := cell_of_row w4 _ 0 _ _ _ HA4.out
             have kd1 := cell_of_row w4 _ 1 _ _ _ HA4.out
             have ke0 := cell_of_row w4 _ 0 _ _ _ HB4.out
             have ke1 := cell_of_row w4 _ 1 _ _ _ HB4.out
             have ke2 := cell_of_row w4 _ 2 _ _ _ HB4.out
             have klt4 := lt_of_block HA4.out
             have klt5 := lt_of_block HB4.out
             clear hs4)
          | (go_at_call 37
             refine (HPL.out _).mono ?_
             rintro e w5 ⟨rfl, hs5⟩
             have HS5 := Lib.hid ((HS4.out.trans (Stay.alloc _ _)).trans hs5)
             have HA5 := Lib.hid ((hs5.block _ (by simp; omega) (fun x => x)).trans ((Below.heap_alloc _ _ _ klt4).trans HA4.out))
             have HC5 := Lib.hid ((hs5.block _ (by simp) (fun x => x)).trans (heap_alloc_new w4 _))
             have kg0 := cell_of_row w5 _ 0 _ _ _ HA5.out
             have kh0 := cell_of_row w5 _ 0 _ _ _ HC5.out
             clear hs5)
          | (go_at_call 36
             refine (HWR.out _ HS5.out).mono ?_
             rintro e w6 ⟨rfl, hd6, hs6⟩
             have HA6 := Lib.hid ((hs6.block _ (lt_of_block HA5.out) (fun q => absurd (HOB.out _ q) (Nat.lt_irrefl _))).trans HA5.out)
             have HC6 := Lib.hid ((hs6.block _ (lt_of_block HC5.out) (fun q => absurd (Nat.lt_of_lt_of_le (HOB.out _ q) HS4.out.size) (Nat.lt_irrefl _))).trans HC5.out)
             have HD6 := Lib.hid hd6
             have HS6 := Lib.hid (show Stay (own pd ps pm) w w6 from (HS5.out.mono (fun _ x => x.elim)).trans hs6)
             clear hd6 hs6))
        go_ret
        exact ⟨rfl, HD6.out, HS6.out⟩
  · -- there is one
    have hc : (askD d f s).2 = 0 := by omega
    obtain ⟨tn, tb, tm, hT⟩ : ∃ tn tb tm, askD d f s = ((tn, tb, tm), 0) := ⟨(askD d f s).1.1, (askD d f s).1.2.1, (askD d f s).1.2.2, by rw [← hc]⟩
    obtain ⟨hib, _, _, htn, _⟩ := ask_ok hT
    have htn2 : (tn : Int) ≤ 18446744073709551614 := by unfold topN at htn; omega
    obtain ⟨f0, s3, fn⟩ := inB_spec (by rw [hib]; simp : ¬ inB f s d.n = false)
    have e0 : saveD d f s l = if roomI s < (l.length : Int) then (d, 2) else saveAt d f s l tn tb := by
      unfold saveD
      rw [hT]
      simp
    rw [hT] at hask
    simp only [errV_zero] at hask
    have his := fun W => is_nil 8 W
    unfold areaV at hask hroom ⊢
    unfold tellW at hask
    have HASK := Lib.hid hask
    have HIS := Lib.hid his
    have hroom1 : roomI s = 64 * ((s - 1) / 2) := if_neg (by omega)
    obtain ⟨rm, hrm, hrm0, hrm1⟩ : ∃ rm : Int, roomI s = rm ∧ 0 ≤ rm ∧ rm ≤ 1048576 := ⟨_, rfl, by omega, by omega⟩
    rw [hrm] at hroom e0
    have HROOM := Lib.hid hroom
    by_cases hlong : rm < (l.length : Int)
    · have e1 : saveD d f s l = (d, 2) := by rw [e0, if_pos hlong]
      have e2 : errV 2 = .iface 65 (.int .i64 2) := rfl
      rw [e1]
      simp only [e2]
      clear hask his hroom h hx hok hob e0 e1 e2 hrm hroom1 hib
      go_enter Tryz.func17, Tryz.ntmps17
      go_wp2_with (first
        | (go_at_call 33
           refine (HASK.out _ (Stay.alloc _ _)).mono ?_
           rintro e w2 ⟨rfl, hs2⟩
           have HA2 := Lib.hid ((hs2.block _ (by simp) (fun x => x)).trans (heap_alloc_new w (.cells #[.int .i64 f, .int .i64 s] 36)))
           have HS2 := Lib.hid ((Stay.alloc w _).trans hs2)
           have HNE := Lib.hid (Nat.ne_of_lt (lt_of_block HA2.out))
           clear hs2)
        | (go_at_call 34
           refine (HIS.out _).mono ?_
           rintro e w3 ⟨rfl, hw3⟩
           have HB3 := Lib.hid (show w3.heap[w2.heap.size]? = some (.cells #[.int .u64 (tn : Int), .bool tb, .int .i64 (tm : Int)] 77 (0, 0)) by rw [hw3]; exact heap_alloc_new w2 _)
           have HA3 := Lib.hid (show w3.heap[w.heap.size]? = some (.cells #[.int .i64 f, .int .i64 s] 36 (0, 0)) by rw [hw3, Below.heap_alloc _ _ _ (lt_of_block HA2.out)]; exact HA2.out)
           have HS3 := Lib.hid (show Stay (fun _ => False) w w3 by rw [hw3]; exact HS2.out.trans (Stay.alloc _ _))
           have HB3' := HB3
           have HS3' := HS3
           have HA3' := HA3
           have ka0 := cell_of_row w3 _ 0 _ _ _ HA3.out
           have ka1 := cell_of_row w3 _ 1 _ _ _ HA3.out
           clear hw3)
        | (go_at_call 35
           refine (HROOM.out _).mono ?_
           rintro e w4 ⟨rfl, hs4⟩
           have HA4 := Lib.hid ((hs4.block _ (lt_of_block HA3'.out) (fun x => x)).trans HA3'.out)
           have HB4 := Lib.hid ((hs4.block _ (lt_of_block HB3'.out) (fun x => x)).trans HB3'.out)
           have HS4 := Lib.hid (HS3'.out.trans hs4)
           have kd0 := cell_of_row w4 _ 0 _ _ _ HA4.out
           have kd1 := cell_of_row w4 _ 1 _ _ _ HA4.out
           have ke0 := cell_of_row w4 _ 0 _ _ _ HB4.out
           have ke1 := cell_of_row w4 _ 1 _ _ _ HB4.out
           have ke2 := cell_of_row w4 _ 2 _ _ _ HB4.out
           have klt4 := lt_of_block HA4.out
           have klt5 := lt_of_block HB4.out
           clear hs4))
      go_ret
      exact ⟨rfl, HD.out.stay HS4.out (fun x => x) (fun x => x) (fun x => x), HS4.out.mono (fun _ x => x.elim)⟩
    · have hplace := fun W => place_any f s (!tb) W f0 (by omega) s3 (by omega)
      unfold areaV at hplace
      obtain ⟨_, hp2, hp3, _⟩ := place_in (m := 0) (b := (!tb)) f0 s3 fn hn2 (Nat.zero_le _)
      have hwr := fun W (hW : Stay (fun _ => False) w W) => write_txt W pd ps pm d (placeI f s (!tb)) _ l (h.stay hW (fun x => x) (fun x => x) (fun x => x)) (hok.mono (by omega)) (hx.stay hW (fun _ _ x => x.elim)) (by omega) (by omega) (by omega)
      have hok1 := wrAll_ok hok (placeI f s (!tb)) l
      have hpl : parts l.length ≤ 16385 := by unfold parts; omega
      have hok2 : DOk (wrAllD d (placeI f s (!tb)) l).1 4611686018426387903 := hok1.mono (by omega)
      have HOK2 := Lib.hid hok2
      obtain ⟨r1, hr1⟩ : ∃ r1, r1 = (wrAllD d (placeI f s (!tb)) l) := ⟨_, rfl⟩
      have e1 : saveD d f s l = if r1.2 ≠ 0 then r1 else wrAllD r1.1 f (tellB (tn + 1) (!tb) l.length) := by rw [e0, if_neg hlong, hr1]; rfl
      rw [← hr1] at hwr HOK2
      obtain ⟨pl, hpl2⟩ : ∃ pl, pl = placeI f s (!tb) := ⟨_, rfl⟩
      rw [← hpl2] at hwr hplace
      have HPL := Lib.hid hplace
      have HTL := Lib.hid (length_tellB (tn + 1) (!tb) l.length)
      rw [e1]
      have hlen3 : (l.length : Int) ≤ 1048576 := by omega
      have HLAY := Lib.hid (fun W => telllay_any (tn + 1) l.length (!tb) W (by omega) (by omega))
      by_cases hw0 : r1.2 = 0
      · rw [hw0] at hwr
        simp only [errV_zero] at hwr
        have e2 : (if r1.2 ≠ 0 then r1 else wrAllD r1.1 f (tellB (tn + 1) (!tb) l.length)) = wrAllD r1.1 f (tellB (tn + 1) (!tb) l.length) := if_neg (by omega)
        rw [e2]
        have HWR := Lib.hid hwr
        obtain ⟨r2, hr2⟩ : ∃ r2, r2 = wrAllD r1.1 f (tellB (tn + 1) (!tb) l.length) := ⟨_, rfl⟩
        rw [← hr2]
        have HR2 := Lib.hid hr2
        clear hask his hroom h hx hok hob e0 e1 e2 hrm hroom1 hib hplace hwr hok1 hok2 hr1 hr2 hpl2 hp2 hp3 hw0 htn
        go_enter Tryz.func17, Tryz.ntmps17
        go_wp2_with (first
          | (go_at_call 33
             refine (HASK.out _ (Stay.alloc _ _)).mono ?_
             rintro e w2 ⟨rfl, hs2⟩
             have HA2 := Lib.hid ((hs2.block _ (by simp) (fun x => x)).trans (heap_alloc_new w (.cells #[.int .i64 f, .int .i64 s] 36)))
             have HS2 := Lib.hid ((Stay.alloc w _).trans hs2)
             have HNE := Lib.hid (Nat.ne_of_lt (lt_of_block HA2.out))
             clear hs2)
          | (go_at_call 34
             refine (HIS.out _).mono ?_
             rintro e w3 ⟨rfl, hw3⟩
             have HB3 := Lib.hid (show w3.heap[w2.heap.size]? = some (.cells #[.int .u64 (tn : Int), .bool tb, .int .i64 (tm : Int)] 77 (0, 0)) by rw [hw3]; exact heap_alloc_new w2 _)
             have HA3 := Lib.hid (show w3.heap[w.heap.size]? = some (.cells #[.int .i64 f, .int .i64 s] 36 (0, 0)) by rw [hw3, Below.heap_alloc _ _ _ (lt_of_block HA2.out)]; exact HA2.out)
             have HS3 := Lib.hid (show Stay (fun _ => False) w w3 by rw [hw3]; exact HS2.out.trans (Stay.alloc _ _))
             have HB3' := HB3
             have HS3' := HS3
             have HA3' := HA3
             have ka0 := cell_of_row w3 _ 0 _ _ _ HA3.out
             have ka1 := cell_of_row w3 _ 1 _ _ _ HA3.out
             clear hw3)
          | (go_at_call 35
             refine (HROOM.out _).mono ?_
             rintro e w4 ⟨rfl, hs4⟩
             have HA4 := Lib.hid ((hs4.block _ (lt_of_block HA3'.out) (fun x => x)).trans HA3'.out)
             have HB4 := Lib.hid ((hs4.block _ (lt_of_block HB3'.out) (fun x => x)).trans HB3'.out)
             have HS4 := Lib.hid (HS3'.out.trans hs4)
             have kd0 := cell_of_row w4 _ 0 _ _ _ HA4.out
             have kd1 := cell_of_row w4 _ 1 _ _ _ HA4.out
             have ke0 := cell_of_row w4 _ 0 _ _ _ HB4.out
             have ke1 := cell_of_row w4 _ 1 _ _ _ HB4.out
             have ke2 := cell_of_row w4 _ 2 _ _ _ HB4.out
             have klt4 := lt_of_block HA4.out
             have klt5 := lt_of_block HB4.out
             clear hs4)
          | (go_at_call 37
             refine (HPL.out _).mono ?_
             rintro e w5 ⟨rfl, hs5⟩
             have HS5 := Lib.hid ((HS4.out.trans (Stay.alloc _ _)).trans hs5)
             have HA5 := Lib.hid ((hs5.block _ (by simp; omega) (fun x => x)).trans ((Below.heap_alloc _ _ _ klt4).trans HA4.out))
             have HC5 := Lib.hid ((hs5.block _ (by simp) (fun x => x)).trans (heap_alloc_new w4 _))
             have kg0 := cell_of_row w5 _ 0 _ _ _ HA5.out
             have kh0 := cell_of_row w5 _ 0 _ _ _ HC5.out
             clear hs5)
          | (go_at_call 36
             refine (HWR.out _ HS5.out).mono ?_
             rintro e w6 ⟨rfl, hd6, hs6⟩
             have HA6 := Lib.hid ((hs6.block _ (lt_of_block HA5.out) (fun q => absurd (HOB.out _ q) (Nat.lt_irrefl _))).trans HA5.out)
             have HC6 := Lib.hid ((hs6.block _ (lt_of_block HC5.out) (fun q => absurd (Nat.lt_of_lt_of_le (HOB.out _ q) HS4.out.size) (Nat.lt_irrefl _))).trans HC5.out)
             have HD6 := Lib.hid hd6
             have HS6 := Lib.hid (show Stay (own pd ps pm) w w6 from (HS5.out.mono (fun _ x => x.elim)).trans hs6)
             clear hd6 hs6))
        obtain ⟨S, hSd⟩ : ∃ S : World → Prop, S = Stay (own pd ps pm) w6 := ⟨_, rfl⟩
        have HS := Lib.hid (show ∀ W, S W → Stay (own pd ps pm) w6 W by intro W h; rw [hSd] at h; exact h)
        have HSm := Lib.hid (show ∀ W, Stay (own pd ps pm) w6 W → S W by intro W h; rw [hSd]; exact h)
        have HS0 := Lib.hid (HSm.out w6.drew Stay.drew)
        have hrowA := fun W (h : S W) => ((HS.out W h).block _ (lt_of_block HA6.out) (fun q => absurd (HOB.out _ q) (Nat.lt_irrefl _))).trans HA6.out
        have hrowC := fun W (h : S W) => ((HS.out W h).block _ (lt_of_block HC6.out) (fun q => absurd (Nat.lt_of_lt_of_le (HOB.out _ q) HS4.out.size) (Nat.lt_irrefl _))).trans HC6.out
        have HU0 := Lib.hid (fun W (h : S W) => cell_of_row W _ 0 _ _ _ (hrowA W h))
        have HV0 := Lib.hid (fun W (h : S W) => cell_of_row W _ 0 _ _ _ (hrowC W h))
        have HV1 := Lib.hid (fun W (h : S W) => cell_of_row W _ 1 _ _ _ (hrowC W h))
        have HV2 := Lib.hid (fun W (h : S W) => cell_of_row W _ 2 _ _ _ (hrowC W h))
        clear hSd hrowA hrowC
        refine wp_region_held (S := S) (by kernel_rfl) ?_
        change wpAnyH _ _ _ _ _ _ _ _ (World.drew _)
        refine wpAnyH_takeL (i := 0) (v := .pointer (some ⟨pd, 0, none⟩)) #[true, false, false, false, false, false, false] rfl (by kernel_rfl) (by kernel_rfl) (by kernel_rfl) (fun _ _ _ h => h) (by kernel_rfl) HS0.out (Or.inl ⟨by rfl, fun W hW => ?_⟩) ?_
        · go_simp
        conv =>
          arg 8
          simp [Act.put]
        refine wpAnyH_takeL (i := 1) (v := .pointer (some ⟨w.heap.size, 0, none⟩)) #[true, true, false, false, false, false, false] rfl (by kernel_rfl) (by kernel_rfl) (by kernel_rfl) (fun _ _ _ h => h) (by kernel_rfl) HS0.out (Or.inl ⟨by rfl, fun W hW => ?_⟩) ?_
        · go_simp
        conv =>
          arg 8
          simp [Act.put]
        refine wpAnyH_takeL (i := 2) (v := .int .i64 f) #[true, true, true, false, false, false, false] rfl (by kernel_rfl) (by kernel_rfl) (by kernel_rfl) (fun _ _ _ h => h) (by kernel_rfl) HS0.out (Or.inl ⟨by rfl, fun W hW => ?_⟩) ?_
        · have k0 := HU0.out W hW
          go_simp
        conv =>
          arg 8
          simp [Act.put]
        refine wpAnyH_takeL (i := 3) (v := .agg #[.int .u64 ((tn : Int) + 1), .bool (!tb), .int .i64 (l.length : Int)]) #[true, true, true, true, false, false, false] rfl (by kernel_rfl) (by kernel_rfl) (by kernel_rfl) (fun _ _ _ h => h) (by kernel_rfl) HS0.out (Or.inl ⟨by rfl, fun W hW => ?_⟩) ?_
        · have k0 := HV0.out W hW
          have k1 := HV1.out W hW
          have k2 := HV2.out W hW
          go_simp
        conv =>
          arg 8
          simp [Act.put]
        refine wpAnyH_one #[true, true, true, true, true, false, false] (i := 4) rfl (by kernel_rfl) (by kernel_rfl) (fun K hK => ?_)
        go_simp
        go_wp2_with (
          go_at_call 38
          refine (HLAY.out _).mono ?_
          rintro e w7 ⟨v7, rfl, ho7, hs7⟩
          have HS7 := Lib.hid ((Stay.drew (X := fun _ => False) (w := w6)).trans hs7)
          have HX7 := Lib.hid (show Txt w7 pd ps pm v7 (tellB (tn + 1) (!tb) l.length) from ⟨ho7.slc, fun _ k hk hq => absurd (Nat.lt_of_lt_of_le (HOB.out _ hq) (Nat.le_trans HS6.out.size (ho7.lt k hk).1)) (Nat.lt_irrefl _)⟩)
          clear ho7 hs7)
        refine hK _ _ ?_ ?_
        · exact HSm.out _ (HS7.out.mono (fun _ x => x.elim))
        conv =>
          arg 8
          simp [Act.put]
        refine wpAnyH_one #[true, true, true, true, true, true, false] (i := 5) rfl (by kernel_rfl) (by kernel_rfl) (fun K hK => ?_)
        go_simp
        go_wp2_with (
          go_at_call 36
          refine (write_txt w7 pd ps pm r1.1 f v7 _ (HD6.out.stay HS7.out (fun x => x) (fun x => x) (fun x => x)) HOK2.out HX7.out f0 (by omega) (Nat.le_trans HTL.out (by decide))).mono ?_
          rintro e w8 ⟨rfl, hd8, hs8⟩
          rw [← HR2.out] at hd8 ⊢
          have HD8 := Lib.hid hd8
          have HS8 := Lib.hid ((HS7.out.mono (Y := own pd ps pm) (fun _ x => x.elim)).trans hs8)
          clear hd8 hs8)
        refine hK _ _ ?_ ?_
        · exact HSm.out _ HS8.out
        conv =>
          arg 8
          simp [Act.put]
        refine wpAnyH_takeL (i := 6) (v := errV r2.2) #[true, true, true, true, true, true, true] rfl (by kernel_rfl) (by kernel_rfl) (by kernel_rfl) (fun _ _ _ h => h) (by kernel_rfl) (HSm.out _ HS8.out) (Or.inl ⟨by rfl, fun W hW => ?_⟩) ?_
        · go_simp
        conv =>
          arg 8
          simp [Act.put]
        refine wpAnyH_done (by kernel_rfl) ?_ _
        go_wp2
        go_ret
        exact ⟨rfl, HD8.out, HS6.out.trans HS8.out⟩
      · have hev := errV_pos hw0
        rw [hev] at hwr
        unfold errI at hwr
        have e2 : (if r1.2 ≠ 0 then r1 else wrAllD r1.1 f (tellB (tn + 1) (!tb) l.length)) = r1 := if_pos hw0
        rw [e2, hev]
        unfold errI
        have HWR := Lib.hid hwr
        clear hask his hroom h hx hok hob e0 e1 e2 hrm hroom1 hib hplace hwr hok1 hok2 hr1 hpl2 hp2 hp3 hw0 hev htn
        go_enter Tryz.func17, Tryz.ntmps17
        go_wp2_with (first
          | (go_at_call 33
             refine (HASK.out _ (Stay.alloc _ _)).mono ?_
             rintro e w2 ⟨rfl, hs2⟩
             have HA2 := Lib.hid ((hs2.block _ (by simp) (fun x => x)).trans (heap_alloc_new w (.cells #[.int .i64 f, .int .i64 s] 36)))
             have HS2 := Lib.hid ((Stay.alloc w _).trans hs2)
             have HNE := Lib.hid (Nat.ne_of_lt (lt_of_block HA2.out))
             clear hs2)
          | (go_at_call 34
             refine (HIS.out _).mono ?_
             rintro e w3 ⟨rfl, hw3⟩
             have HB3 := Lib.hid (show w3.heap[w2.heap.size]? = some (.cells #[.int .u64 (tn : Int), .bool tb, .int .i64 (tm : Int)] 77 (0, 0)) by rw [hw3]; exact heap_alloc_new w2 _)
             have HA3 := Lib.hid (show w3.heap[w.heap.size]? = some (.cells #[.int .i64 f, .int .i64 s] 36 (0, 0)) by rw [hw3, Below.heap_alloc _ _ _ (lt_of_block HA2.out)]; exact HA2.out)
             have HS3 := Lib.hid (show Stay (fun _ => False) w w3 by rw [hw3]; exact HS2.out.trans (Stay.alloc _ _))
             have HB3' := HB3
             have HS3' := HS3
             have HA3' := HA3
             have ka0 := cell_of_row w3 _ 0 _ _ _ HA3.out
             have ka1 := cell_of_row w3 _ 1 _ _ _ HA3.out
             clear hw3)
          | (go_at_call 35
             refine (HROOM.out _).mono ?_
             rintro e w4 ⟨rfl, hs4⟩
             have HA4 := Lib.hid ((hs4.block _ (lt_of_block HA3'.out) (fun x => x)).trans HA3'.out)
             have HB4 := Lib.hid ((hs4.block _ (lt_of_block HB3'.out) (fun x => x)).trans HB3'.out)
             have HS4 := Lib.hid (HS3'.out.trans hs4)
             have kd0 := cell_of_row w4 _ 0 _ _ _ HA4.out
             have kd1 := cell_of_row w4 _ 1 _ _ _ HA4.out
             have ke0 := cell_of_row w4 _ 0 _ _ _ HB4.out
             have ke1 := cell_of_row w4 _ 1 _ _ _ HB4.out
             have ke2 := cell_of_row w4 _ 2 _ _ _ HB4.out
             have klt4 := lt_of_block HA4.out
             have klt5 := lt_of_block HB4.out
             clear hs4)
          | (go_at_call 37
             refine (HPL.out _).mono ?_
             rintro e w5 ⟨rfl, hs5⟩
             have HS5 := Lib.hid ((HS4.out.trans (Stay.alloc _ _)).trans hs5)
             have HA5 := Lib.hid ((hs5.block _ (by simp; omega) (fun x => x)).trans ((Below.heap_alloc _ _ _ klt4).trans HA4.out))
             have HC5 := Lib.hid ((hs5.block _ (by simp) (fun x => x)).trans (heap_alloc_new w4 _))
             have kg0 := cell_of_row w5 _ 0 _ _ _ HA5.out
             have kh0 := cell_of_row w5 _ 0 _ _ _ HC5.out
             clear hs5)
          | (go_at_call 36
             refine (HWR.out _ HS5.out).mono ?_
             rintro e w6 ⟨rfl, hd6, hs6⟩
             have HA6 := Lib.hid ((hs6.block _ (lt_of_block HA5.out) (fun q => absurd (HOB.out _ q) (Nat.lt_irrefl _))).trans HA5.out)
             have HC6 := Lib.hid ((hs6.block _ (lt_of_block HC5.out) (fun q => absurd (Nat.lt_of_lt_of_le (HOB.out _ q) HS4.out.size) (Nat.lt_irrefl _))).trans HC5.out)
             have HD6 := Lib.hid hd6
             have HS6 := Lib.hid (show Stay (own pd ps pm) w w6 from (HS5.out.mono (fun _ x => x.elim)).trans hs6)
             clear hd6 hs6))
        go_ret
        exact ⟨rfl, HD6.out, HS6.out⟩

end Go.Proofs.YtlmaooeeklhelaaGreatDoor.Tg
