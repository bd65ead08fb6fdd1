/-
  toggle: ask: what an area's teller tells.
-/
import Derived.Test.YtlmaooeeklhelaaGreatDoorTgE
import Derived.Test.YtlmaooeeklhelaaGreatDoorTgI
namespace Go.Proofs.YtlmaooeeklhelaaGreatDoor.Tg
open Go.RowKit Pk
set_option maxRecDepth 100000

/-- ask, as a function: the teller, and an error's number. -/
def askD (d : DS) (f s : Int) : (Nat × Bool × Nat) × Nat :=
  if inB f s d.n = false then ((0, false, 0), 1) else if down d = true then ((0, false, 0), 13) else tellD (d.cur f.toNat) (roomI s).toNat

theorem inB_spec {f s : Int} {n : Nat} (h : ¬ inB f s n = false) : 0 ≤ f ∧ 3 ≤ s ∧ f ≤ n - s := by
  simpa [inB] using h

theorem ask_res (tm : Array Value) (w : World) (b : Nat) (n : Int) (bb : Bool) (m : Int) (v : Value) (h4 : tm.getD 4 undef = .pointer (some ⟨b, 0, none⟩)) (h5 : tm.getD 5 undef = v)
    (hb : w.heap[b]? = some (.cells #[.int .u64 n, .bool bb, .int .i64 m] 77 (0, 0))) :
    (results Tryz.f33 tm).run Tryz.prog w = .ok (.tuple #[.agg #[.int .u64 n, .bool bb, .int .i64 m], v]) w := by
  have c0 := cell_of_row w b 0 _ _ _ hb
  have c1 := cell_of_row w b 1 _ _ _ hb
  have c2 := cell_of_row w b 2 _ _ _ hb
  rw [Array.getD_eq_getD_getElem?] at h4 h5
  subst h5
  simp [results, Tryz.results33, go_sem, h4, c0, c1, c2]

set_option maxHeartbeats 2000000 in
theorem ask_any (w : World) (pd ps pm : Nat) (d : DS) (f s : Int) (h : DevAt w pd ps pm d) (hf : I64 f) (hs : I64 s) :
    Calls Tryz.prog 33 #[.pointer (some ⟨pd, 0, none⟩), areaV f s] w fun e w' => e = .returned (.tuple #[tellW (askD d f s).1, errV (askD d f s).2]) ∧ Stay (fun _ => False) w w' := by
  have hn2 := h.n2
  obtain ⟨w1, hw1⟩ : ∃ w1, (w.alloc (.cells #[.int .i64 f, .int .i64 s] 36)).alloc (.cells #[.int .u64 0, .bool false, .int .i64 0] 77) = w1 := ⟨_, rfl⟩
  have hst1 : Stay (fun _ => False) w w1 := hw1 ▸ (Stay.alloc _ _).trans (Stay.alloc _ _)
  have hz1 : w1.heap.size = w.heap.size + 1 + 1 := by subst hw1; simp
  have hba : w1.heap[w.heap.size]? = some (.cells #[.int .i64 f, .int .i64 s] 36 (0, 0)) := by
    subst hw1; rw [Below.heap_alloc _ _ _ (by simp)]; exact heap_alloc_new w _
  have hbt : w1.heap[w.heap.size + 1]? = some (.cells #[.int .u64 0, .bool false, .int .i64 0] 77 (0, 0)) := by
    subst hw1
    have := heap_alloc_new (w.alloc (.cells #[.int .i64 f, .int .i64 s] 36)) (.cells #[.int .u64 0, .bool false, .int .i64 0] 77)
    rwa [World.size_alloc] at this
  have ca0 := cell_of_row w1 w.heap.size 0 _ _ _ hba
  have ca1 := cell_of_row w1 w.heap.size 1 _ _ _ hba
  have hin := in_any f s w1 pd ps pm d (h.stay hst1 (fun x => x) (fun x => x) (fun x => x)) hf hs
  unfold areaV at hin ⊢
  have HIN := Lib.hid hin
  have HD := Lib.hid h
  have HST1 := Lib.hid hst1
  have HZ1 := Lib.hid hz1
  have HBA := Lib.hid hba
  have HBT := Lib.hid hbt
  clear hin h hst1 hz1 hba hbt
  by_cases hi : inB f s d.n = false
  · have e1 : askD d f s = ((0, false, 0), 1) := if_pos hi
    rw [e1]
    have hin := HIN.out
    rw [hi] at hin
    have HIN := Lib.hid hin
    clear hin hi e1
    go_enter Tryz.func33, Tryz.ntmps33
    go_wp2_with (
      go_at_call 49
      refine HIN.out.mono ?_
      rintro e w2 ⟨rfl, hs2⟩
      have HS2 := Lib.hid hs2
      have HB2 := Lib.hid ((hs2.block _ (lt_of_block HBT.out) (fun x => x)).trans HBT.out)
      have c0 := cell_of_row w2 _ 0 _ _ _ HB2.out
      have c1 := cell_of_row w2 _ 1 _ _ _ HB2.out
      have c2 := cell_of_row w2 _ 2 _ _ _ HB2.out
      have hfz := fun j => frozen_of_row w2 _ j _ _ HB2.out
      clear hs2)
    exact bodyPost_ret (v := .tuple #[tellW (0, false, 0), errV 1]) (ask_res _ _ (w.heap.size + 1) 0 false 0 _ rfl rfl (three_set HB2.out)) rfl ⟨rfl, three_stay (HST1.out.trans HS2.out) (by omega)⟩
  obtain ⟨f0, s3, fn⟩ := inB_spec hi
  obtain ⟨j, rfl⟩ : ∃ j : Nat, f = (j : Int) := ⟨f.toNat, by omega⟩
  have HJ := Lib.hid (show j < d.n by omega)
  have hi' : inB (j : Int) s d.n = true := by simpa using hi
  have hin := HIN.out
  rw [hi'] at hin
  have HIN := Lib.hid hin
  by_cases hdn : down d = true
  · have e1 : askD d (j : Int) s = ((0, false, 0), 13) := by unfold askD; rw [if_neg hi, if_pos hdn]
    rw [e1]
    have e2 : readD d j = ([], 13) := if_pos hdn
    clear hin hi hi' e1 hdn
    go_enter Tryz.func33, Tryz.ntmps33
    go_wp2_with (
      go_at_call 49
      refine HIN.out.mono ?_
      rintro e w2 ⟨rfl, hs2⟩
      have HS2 := Lib.hid hs2
      have HB2 := Lib.hid ((hs2.block _ (lt_of_block HBT.out) (fun x => x)).trans HBT.out)
      have HA2 := Lib.hid ((hs2.block _ (lt_of_block HBA.out) (fun x => x)).trans HBA.out)
      have ca0 := cell_of_row w2 _ 0 _ _ _ HA2.out
      have ca1 := cell_of_row w2 _ 1 _ _ _ HA2.out
      have hrd := read_all w2 pd ps pm d j (HD.out.stay (HST1.out.trans hs2) (fun x => x) (fun x => x) (fun x => x)) HJ.out
      clear hs2)
    simp only [e2] at hrd
    have e3 : errV 13 = .iface 65 (.int .i64 13) := rfl
    rw [e3] at hrd
    clear e2 e3
    refine hrd.mono ?_
    rintro e w3 ⟨v3, rfl, ho3, hs3⟩
    have HS3 := Lib.hid hs3
    have HB3 := Lib.hid ((hs3.block _ (lt_of_block HB2.out) (fun x => x)).trans HB2.out)
    have c0 := cell_of_row w3 _ 0 _ _ _ HB3.out
    have c1 := cell_of_row w3 _ 1 _ _ _ HB3.out
    have c2 := cell_of_row w3 _ 2 _ _ _ HB3.out
    have hfz := fun j => frozen_of_row w3 _ j _ _ HB3.out
    clear hs3
    go_wp2
    exact bodyPost_ret (v := .tuple #[tellW (0, false, 0), errV 13]) (ask_res _ _ (w.heap.size + 1) 0 false 0 _ rfl rfl (three_set HB3.out)) rfl ⟨rfl, three_stay ((HST1.out.trans HS2.out).trans HS3.out) (by omega)⟩
  · have e1 : askD d (j : Int) s = tellD (d.cur j) (roomI s).toNat := by unfold askD; rw [if_neg hi, if_neg hdn, Int.toNat_natCast]
    rw [e1]
    have e2 : readD d j = (d.cur j, 0) := if_neg hdn
    have HCUR := Lib.hid (cur64 HD.out j)
    have hr1 : roomI s = 64 * ((s - 1) / 2) := if_neg (by omega)
    obtain ⟨rm, hrm⟩ : ∃ rm : Nat, roomI s = (rm : Int) := ⟨(roomI s).toNat, by omega⟩
    have hrm2 : (rm : Int) ≤ 1048576 := by omega
    have e4 : (roomI s).toNat = rm := by omega
    rw [e4]
    have hroom := fun W => room_any (j : Int) s W
    unfold areaV at hroom
    rw [hrm] at hroom
    have HROOM := Lib.hid hroom
    have HT := Lib.hid (show ∀ W x, Slc W x (d.cur j) → Calls Tryz.prog 50 #[x, .int .i64 rm] W fun e w' => e = .returned (.tuple #[tellW (tellD (d.cur j) rm).1, errV (tellD (d.cur j) rm).2]) ∧ Stay (fun _ => False) W w' from fun W x hx => tell_any W x (d.cur j) rm hx HCUR.out (by omega))
    generalize tellD (d.cur j) rm = T at HT ⊢
    obtain ⟨⟨tn, tb, tm⟩, tc⟩ := T
    clear hin hi hi' e1 hdn e4 hr1 hrm hroom
    go_enter Tryz.func33, Tryz.ntmps33
    go_wp2_with (
      go_at_call 49
      refine HIN.out.mono ?_
      rintro e w2 ⟨rfl, hs2⟩
      have HS2 := Lib.hid hs2
      have HB2 := Lib.hid ((hs2.block _ (lt_of_block HBT.out) (fun x => x)).trans HBT.out)
      have HA2 := Lib.hid ((hs2.block _ (lt_of_block HBA.out) (fun x => x)).trans HBA.out)
      have ca0 := cell_of_row w2 _ 0 _ _ _ HA2.out
      have ca1 := cell_of_row w2 _ 1 _ _ _ HA2.out
      have hrd := read_all w2 pd ps pm d j (HD.out.stay (HST1.out.trans hs2) (fun x => x) (fun x => x) (fun x => x)) HJ.out
      clear hs2)
    simp only [e2, errV_zero] at hrd
    clear e2
    refine hrd.mono ?_
    rintro e w3 ⟨v3, rfl, ho3, hs3⟩
    have HO3 := Lib.hid ho3.slc
    have HS3 := Lib.hid hs3
    have HB3 := Lib.hid ((hs3.block _ (lt_of_block HB2.out) (fun x => x)).trans HB2.out)
    have HA3 := Lib.hid ((hs3.block _ (lt_of_block HA2.out) (fun x => x)).trans HA2.out)
    have cb0 := cell_of_row w3 _ 0 _ _ _ HA3.out
    have cb1 := cell_of_row w3 _ 1 _ _ _ HA3.out
    clear hs3 ho3
    go_wp2_with (first
      | (go_at_call 35
         refine (HROOM.out _).mono ?_
         rintro e w4 ⟨rfl, hs4⟩
         have HS4 := Lib.hid hs4
         clear hs4)
      | (go_at_call 50
         refine (HT.out _ _ (HO3.out.stay0 HS4.out)).mono ?_
         rintro e w5 ⟨rfl, hs5⟩
         have HB5 := Lib.hid (((HS4.out.trans hs5).block _ (lt_of_block HB3.out) (fun x => x)).trans HB3.out)
         have HS5 := Lib.hid hs5
         have c0 := cell_of_row w5 _ 0 _ _ _ HB5.out
         have c1 := cell_of_row w5 _ 1 _ _ _ HB5.out
         have c2 := cell_of_row w5 _ 2 _ _ _ HB5.out
         have hfz := fun j => frozen_of_row w5 _ j _ _ HB5.out
         unfold tellW
         clear hs5))
    exact bodyPost_ret (v := .tuple #[tellW (tn, tb, tm), errV tc]) (ask_res _ _ (w.heap.size + 1) tn tb tm _ rfl rfl (three_set HB5.out)) rfl ⟨rfl, three_stay ((((HST1.out.trans HS2.out).trans HS3.out).trans HS4.out).trans HS5.out) (by omega)⟩

end Go.Proofs.YtlmaooeeklhelaaGreatDoor.Tg
