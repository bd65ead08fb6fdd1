/-
  ToggleWhole, ahead of its walk: how a save ends; what holds between two rounds.
-/
import Derived.Test.YtaolbbkkpdghaaaGreatDoorTgWholeF
import Derived.Test.YtaolbbkkpdghaaaGreatDoorErrG
namespace Go.Proofs.YtaolbbkkpdghaaaGreatDoor.Tg
open Go.RowKit Pk
set_option maxRecDepth 100000

theorem mod9 (x : Int) : ∃ k : Nat, k < 9 ∧ wrap64 ((IntKind.u64.wrap x).tmod 9) = (k : Int) := by
  have h0 : 0 ≤ IntKind.u64.wrap x := wrap_u64_nonneg x
  rw [Int.tmod_eq_emod_of_nonneg h0]
  have h1 : 0 ≤ IntKind.u64.wrap x % 9 := Int.emod_nonneg _ (by decide)
  have h2 : IntKind.u64.wrap x % 9 < 9 := Int.emod_lt_of_pos _ (by decide)
  refine ⟨(IntKind.u64.wrap x % 9).toNat, by omega, ?_⟩
  generalize IntKind.u64.wrap x % 9 = y at *
  unfold wrap64
  omega

theorem downs_is (w : World) (pd ps pm : Nat) (d : DS) (b : Bool) (h : DevAt w pd ps pm d) (hb : (d.cr || d.lo) = b) :
    Calls Tryz.prog 25 #[.pointer (some ⟨pd, 0, none⟩)] w fun e w' => e = .returned (.bool b) ∧ w = w' := by rw [← hb]; exact down_any w pd ps pm d h

theorem started_ok {d : DS} {K : Int} (h : DOk d K) (ks : List Bool) : DOk (d.started ks) K := ⟨h.w0, h.wk, fun e => by cases e⟩
theorem armed_ok {d : DS} {K : Int} (h : DOk d K) (k : Nat) (hk : k < 9) : DOk { d with ar := true, left := (k : Int) } K := ⟨h.w0, h.wk, fun _ => ⟨by show (0 : Int) ≤ (k : Int); omega, by show (k : Int) ≤ _; omega⟩⟩
theorem wide_started {d : DS} {n : Nat} (h : Wide d.s) (hL : WideL d.L n) (hn : d.n = n) (ks : List Bool) : ∀ j, ((d.started ks).s j).length = 64 := by
  subst hn
  exact stepS_wide h hL _ ks _

/-- How a save into an area of ten sectors ends, armed or not. -/
theorem save_whole (w : World) (pd ps pm : Nat) (d : DS) (o : Option (List UInt8)) (n : Nat) (x : Value) (l : List UInt8) (K : Int) (h : DevAt w pd ps pm d) (hok : DOk d K) (hK : K ≤ 400000) (hx : Txt w pd ps pm x l) (hh : Holds d 1 10 o n) (hn : n ≤ 20) :
    Calls Tryz.prog 17 #[.pointer (some ⟨pd, 0, none⟩), .agg #[.int .i64 1, .int .i64 10], x] w fun e w' => ∃ sv, e = .returned sv ∧ Stay (own pd ps pm) w w' ∧ ∃ d', DevAt w' pd ps pm d' ∧ DOk d' (K + 20000) ∧
      ((l.length ≤ 256 ∧ sv = .nilIface ∧ Holds d' 1 10 (some l) (n + 1)) ∨ (256 < l.length ∧ sv = .iface 65 (.int .i64 2) ∧ Holds d' 1 10 o n) ∨
        (sv = .iface 65 (.int .i64 13) ∧ d'.cr = true ∧ d'.lo = false ∧ ∀ ks, Holds (d'.started ks) 1 10 o n)) := by
  refine (save_any w pd ps pm d 1 10 x l h (hok.mono (by omega)) hx ⟨by omega, by omega⟩ ⟨by omega, by omega⟩).mono ?_
  rintro e w' ⟨rfl, hd, hs⟩
  refine ⟨_, rfl, hs, _, hd, save_ok hok 1 10 l, ?_⟩
  by_cases hl : l.length ≤ 256
  · rcases save_shape hh (show n < topN by unfold topN; omega) l (by omega) with ⟨q0, qh, _⟩ | ⟨q0, _, qc, ql, qn, qw, qa⟩
    · refine .inl ⟨hl, ?_, qh⟩
      have q0' : (saveD d 1 10 l).2 = 0 := q0
      rw [q0']; rfl
    · refine .inr (.inr ⟨?_, qc, ql, fun ks => ?_⟩)
      · have q0' : (saveD d 1 10 l).2 = 13 := q0
        rw [q0']; rfl
      · exact started_holds (d := d) ks ql qn (wide_started (fun j => qw j) hd.map.1 rfl ks) qa
  · have hlong := save_long hh l (show 64 * ((10 - 1) / 2) < l.length by omega)
    have hlong' : saveD d 1 10 l = (d, 2) := hlong
    rw [hlong']
    exact .inr (.inl ⟨by omega, rfl, hh⟩)

/-- What is told, where the device holds none. -/
theorem load_none0 (w : World) (pd ps pm : Nat) (d : DS) (f s n : Nat) (h : DevAt w pd ps pm d) (hh : Holds d f s none n) :
    Calls Tryz.prog 19 #[.pointer (some ⟨pd, 0, none⟩), areaV (f : Int) (s : Int)] w fun e w' => ∃ v, e = .returned (.tuple #[v, .int .u64 0, .iface 65 (.int .i64 8)]) ∧ Owns w.heap.size w' v [] ∧ Stay (fun _ => False) w w' := by
  have h1 := hh.s3
  have h2 := hh.fn
  have h3 := hh.n2
  have hl := load_any w pd ps pm d f s h ⟨by omega, by omega⟩ ⟨by omega, by omega⟩
  rw [hh.load_none] at hl
  exact hl

/-- What holds between two rounds. -/
structure WholeInv (w2 : World) (pd ps pm : Nat) (i : Nat) (ov iv : Value) (wr : World) (d : DS) (o : Option (List UInt8)) (n : Nat) : Prop where
  ho : ov = strV (o.getD [])
  hi : iv = .bool o.isSome
  at_ : DevAt wr pd ps pm d
  ok : DOk d (20000 * (i : Int))
  h : Holds d 1 10 o n
  le : n ≤ i
  st : Stay (own pd ps pm) w2 wr

theorem bytesK : Tryz.prog.bytesOf 4 = 1 := by kernel_rfl

end Go.Proofs.YtaolbbkkpdghaaaGreatDoor.Tg
