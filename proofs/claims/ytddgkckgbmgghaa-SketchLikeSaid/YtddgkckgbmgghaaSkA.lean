/-
  sketch: four numbers by value; how like two are.
-/
import Derived.Test.YtddgkckgbmgghaaHnM
namespace Go.Proofs.Ytddgkckgbmgghaa.Sk
open Go.RowKit Hn
set_option maxRecDepth 100000

/-- The cells of four numbers. -/
def qC (f : Nat → Nat) : List Value := [.int .u32 (f 0 : Int), .int .u32 (f 1 : Int), .int .u32 (f 2 : Int), .int .u32 (f 3 : Int)]
theorem length_qC (f : Nat → Nat) : (qC f).length = 4 := rfl
theorem qC_get (f : Nat → Nat) {i : Nat} (h : i < 4) : (qC f)[i]? = some (.int .u32 (f i : Int)) := by
  match i, h with
  | 0, _ => rfl
  | 1, _ => rfl
  | 2, _ => rfl
  | 3, _ => rfl
theorem qC_congr {f g : Nat → Nat} (h : ∀ i, i < 4 → f i = g i) : qC f = qC g := by
  unfold qC
  rw [h 0 (by decide), h 1 (by decide), h 2 (by decide), h 3 (by decide)]
theorem oneCell_qC (f : Nat → Nat) : ∀ v ∈ qC f, v.oneCell' = true := by
  intro v hv
  simp [qC] at hv
  rcases hv with rfl | rfl | rfl | rfl <;> rfl
/-- Four numbers by value. -/
def skV (f : Nat → Nat) : Value := .agg (qC f).toArray
def put (f : Nat → Nat) (i x : Nat) : Nat → Nat := fun j => if j = i then x else f j
theorem put_at (f : Nat → Nat) (i x : Nat) : put f i x i = x := by simp [put]
theorem qC_put (f : Nat → Nat) {i : Nat} (h : i < 4) (x : Nat) : (qC f).set i (.int .u32 (x : Int)) = qC (put f i x) := by
  match i, h with
  | 0, _ => rfl
  | 1, _ => rfl
  | 2, _ => rfl
  | 3, _ => rfl

/-- A block of four numbers. -/
def QAt (w : World) (g : Nat) (ty : TypeId) (f : Nat → Nat) : Prop := w.heap[g]? = some (.cells (qC f).toArray ty (0, 0))
section
variable {w : World} {g : Nat} {ty : TypeId} {f : Nat → Nat}
theorem QAt.lt (h : QAt w g ty f) : g < w.heap.size := (Array.getElem?_eq_some_iff.1 h).1
theorem QAt.fr (h : QAt w g ty f) (i : Nat) : w.frozen? ⟨g, i, none⟩ = false := frozen_of_row w g i _ _ h
theorem QAt.c (h : QAt w g ty f) {i : Nat} (hi : i < 4) : w.cell? ⟨g, i, none⟩ = some (.int .u32 (f i : Int)) := by
  rw [cell_of_row w g i _ _ _ h]
  simp only [List.getElem?_toArray]
  exact qC_get f hi
theorem QAt.stay {X : Nat → Prop} {w' : World} (h : QAt w g ty f) (hs : Stay X w w') (hx : ¬ X g) : QAt w' g ty f := (hs.block g h.lt hx).trans h
theorem QAt.stay0 {w' : World} (h : QAt w g ty f) (hs : Stay (fun _ => False) w w') : QAt w' g ty f := h.stay hs (fun x => x)
theorem QAt.set (h : QAt w g ty f) {i : Nat} (hi : i < 4) (x : Nat) : QAt (w.setCell ⟨g, i, none⟩ (.int .u32 (x : Int))) g ty (put f i x) := by
  unfold QAt
  rw [heap_setCell_same w g i _ _ _ h]
  congr 2
  rw [← qC_put f hi]
  simp only [List.setIfInBounds_toArray]
theorem QAt.new (w : World) (ty : TypeId) (f : Nat → Nat) : QAt (w.alloc (.cells (qC f).toArray ty)) w.heap.size ty f := heap_alloc_new w _
end

/-- How many of the first k are the same. -/
def likeN (f g : Nat → Nat) : Nat → Nat
  | 0 => 0
  | k + 1 => likeN f g k + if f k = g k then 1 else 0
theorem likeN_le (f g : Nat → Nat) : ∀ k, likeN f g k ≤ k
  | 0 => Nat.le_refl _
  | k + 1 => by
    have := likeN_le f g k
    unfold likeN
    split <;> omega
theorem likeN_self (f : Nat → Nat) : ∀ k, likeN f f k = k
  | 0 => rfl
  | k + 1 => by rw [likeN, likeN_self f k, if_pos rfl]
theorem likeN_comm (f g : Nat → Nat) : ∀ k, likeN f g k = likeN g f k
  | 0 => rfl
  | k + 1 => by
    rw [likeN, likeN, likeN_comm f g k]
    by_cases h : f k = g k
    · rw [if_pos h, if_pos h.symm]
    · rw [if_neg h, if_neg (fun e => h e.symm)]

set_option maxHeartbeats 1000000 in
theorem like_any (w : World) (f g : Nat → Nat) :
    Calls Try.prog 10 #[skV f, skV g] w fun e w' => e = .returned (.int .i64 (likeN f g 4 : Int)) ∧ Stay (fun _ => False) w w' := by
  have h0 := QAt.new w 27 f
  have h1 := QAt.new (w.alloc (.cells (qC f).toArray 27)) 27 g
  rw [show (w.alloc (.cells (qC f).toArray 27)).heap.size = w.heap.size + 1 by simp] at h1
  have H0 := Lib.hid (h0.stay (Stay.alloc (X := fun _ => False) _ (.cells (qC g).toArray 27)) (fun x => x))
  have H1 := Lib.hid h1
  have HS := Lib.hid ((Stay.alloc (X := fun _ => False) w (.cells (qC f).toArray 27)).trans (Stay.alloc (X := fun _ => False) _ (.cells (qC g).toArray 27)))
  clear h0 h1
  unfold skV
  go_enter Try.func10, Try.ntmps10
  go_wp2
  go_loopw [5, 7] (fun n i wr => ∃ k : Nat, k ≤ 4 ∧ i = .int .i64 (k : Int) ∧ n = .int .i64 (likeN f g k : Int) ∧ QAt wr w.heap.size 27 f ∧ QAt wr (w.heap.size + 1) 27 g ∧ Stay (fun _ => False) w wr) (fun _ i _ => 4 - (intOf i).toNat)
  case atStart => exact ⟨0, by omega, rfl, rfl, H0.out, H1.out, HS.out⟩
  case round =>
    obtain ⟨k, hk, rfl, rfl, hf, hg, hst⟩ := hrel
    have hle := likeN_le f g k
    by_cases hlt : k < 4
    · have c0 := hf.c hlt
      have c1 := hg.c hlt
      have HF := Lib.hid hf
      have HG := Lib.hid hg
      have HST := Lib.hid hst
      have HN := Lib.hid (show likeN f g (k + 1) = likeN f g k + if f k = g k then 1 else 0 from rfl)
      clear hf hg hst
      by_cases he : f k = g k
      · rw [if_pos he] at HN
        rw [he] at c0
        generalize likeN f g k = m at *
        go_wp2_with (go_region)
        refine ⟨⟨k + 1, by omega, by go_num, by rw [HN.out]; go_num, HF.out, HG.out, HST.out.trans Stay.drew⟩, by simp [intOf]; omega⟩
      · rw [if_neg he] at HN
        have hb : ((f k : Int) == (g k : Int)) = false := beq_eq_false_iff_ne.2 (fun h => he (by omega))
        generalize likeN f g k = m at *
        clear he
        go_wp2_with (go_region)
        refine ⟨⟨k + 1, by omega, by go_num, by rw [HN.out]; rfl, HF.out, HG.out, HST.out.trans Stay.drew⟩, by simp [intOf]; omega⟩
    · obtain rfl : k = 4 := by omega
      go_wp2
      go_ret
      exact ⟨rfl, hst⟩
set_option maxHeartbeats 1000000 in
theorem rlike_any (w : World) (f g : Nat → Nat) :
    Calls Try.prog 11 #[skV f, skV g] w fun e w' => e = .returned (.int .i64 (likeN f g 4 : Int)) ∧ Stay (fun _ => False) w w' := by
  have h0 := QAt.new w 25 f
  have h1 := QAt.new (w.alloc (.cells (qC f).toArray 25)) 25 g
  rw [show (w.alloc (.cells (qC f).toArray 25)).heap.size = w.heap.size + 1 by simp] at h1
  have H0 := Lib.hid (h0.stay (Stay.alloc (X := fun _ => False) _ (.cells (qC g).toArray 25)) (fun x => x))
  have H1 := Lib.hid h1
  have HS := Lib.hid ((Stay.alloc (X := fun _ => False) w (.cells (qC f).toArray 25)).trans (Stay.alloc (X := fun _ => False) _ (.cells (qC g).toArray 25)))
  clear h0 h1
  unfold skV
  go_enter Try.func11, Try.ntmps11
  go_wp2
  go_loopw [5, 6] (fun n i wr => ∃ k : Nat, k ≤ 4 ∧ i = .int .i64 (k : Int) ∧ n = .int .i64 (likeN f g k : Int) ∧ QAt wr w.heap.size 25 f ∧ QAt wr (w.heap.size + 1) 25 g ∧ Stay (fun _ => False) w wr) (fun _ i _ => 4 - (intOf i).toNat)
  case atStart => exact ⟨0, by omega, rfl, rfl, H0.out, H1.out, HS.out⟩
  case round =>
    obtain ⟨k, hk, rfl, rfl, hf, hg, hst⟩ := hrel
    have hle := likeN_le f g k
    by_cases hlt : k < 4
    · have c0 := hf.c hlt
      have c1 := hg.c hlt
      have HF := Lib.hid hf
      have HG := Lib.hid hg
      have HST := Lib.hid hst
      have HN := Lib.hid (show likeN f g (k + 1) = likeN f g k + if f k = g k then 1 else 0 from rfl)
      clear hf hg hst
      by_cases he : f k = g k
      · rw [if_pos he] at HN
        rw [he] at c0
        generalize likeN f g k = m at *
        go_wp2_with (go_region)
        refine ⟨⟨k + 1, by omega, by go_num, by rw [HN.out]; go_num, HF.out, HG.out, HST.out.trans Stay.drew⟩, by simp [intOf]; omega⟩
      · rw [if_neg he] at HN
        have hb : ((f k : Int) == (g k : Int)) = false := beq_eq_false_iff_ne.2 (fun h => he (by omega))
        generalize likeN f g k = m at *
        clear he
        go_wp2_with (go_region)
        refine ⟨⟨k + 1, by omega, by go_num, by rw [HN.out]; rfl, HF.out, HG.out, HST.out.trans Stay.drew⟩, by simp [intOf]; omega⟩
    · obtain rfl : k = 4 := by omega
      go_wp2
      go_ret
      exact ⟨rfl, hst⟩
end Go.Proofs.Ytddgkckgbmgghaa.Sk
