/-
  merge: what must come whatever the input is.
-/
import Derived.Test.YtdfhjmodacjilaaMgM
namespace Go.Proofs.Ytdfhjmodacjilaa.Mg
open Go.RowKit Go.Maps Me
set_option maxRecDepth 100000
set_option linter.unusedVariables false

/-- A block of entries, as a slice. -/
theorem ens_block {w : World} {g : Nat} {L : List En} (h : w.heap[g]? = some (.cells (enRows L).toArray 28 (0, 0))) (hl : L.length ≤ 1000000) : EnS w (.slice (some ⟨g, 0, none⟩) L.length L.length) L := by
  refine ⟨_, _, rfl, Nat.le_refl _, by omega, (fun h => by cases h), fun _ => ⟨g, 0, rfl, fun i e he j u hu => ?_⟩⟩
  rw [Nat.zero_add, cell_of_row w g _ _ _ _ h]
  have hj : j < 3 := (List.getElem?_eq_some_iff.1 hu).1
  rw [List.getElem?_toArray, enRows_get hj L i he]
  exact hu
def s1 : En := ⟨[97], [110, 101, 119], false⟩
def s2 : En := ⟨[97], [111, 108, 100], false⟩
def s3 : En := ⟨[98], [], false⟩
theorem sure_all : allN [[s1], [s2, s3]] = [s1, s3] := by decide +kernel
theorem sure_srt : ∀ L ∈ [[s1], [s2, s3]], Sorted L := by decide +kernel
set_option maxHeartbeats 1200000 in
theorem sure_any (w : World) : Calls Try.prog 5 #[] w fun e w' => e = .returned (.bool true) ∧ Stay (fun _ => False) w w' := by
  obtain ⟨w1, hw1⟩ : ∃ w1, w.alloc (.cells #[.string ⟨#[97]⟩, .string ⟨#[110, 101, 119]⟩, .bool false] 28) = w1 := ⟨_, rfl⟩
  obtain ⟨w2, hw2⟩ : ∃ w2, w1.alloc (.cells #[.string ⟨#[97]⟩, .string ⟨#[111, 108, 100]⟩, .bool false, .string ⟨#[98]⟩, .string ⟨#[]⟩, .bool false] 28) = w2 := ⟨_, rfl⟩
  obtain ⟨w3, hw3⟩ : ∃ w3, w2.alloc (.cells #[.slice (some ⟨w.heap.size, 0, none⟩) 1 1, .slice (some ⟨w.heap.size + 1, 0, none⟩) 2 2] 25) = w3 := ⟨_, rfl⟩
  have z1 : w1.heap.size = w.heap.size + 1 := by rw [← hw1]; simp
  have z2 : w2.heap.size = w.heap.size + 2 := by rw [← hw2]; simp [z1]
  have a1 : Stay (fun _ => False) w w1 := by rw [← hw1]; exact Stay.alloc _ _
  have a2 : Stay (fun _ => False) w1 w2 := by rw [← hw2]; exact Stay.alloc _ _
  have a3 : Stay (fun _ => False) w2 w3 := by rw [← hw3]; exact Stay.alloc _ _
  have b1 : w1.heap[w.heap.size]? = some (.cells (enRows [s1]).toArray 28 (0, 0)) := by rw [← hw1]; exact heap_alloc_new w _
  have b2 : w2.heap[w.heap.size + 1]? = some (.cells (enRows [s2, s3]).toArray 28 (0, 0)) := by rw [← z1, ← hw2]; exact heap_alloc_new w1 _
  have b3 : w3.heap[w.heap.size + 2]? = some (.cells #[.slice (some ⟨w.heap.size, 0, none⟩) 1 1, .slice (some ⟨w.heap.size + 1, 0, none⟩) 2 2] 25 (0, 0)) := by rw [← z2, ← hw3]; exact heap_alloc_new w2 _
  have e1 := ((ens_block b1 (by simp)).stay0 a2).stay0 a3
  have e2 := (ens_block b2 (by simp)).stay0 a3
  have HX : ESs w3 (.slice (some ⟨w.heap.size + 2, 0, none⟩) 2 2) [[s1], [s2, s3]] := by
    refine ⟨_, _, rfl, Nat.le_refl _, by decide, fun _ => ⟨_, 0, rfl, fun i L hL => ?_⟩⟩
    match i, hL with
    | 0, hL => cases hL; exact ⟨_, cell_of_row w3 _ 0 _ _ _ b3, e1⟩
    | 1, hL => cases hL; exact ⟨_, cell_of_row w3 _ 1 _ _ _ b3, e2⟩
  have HALL := Lib.hid (all_any w3 _ [[s1], [s2, s3]] false HX (by simp) (by simp [sumL]))
  have HS3 := Lib.hid ((a1.trans a2).trans a3)
  have W3 := Lib.hid (show ((w.alloc (.cells #[.string ⟨#[97]⟩, .string ⟨#[110, 101, 119]⟩, .bool false] 28)).alloc (.cells #[.string ⟨#[97]⟩, .string ⟨#[111, 108, 100]⟩, .bool false, .string ⟨#[98]⟩, .string ⟨#[]⟩, .bool false] 28)).alloc (.cells #[.slice (some ⟨w.heap.size, 0, none⟩) 1 1, .slice (some ⟨w.heap.size + 1, 0, none⟩) 2 2] 25) = w3 by rw [hw1, hw2, hw3])
  clear hw1 hw2 hw3 z1 z2 a1 a2 a3 b1 b2 b3 e1 e2 HX
  go_enter Try.func5, Try.ntmps5
  go_wp2_with fail
  rw [W3.out]
  refine HALL.out.mono ?_
  rintro e w4 ⟨hs4, hc⟩
  rcases hc with ⟨_, v, rfl, ho⟩ | ⟨hn, _⟩
  · rw [show keepL false (allN [[s1], [s2, s3]]) = [s1, s3] from sure_all] at ho
    have HO := Lib.hid ho
    have HS4 := Lib.hid (HS3.out.trans hs4)
    have HA5 := Lib.hid (show Stay (fun _ => False) w4 (w4.alloc (.cells #[.string ⟨#[97]⟩, .string ⟨#[110, 101, 119]⟩, .bool false, .string ⟨#[98]⟩, .string ⟨#[]⟩, .bool false] 28)) from Stay.alloc _ _)
    have b5 : (w4.alloc (.cells #[.string ⟨#[97]⟩, .string ⟨#[110, 101, 119]⟩, .bool false, .string ⟨#[98]⟩, .string ⟨#[]⟩, .bool false] 28)).heap[w4.heap.size]? = some (.cells (enRows [s1, s3]).toArray 28 (0, 0)) := heap_alloc_new w4 _
    have HE := Lib.hid (entries_eq _ _ _ _ _ (ho.ens.stay0 HA5.out) (ens_block b5 (by simp)))
    obtain ⟨va, vc, rfl⟩ := ho.form
    clear ho hs4 b5 HALL
    go_wp2_with fail
    refine HE.out.mono ?_
    rintro e w6 ⟨rfl, hs6⟩
    rw [show decide True = true from rfl]
    have HS6 := Lib.hid ((HS4.out.trans HA5.out).trans hs6)
    clear hs6 HE
    go_wp2
    go_ret
    exact ⟨rfl, HS6.out⟩
  · exact absurd sure_srt hn
end Go.Proofs.Ytdfhjmodacjilaa.Mg
