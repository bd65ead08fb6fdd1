/-
  The document's answer (chapter 10): parts as bytes.
-/
import Derived.Test.YtnlknnhibnfhcaaDoorDeG
import Derived.Test.YtnlknnhibnfhcaaDoorPkRefX3
namespace Go.Proofs.YtnlknnhibnfhcaaDoor.De
open Go.RowKit Pk
set_option maxRecDepth 100000

theorem rbool_at (w : World) (x : Value) (b : List UInt8) (is : Bool) (hx : Slc w x b) (hlen : b.length + 1 ≤ 140737488355328) :
    Calls Tryd.prog 34 #[x, .bool is] w fun e w' => ∃ v, e = .returned v ∧ Owns w.heap.size w' v (b ++ boolB is) ∧ Stay (fun _ => False) w w' := refbool_any w x b is hx hlen

set_option maxHeartbeats 1000000 in
theorem rencode_any (w : World) (v : Value) (L : List Po) (hv : PsAt w v L) (hsz : szN (L.map Po.p) ≤ 140737488355328) (hlen : L.length ≤ 65535) :
    Calls Tryd.prog 13 #[v] w fun e w' => ∃ v1, e = .returned v1 ∧ Owns w.heap.size w' v1 (encodeN (L.map Po.p)) ∧ Stay (fun _ => False) w w' := by
  have HV := Lib.hid hv
  have HZ := Lib.hid hsz
  obtain ⟨a0, c0, rfl, hc1, hc2, hcell⟩ := hv.ex
  have HC := Lib.hid hcell
  have hlu := IntWalk.u64_in (L.length : Int) (by omega)
  clear hv hsz hcell
  go_enter Tryd.func13, Tryd.ntmps13
  go_wp2_with fail
  refine (refuint_at w _ [] L.length _ rfl (⟨none, 0, rfl, fun h => absurd h (Nat.lt_irrefl 0), fun _ => rfl, Nat.le_refl _, by decide⟩ : Slc w (.slice none 0 0) []) (by omega) (by simp)).mono ?_
  rintro e w2 ⟨v2, rfl, ho2, hs2⟩
  rw [List.nil_append] at ho2
  have HO2 := Lib.hid ho2
  have HS2 := Lib.hid hs2
  clear ho2 hs2
  go_wp2
  go_loopw [3, 4] (fun m i wr => ∃ k : Nat, k ≤ L.length ∧ i = .int .i64 (k : Int) ∧ Owns w.heap.size wr m (spellB L.length ++ ((L.map Po.p).take k).flatMap ptB) ∧ Stay (fun _ => False) w wr) (fun _ i _ => L.length - (intOf i).toNat)
  case atStart => exact ⟨0, Nat.zero_le _, rfl, by simpa using HO2.out, HS2.out⟩
  case round =>
    obtain ⟨k, hk, rfl, hw, hst⟩ := hrel
    have HT := Lib.hid hst
    have hzr := hst.size
    by_cases hlt : k < L.length
    · obtain ⟨⟨⟨cp, f, n, b⟩, x⟩, hq⟩ : ∃ q, L[k]? = some q := ⟨_, List.getElem?_eq_getElem hlt⟩
      obtain ⟨g, o, rfl, hcl⟩ := HC.out (by omega)
      have hsl : Slc w x b := HV.out.slc _ (List.mem_of_getElem? hq)
      obtain ⟨xa, xc, rfl, _⟩ := id hsl
      have HSL := Lib.hid hsl
      have hcl' := fun j u hu => hcl k ⟨⟨cp, f, n, b⟩, .slice xa b.length xc⟩ hq j u hu
      have HCL := Lib.hid hcl'
      have HTS := Lib.hid (take_snoc (map_at hq))
      have hsz := sz_at _ k _ (map_at hq)
      have hln := len_spell L.length
      have HLE := Lib.hid (show (spellB L.length ++ ((L.map Po.p).take k).flatMap ptB).length + 23 + (b.length + 32) ≤ 140737488355328 by have := HZ.out; rw [List.length_append]; dsimp only at hsz; omega)
      generalize hl : spellB L.length ++ ((L.map Po.p).take k).flatMap ptB = l at *
      have HL := Lib.hid hl
      obtain ⟨ma, mc, rfl⟩ := hw.form
      have HW := Lib.hid hw
      have k0 : wr.cell? ⟨g, o + k * 4, none⟩ = some (.bool cp) := HT.out.cell (hcl' 0 _ rfl) (fun x => x)
      clear hsl hcl hcl' hsz hln hl hq hst hw
      go_wp2_with fail
      refine (rbool_at wr _ l cp HW.out.slc (by have := HLE.out; omega)).mono ?_
      rintro e w5 ⟨v5, rfl, ho5, hs5⟩
      obtain ⟨l5, hl5⟩ : ∃ l5, l5 = l ++ boolB cp := ⟨_, rfl⟩
      rw [← hl5] at ho5
      have hl5n : l5.length = l.length + 1 := by rw [hl5, List.length_append]; rfl
      have HL5 := Lib.hid hl5
      have HL5N := Lib.hid hl5n
      obtain ⟨va5, vc5, rfl⟩ := ho5.form
      have HO5 := Lib.hid ho5
      have HS5 := Lib.hid (HT.out.trans hs5)
      have k5 : w5.cell? ⟨g, o + k * 4, none⟩ = some (.bool cp) := hs5.cell k0 (fun x => x)
      have k51 : w5.cell? ⟨g, o + k * 4 + 1, none⟩ = some (.int .i64 f) := HS5.out.cell (HCL.out 1 _ rfl) (fun x => x)
      have k52 : w5.cell? ⟨g, o + k * 4 + 2, none⟩ = some (.int .i64 n) := HS5.out.cell (HCL.out 2 _ rfl) (fun x => x)
      have k53 : w5.cell? ⟨g, o + k * 4 + 3, none⟩ = some (.slice xa b.length xc) := HS5.out.cell (HCL.out 3 _ rfl) (fun x => x)
      have hz5 := hs5.size
      clear ho5 hs5 k0 hl5 hl5n
      cases cp
      · go_wp2_with fail
        refine (refbytes_any w5 _ _ _ b HO5.out.slc (HSL.out.stay0 HS5.out) (by have := HLE.out; have := HL5N.out; omega)).mono ?_
        rintro e w6 ⟨v6, rfl, ho6, hs6⟩
        obtain ⟨l6, hl6⟩ : ∃ l6, l6 = l5 ++ bytesB b := ⟨_, rfl⟩
        rw [← hl6] at ho6
        have HL6 := Lib.hid hl6
        obtain ⟨va6, vc6, rfl⟩ := ho6.form
        have HO6 := Lib.hid ho6
        have HS6 := Lib.hid (HS5.out.trans hs6)
        clear ho6 hs6 hl6
        go_wp2
        refine ⟨⟨k + 1, by omega, by go_num, ?_, HS6.out⟩, by simp [intOf]; omega⟩
        have h6 := HO6.out
        rw [HTS.out, ← List.append_assoc, HL.out, show l ++ ptB ⟨false, f, n, b⟩ = l6 by rw [HL6.out, HL5.out, List.append_assoc]; rfl]
        exact h6.base (fun j hj => by have := (h6.lt j hj).1; omega)
      · obtain ⟨e1, e2⟩ := u64N_is f
        obtain ⟨e3, e4⟩ := u64N_is n
        obtain ⟨uf, huf⟩ : ∃ uf, uf = u64N f := ⟨_, rfl⟩
        obtain ⟨un, hun⟩ : ∃ un, un = u64N n := ⟨_, rfl⟩
        rw [← huf] at e1 e2
        rw [← hun] at e3 e4
        have HUF := Lib.hid huf
        have HUN := Lib.hid hun
        clear huf hun
        have HLE5 := Lib.hid (show l5.length + 9 ≤ 140737488355328 by have := HLE.out; have := HL5N.out; omega)
        have HC5 := Lib.hid (refuint_at (World.drew w5) (.slice va5 l5.length vc5) l5 uf (uf : Int) rfl (HO5.out.slc.stay0 (Stay.drew (X := fun _ => False) (w := w5))) e2 HLE5.out)
        go_wp2
        go_region_with (first
          | (go_at_call 33
             with_reducible refine HC5.out.mono ?_
             rintro e w6 ⟨v6, rfl, ho6, hs6⟩
             obtain ⟨l6, hl6⟩ : ∃ l6, l6 = l5 ++ spellB uf := ⟨_, rfl⟩
             rw [← hl6] at ho6
             have HLE6 := Lib.hid (show l6.length + 9 ≤ 140737488355328 by have := HLE.out; have := HL5N.out; have := len_spell uf; rw [hl6, List.length_append]; omega)
             have HL6 := Lib.hid hl6
             obtain ⟨va6, vc6, rfl⟩ := ho6.form
             have HC6 := Lib.hid (refuint_at w6 (.slice va6 l6.length vc6) l6 un (un : Int) rfl ho6.slc e4 HLE6.out)
             have HO6 := Lib.hid ho6
             have HS6 := Lib.hid (HS5.out.trans ((Stay.drew (w := w5)).trans hs6))
             have k62 : w6.cell? ⟨g, o + k * 4 + 2, none⟩ = some (.int .i64 n) := HS6.out.cell (HCL.out 2 _ rfl) (fun x => x)
             have hz6 := hs6.size
             simp only [drew_size] at hz6
             clear ho6 hs6 hl6)
          | (go_at_call 33
             with_reducible refine HC6.out.mono ?_
             rintro e w7 ⟨v7, rfl, ho7, hs7⟩
             obtain ⟨l7, hl7⟩ : ∃ l7, l7 = l6 ++ spellB un := ⟨_, rfl⟩
             rw [← hl7] at ho7
             have HL7 := Lib.hid hl7
             obtain ⟨va7, vc7, rfl⟩ := ho7.form
             have HO7 := Lib.hid ho7
             have HS7 := Lib.hid (HS6.out.trans hs7)
             clear ho7 hs7 hl7))
        all_goals
          go_wp2
          refine ⟨⟨k + 1, by omega, by go_num, ?_, HS7.out⟩, by simp [intOf]; omega⟩
          have h7 := HO7.out
          rw [HTS.out, ← List.append_assoc, HL.out, show l ++ ptB ⟨true, f, n, b⟩ = l7 by rw [HL7.out, HL6.out, HL5.out, HUF.out, HUN.out, List.append_assoc, List.append_assoc]; rfl]
          exact h7.base (fun j hj => by have := (h7.lt j hj).1; omega)
    · obtain rfl : k = L.length := by omega
      obtain ⟨ma, mc, rfl⟩ := hw.form
      have HW := Lib.hid hw
      clear hw
      go_wp2
      go_ret
      have hE : spellB L.length ++ ((L.map Po.p).take L.length).flatMap ptB = encodeN (L.map Po.p) := by unfold encodeN; rw [List.take_of_length_le (by simp), List.length_map]
      have h := HW.out
      rw [hE] at h
      refine ⟨_, rfl, ?_, HT.out⟩
      rw [hE]
      exact h
end Go.Proofs.YtnlknnhibnfhcaaDoor.De
