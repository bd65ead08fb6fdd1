/-
  delta: a block told by another one, as bytes, and made of it again.
-/
import Derived.Test.YtnlknnhibnfhcaaDoorDeF
import Derived.Test.YtnlknnhibnfhcaaDoorDeK
namespace Go.Proofs.YtnlknnhibnfhcaaDoor.De
open Go.RowKit Pk
set_option maxRecDepth 100000

theorem good_len {base : List UInt8} (hb : base.length = 64) {q : Pt} (h : q.Good) : 1 ≤ (ptBytes base q).length ∧ q.b.length ≤ 64 := by
  rcases h with ⟨h1, h2, h3, h4, h5⟩ | ⟨h1, _, _, h2, h3⟩
  · unfold ptBytes
    rw [if_pos h1, h5, List.length_take, List.length_drop, hb]
    simp
    omega
  · unfold ptBytes
    rw [if_neg (by simp [h1])]
    omega
theorem parts_len {base : List UInt8} (hb : base.length = 64) : ∀ l : List Pt, (∀ q ∈ l, q.Good) → l.length ≤ (l.flatMap (ptBytes base)).length ∧ szN l ≤ 32 + l.length * 96
  | [], _ => by simp [szN]
  | q :: r, h => by
    have h1 := good_len hb (h q (List.mem_cons_self ..))
    have h2 := parts_len hb r (fun q hq => h q (List.mem_cons_of_mem _ hq))
    rw [List.flatMap_cons, List.length_append, List.length_cons]
    unfold szN
    omega
theorem ops_len {a b : List UInt8} (ha : a.length = 64) (hb : b.length = 64) : (opsN a b).length ≤ 64 ∧ szN (opsN a b) ≤ 8192 := by
  have hm := made_ops ha hb
  have h := parts_len ha _ hm.good
  rw [hm.is, List.length_take] at h
  omega

set_option maxHeartbeats 1000000 in
theorem diff_any (w : World) (a b : List UInt8) (ha : a.length = 64) (hb : b.length = 64) :
    Calls Tryd.prog 17 #[arrV a, arrV b] w fun e w' => ∃ v, e = .returned v ∧ Owns w.heap.size w' v (encodeN (opsN a b)) ∧ Stay (fun _ => False) w w' := by
  have H1 := Lib.hid ((BAt.new w 23 a).stay0 (Stay.alloc _ (.cells (cellsB b).toArray 23)))
  have H2 := Lib.hid (BAt.new (w.alloc (.cells (cellsB a).toArray 23)) 23 b)
  have HS := Lib.hid ((Stay.alloc (X := fun _ => False) w (.cells (cellsB a).toArray 23)).trans (Stay.alloc _ (.cells (cellsB b).toArray 23)))
  have HA := Lib.hid ha
  have HB := Lib.hid hb
  have HOL := Lib.hid (ops_len ha hb)
  obtain ⟨N, hN⟩ : ∃ N, N = opsN a b := ⟨_, rfl⟩
  rw [← hN] at HOL ⊢
  have HN := Lib.hid hN
  clear ha hb hN
  unfold arrV
  go_enter Tryd.func17, Tryd.ntmps17
  go_wp2_with (first
    | (refine arr_64.load rfl (.tmp 2) rfl w.heap.size rfl a HA.out H1.out ?_)
    | (refine arr_64.load rfl (.tmp 3) rfl (w.heap.size + 1) rfl b HB.out (by simpa using H2.out) ?_))
  refine (ops_any _ a b HA.out HB.out).mono ?_
  rintro e w1 ⟨v, rfl, ⟨L, hL, hv⟩, hs1⟩
  rw [← HN.out] at hL
  have hlen : L.length ≤ 64 := by rw [← List.length_map (f := Po.p), hL]; exact HOL.out.1
  obtain ⟨va, vc, rfl⟩ := hv.form
  have HV := Lib.hid hv
  have HS1 := Lib.hid (HS.out.trans hs1)
  have HL := Lib.hid hL
  clear hv hs1 hL
  go_wp2_with fail
  refine (encode_any w1 _ L HV.out (by rw [HL.out]; have := HOL.out; omega) (by omega)).mono ?_
  rintro e w2 ⟨v2, rfl, how, hs2⟩
  obtain ⟨va2, vc2, rfl⟩ := how.form
  have HO := Lib.hid how
  have HS2 := Lib.hid (HS1.out.trans hs2)
  have hz := HS1.out.size
  clear how hs2
  go_wp2
  go_ret
  have ho := HO.out
  rw [HL.out] at ho
  refine ⟨_, rfl, ?_, HS2.out⟩
  rw [HL.out]
  exact ho.base (fun k hk => by have := (ho.lt k hk).1; omega)

/-- What bytes make of a base. -/
def patchR (a b : List UInt8) : Except Nat (List UInt8) := if (decN b).2 = 0 then applyN a (decN b).1 [] else .error (decN b).2

set_option maxHeartbeats 4000000 in
theorem patch_any (w : World) (a : List UInt8) (x : Value) (b : List UInt8) (ha : a.length = 64) (hx : Slc w x b) (hlen : b.length ≤ 140737488355328) :
    Calls Tryd.prog 11 #[arrV a, x] w fun e w' => e = .returned (.tuple #[arrV (resB (patchR a b)), errV (resE (patchR a b))]) ∧ Stay (fun _ => False) w w' := by
  have hx0 := BAt.new w 23 a
  generalize hw0 : w.alloc (.cells (cellsB a).toArray 23) = w0 at hx0
  have hs0 : Stay (fun _ => False) w w0 := hw0 ▸ Stay.alloc _ _
  have n0 : w0.heap.size = w.heap.size + 1 := by rw [← hw0]; simp
  have hx1 := BAt.new w0 23 z64
  generalize hw1 : w0.alloc (.cells (cellsB z64).toArray 23) = w1 at hx1
  have hs1 : Stay (fun _ => False) w0 w1 := hw1 ▸ Stay.alloc _ _
  rw [n0] at hx1
  have H0 := Lib.hid (hx0.stay0 hs1)
  have H1 := Lib.hid hx1
  have HS1 := Lib.hid (hs0.trans hs1)
  have W0 := Lib.hid hw0
  have W1 := Lib.hid hw1
  have N0 := Lib.hid n0
  have HX := Lib.hid hx
  have HA := Lib.hid ha
  obtain ⟨R, hR⟩ : ∃ R, R = patchR a b := ⟨_, rfl⟩
  rw [← hR]
  unfold patchR at hR
  have HR := Lib.hid hR
  have hrl : (decN b).2 = 0 → (resB R).length = 64 := fun h => by rw [hR, if_pos h]; exact resB_len a _
  have HRL := Lib.hid hrl
  obtain ⟨xa, xc, rfl⟩ := Slc.form hx
  clear hx0 hx1 hs0 hs1 hw0 hw1 n0 hx ha hR hrl
  unfold arrV
  go_enter Tryd.func11, Tryd.ntmps11
  go_wp2_with (with_reducible refine arr_64.alloc rfl rfl ?_; rw [show List.replicate 64 0 = z64 from rfl, W0.out, N0.out, W1.out])
  refine (decode_any w1 _ b (HX.out.stay0 HS1.out) hlen).mono ?_
  rintro e w2 ⟨⟨v, rfl, L, hL, hv⟩, hs2⟩
  obtain ⟨va, vc, rfl⟩ := hv.form
  have HV := Lib.hid hv
  have HL := Lib.hid hL
  have K0 := Lib.hid (H0.out.stay0 hs2)
  have K1 := Lib.hid (H1.out.stay0 hs2)
  have HS2 := Lib.hid (HS1.out.trans hs2)
  clear hv hL hs2
  generalize decN b = DN at *
  obtain ⟨dl, dc⟩ := DN
  dsimp only at HR HRL HL ⊢
  by_cases hd : dc = 0
  · rw [if_pos hd] at HR
    have hrl := HRL.out hd
    subst hd
    rw [errV_zero]
    go_wp2_with (refine arr_64.load rfl (.tmp 2) rfl w.heap.size rfl a HA.out K0.out ?_)
    refine (apply_any w2 a _ L HA.out HV.out).mono ?_
    rintro e w3 ⟨rfl, hs3⟩
    rw [HL.out, ← HR.out]
    have K13 := Lib.hid (K1.out.stay0 hs3)
    have HS3 := Lib.hid (HS2.out.trans hs3)
    have HRL := Lib.hid hrl
    clear hs3 hrl
    obtain ⟨rb, hrb⟩ : ∃ rb, rb = resB R := ⟨_, rfl⟩
    obtain ⟨ev, hev⟩ : ∃ ev, ev = errV (resE R) := ⟨_, rfl⟩
    rw [← hrb, ← hev]
    rw [← hrb] at HRL
    have HRB := Lib.hid hrb
    have HEV := Lib.hid hev
    clear hrb hev
    go_wp2_with (refine arr_64.store rfl (.tmp 4) (.tmp 20) rfl (w.heap.size + 1) rfl z64 rb rfl len_z64 HRL.out K13.out ?_; intro w6 h6 s6; have H6 := Lib.hid h6; clear h6)
    have hld := arr_64.run_load HRL.out H6.out
    refine bodyPost_ret (v := .tuple #[arrV rb, ev]) (by simp [results, Tryd.results11, asAddr, hld]) rfl ⟨by rw [HRB.out, HEV.out]; rfl, ?_⟩
    exact stay_seal (X := fun j => w.heap.size ≤ j) ((HS3.out.mono (fun _ x => x.elim)).trans (s6.mono (fun j e => by omega))) (fun j hj => hj)
  · rw [if_neg hd] at HR
    rw [errV_pos hd]
    unfold errI
    go_wp2_with (refine arr_64.store rfl (.tmp 4) (.tmp 15) rfl (w.heap.size + 1) rfl z64 z64 rfl len_z64 len_z64 K1.out ?_; intro w6 h6 s6; have H6 := Lib.hid h6; clear h6)
    have hld := arr_64.run_load len_z64 H6.out
    refine bodyPost_ret (v := .tuple #[arrV z64, errI dc]) (by simp [results, Tryd.results11, asAddr, hld, errI]) rfl ⟨?_, ?_⟩
    · rw [HR.out, show resE (.error dc) = dc from rfl, errV_pos hd]
      rfl
    · exact stay_seal (X := fun j => w.heap.size ≤ j) ((HS2.out.mono (fun _ x => x.elim)).trans (s6.mono (fun j e => by omega))) (fun j hj => hj)
end Go.Proofs.YtnlknnhibnfhcaaDoor.De
