/-
  merge: the heap's Push and Pop.
-/
import Derived.Test.YtdfhjmodacjilaaMgE
namespace Go.Proofs.Ytdfhjmodacjilaa.Mg
open Go.RowKit Go.Maps Me
set_option maxRecDepth 100000
set_option linter.unusedVariables false

theorem nodup_take {H : List Od} {n : Nat} (h : (H.map (·.p)).Nodup) : ((H.take n).map (·.p)).Nodup := by
  rw [List.map_take]
  exact List.Sublist.nodup (List.take_sublist _ _) h

set_option maxHeartbeats 1000000 in
theorem opop_any (A : Nat → Prop) (w : World) (r n : Nat) (H : List Od) (o : Od) (h : RdAt A w r H) (hn : H.length = n + 1) (ho : H[n]? = some o) (hlen : n ≤ 1000000) :
    Calls Try.prog 42 #[.pointer (some ⟨r, 0, none⟩)] w fun e w' => e = .returned (.iface 48 (.pointer (some ⟨o.p, 0, none⟩))) ∧ RdAt (fun k => A k ∨ w.heap.size ≤ k) w' r (H.take n) ∧ OdAt w' o ∧ Stay A w w' := by
  have HR := Lib.hid h
  obtain ⟨g, c, hr, hP, hA, hc1, hc2⟩ := h.row (by omega)
  rw [hn] at hr hP hc1
  have HP := Lib.hid hP
  have HG := Lib.hid hr
  have HA := Lib.hid hA
  have c0 : w.cell? ⟨r, 0, none⟩ = some (.slice (some ⟨g, 0, none⟩) (n + 1) c) := by rw [cell_of_row w r 0 _ _ _ hr]; rfl
  have cn := hP.cell ho
  have HO := Lib.hid (h.at ho)
  have HRG := Lib.hid (show r ≠ g from by obtain ⟨cs, fr, hg⟩ := hP.ty; exact ne_ty hr hg (by decide))
  have HOG := Lib.hid (show o.p ≠ g from by obtain ⟨cs, fr, hg⟩ := hP.ty; exact ne_ty (h.at ho).1.g hg (by decide))
  have HD := Lib.hid (delete_any w g n c H hn hc1 hc2 hP)
  have HN := Lib.hid hn
  have hI1 : (n : Int) ≤ 1000000 := by omega
  generalize hop : o.p = p at *
  have HOP := Lib.hid hop
  clear hP hr h hA hn ho hop
  go_enter Try.func42, Try.ntmps42
  go_wp2_with (go_at_call 44; refine HD.out.mono ?_; rintro e w1 ⟨rfl, hP1, hs1⟩; have HP1 := Lib.hid hP1; have HS1 := Lib.hid hs1; have hr1 := (hs1.block r HR.out.lt HRG.out).trans HG.out; have d0 := cell_of_row w1 r 0 _ _ _ hr1; have f1 := frozen_of_row w1 r 0 _ _ hr1; clear hP1 hs1 hr1)
  go_ret
  obtain ⟨k1, k2⟩ := HR.out.reset (H' := H.take n) HG.out HP.out (fun k hk => by cases hk; exact HA.out) (HS1.out.mono (fun k hk => by subst hk; rfl)) HP1.out (.inl rfl) (fun q hq => HR.out.od q (List.mem_of_mem_take hq)) (nodup_take HR.out.nd)
  refine ⟨rfl, k1, ?_, k2⟩
  have hst : Stay (fun k => k = g ∨ k = r) w (w1.setCell ⟨r, 0, none⟩ (.slice (some ⟨g, 0, none⟩) n c)) := (HS1.out.mono (fun k hk => .inl hk)).trans (Stay.setCell _ _ _ (.inr rfl))
  obtain ⟨cs, fr, hg⟩ := HP.out.ty
  refine HO.out.1.stay hst (fun hk => ?_) (fun k hk hx => ?_)
  · rcases hk with hk | hk
    · exact ne_ty HO.out.1.g hg (by decide) hk
    · exact ne_ty HO.out.1.g HG.out (by decide) hk
  · obtain ⟨cs', fr', hg'⟩ := HO.out.1.e.2 k hk
    rcases hx with hx | hx
    · exact ne_ty hg' hg (by decide) hx
    · exact ne_ty hg' HG.out (by decide) hx

/-- What Pop of a heap leaves. -/
structure Popped (A : Nat → Prop) (w w' : World) (r : Nat) (H H' : List Od) (o : Od) : Prop where
  perm : H.Perm (o :: H')
  min : ∀ b ∈ H, lessO b o = false
  heap : HF H' 0 H'.length
  rd : RdAt (fun k => A k ∨ w.heap.size ≤ k) w' r H'
  od : OdAt w' o
  ok : A o.p ∧ o.l ≠ [] ∧ ∀ k, o.v.ownBlock = some k → A k
  st : Stay A w w'
set_option maxHeartbeats 1000000 in
theorem hpop_any (A : Nat → Prop) (w : World) (r n : Nat) (H : List Od) (h : RdAt A w r H) (hn : H.length = n + 1) (hf : HF H 0 H.length) (hlen : n ≤ 100000) :
    Calls Try.prog 19 #[hv r] w fun e w' => ∃ o H', e = .returned (.iface 48 (.pointer (some ⟨o.p, 0, none⟩))) ∧ Popped A w w' r H H' o := by
  obtain ⟨o, ho⟩ : ∃ o, H[0]? = some o := ⟨_, List.getElem?_eq_getElem (by omega)⟩
  have HO := Lib.hid ho
  have HR := Lib.hid h
  have HN := Lib.hid hn
  have HFF := Lib.hid hf
  obtain ⟨g, c, hr, hP, hA, hc1, hc2⟩ := h.row (by omega)
  rw [hn] at hr hP hc1
  have hl := len_any w _ H hP
  rw [hn] at hl
  have HL := Lib.hid hl
  have hm := meth_len _ _ _ hr
  have hm2 := meth_swap _ _ _ hr
  have HG := Lib.hid hr
  have HP := Lib.hid hP
  have HA := Lib.hid hA
  have HSW := Lib.hid (rd_swap (i := 0) (j := n) hn.symm h hr hP hA (by omega) (by omega))
  have hnI : (n : Int) ≤ 100000 := by omega
  have hpl := fun W => meth_pop W r
  clear h hn hf ho hr hP hA hl hc1 hc2
  unfold hv
  go_enter Try.func19, Try.ntmps19
  go_wp2_with fail
  refine HL.out.mono ?_
  rintro e w' ⟨rfl, hw⟩
  rw [hw]
  clear hm hw
  go_wp2_with fail
  refine HSW.out.mono ?_
  rintro e w1 ⟨rfl, hR1, hr1, hs1⟩
  have HR1 := Lib.hid hR1
  have HS1 := Lib.hid hs1
  clear hR1 hr1 hs1 hm2
  go_wp2_with fail
  refine (down_any A w1 r (swapL H 0 n) 0 n HR1.out (by rw [swap_len, HN.out]; omega) (by rw [swap_len, HN.out]; omega) (Nat.zero_le _) (fun j a b h0 h1 h2 ha hb => ?_)).mono ?_
  · rw [swap_at (by have := HN.out; omega) (by have := HN.out; omega), if_neg (by omega), if_neg (by omega)] at ha hb
    exact HFF.out j a b h0 (by have := HN.out; omega) (Nat.zero_le _) ha hb
  rintro e w2 ⟨b, H2, rfl, hR2, hP2, hK2, hF2, hS2⟩
  have HR2 := Lib.hid hR2
  have HP2 := Lib.hid hP2
  have HK2 := Lib.hid hK2
  have HF2 := Lib.hid hF2
  have HS2 := Lib.hid hS2
  clear hR2 hP2 hK2 hF2 hS2
  have HL2 := Lib.hid (show H2.length = n + 1 by rw [HP2.out.length_eq, swap_len, HN.out])
  have HO2 := Lib.hid (show H2[n]? = some o by rw [HK2.out n (Nat.le_refl _), swap_at (by have := HN.out; omega) (by have := HN.out; omega), if_pos rfl]; exact HO.out)
  go_wp2_with fail
  refine (opop_any A w2 r n H2 o HR2.out HL2.out HO2.out (by omega)).mono ?_
  rintro e w3 ⟨rfl, hR3, hO3, hS3⟩
  have HR3 := Lib.hid hR3
  have HO3 := Lib.hid hO3
  have HS3 := Lib.hid hS3
  clear hR3 hO3 hS3
  go_wp2
  go_ret
  have hst := (HS1.out.trans HS2.out).trans HS3.out
  have hsz : w.heap.size ≤ w2.heap.size := (HS1.out.trans HS2.out).size
  have hlt : (H2.take n).length = n := by rw [List.length_take, HL2.out]; omega
  have hsplit : H2 = H2.take n ++ [o] := by
    have h1 := List.take_append_drop n H2
    rw [List.drop_eq_getElem?_toList_append, HO2.out, List.drop_eq_nil_of_le (by rw [HL2.out]; omega)] at h1
    simpa using h1.symm
  refine ⟨o, H2.take n, rfl, ⟨?_, fun b hb => ?_, ?_, ?_, HO3.out, (HR.out.at HO.out).2, hst⟩⟩
  · have h1 : H2.Perm H := HP2.out.trans (swap_perm _ _ _)
    refine h1.symm.trans ?_
    rw [hsplit]
    conv => rhs; rw [← hsplit]
    exact List.perm_append_comm
  · obtain ⟨i, hi, rfl⟩ := List.getElem_of_mem hb
    exact HFF.out.min HO.out i _ hi (Nat.le_refl _) (List.getElem?_eq_getElem hi)
  · rw [hlt]
    intro j a b h0 h1 h2 ha hb
    rw [List.getElem?_take_of_lt (by omega)] at ha hb
    exact HF2.out j a b h0 h1 h2 ha hb
  · exact HR3.out.mono (fun k _ hk => hk.imp (fun x => x) (fun x => Nat.le_trans hsz x))

set_option maxHeartbeats 1000000 in
theorem hpush_any (A : Nat → Prop) (w : World) (r : Nat) (H : List Od) (o : Od) (h : RdAt A w r H) (hf : HF H 0 H.length) (ho : OdAt w o) (hA : A o.p) (hl : o.l ≠ []) (hb : ∀ k, o.v.ownBlock = some k → A k) (hnd : ∀ q ∈ H, q.p ≠ o.p) (hlen : H.length ≤ 100000) :
    Calls Try.prog 20 #[hv r, .iface 48 (.pointer (some ⟨o.p, 0, none⟩))] w fun e w' => ∃ H', e = .returned (.tuple #[]) ∧ H'.Perm (o :: H) ∧ HF H' 0 H'.length ∧ RdAt (fun k => A k ∨ w.heap.size ≤ k) w' r H' ∧ Stay A w w' := by
  have HPU := Lib.hid (opush_any A w r H o h ho hA hl hb hnd (by omega))
  have HU := Lib.hid (Up.begin hf o)
  have hpl := fun W => meth_push W r
  have hnI : (H.length : Int) ≤ 100000 := by omega
  have HB := Lib.hid hlen
  clear h hf ho hA hl hb hnd hlen
  unfold hv
  go_enter Try.func20, Try.ntmps20
  go_wp2_with fail
  refine HPU.out.mono ?_
  rintro e w1 ⟨rfl, hR1, hS1⟩
  have HR1 := Lib.hid hR1
  have HS1 := Lib.hid hS1
  obtain ⟨v1, hr1, hP1, _⟩ := hR1.ex
  have hm := meth_len _ _ _ hr1
  have hlen1 := len_any w1 v1 (H ++ [o]) hP1
  rw [List.length_append, List.length_singleton] at hlen1
  have HL1 := Lib.hid hlen1
  clear hR1 hS1 hr1 hP1 hpl hlen1
  go_wp2_with fail
  refine HL1.out.mono ?_
  rintro e w' ⟨rfl, hw⟩
  rw [hw]
  clear hm hw
  have hcast : ((H.length + 1 : Nat) : Int) = (H.length : Int) + 1 := by omega
  go_wp2_with fail
  refine (up_any _ w1 r (H ++ [o]) H.length HR1.out (by rw [List.length_append, List.length_singleton]; omega) (by rw [List.length_append, List.length_singleton]; have := HB.out; omega) HU.out).mono ?_
  rintro e w2 ⟨H2, rfl, hR2, hP2, hF2, hS2⟩
  have HR2 := Lib.hid hR2
  have HP2 := Lib.hid hP2
  have HF2 := Lib.hid hF2
  have HS2 := Lib.hid hS2
  clear hR2 hP2 hF2 hS2
  go_wp2
  refine bodyPost_end (results_none rfl _ _ _) rfl ⟨H2, rfl, HP2.out.trans List.perm_append_comm, HF2.out, HR2.out, HS1.out.andThen HS2.out (fun k hk hA => ?_)⟩
  rcases hA with hA | hA
  · exact hA
  · omega
end Go.Proofs.Ytdfhjmodacjilaa.Mg
