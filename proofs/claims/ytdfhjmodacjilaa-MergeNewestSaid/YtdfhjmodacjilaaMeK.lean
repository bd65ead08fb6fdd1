/-
  mem: the document's Get and Range; what must come whatever the input is.
-/
import Derived.Test.YtdfhjmodacjilaaMeJ
namespace Go.Proofs.Ytdfhjmodacjilaa.Me
open Go.RowKit Go.Maps
set_option maxRecDepth 100000
set_option linter.unusedVariables false

theorem getL_take {L : List En} {k : List UInt8} {j : Nat} {e : En} (h : getL (L.take j) k = none) (he : L[j]? = some e) : getL (L.take (j + 1)) k = if e.k = k then some e else none := by
  rw [List.take_add_one, he]
  unfold getL at h ⊢
  rw [Option.toList_some, List.find?_append, h, Option.none_or, List.find?_singleton]
  by_cases hk : e.k = k <;> simp [hk]
theorem getL_some {L : List En} {k : List UInt8} {j : Nat} {e : En} (h : getL (L.take j) k = some e) : getL L k = some e := by
  have h0 : L = L.take j ++ L.drop j := (List.take_append_drop j L).symm
  rw [h0]
  unfold getL at h ⊢
  rw [List.find?_append, h, Option.some_or]

set_option maxHeartbeats 4000000 in
theorem rget_any (w : World) (x : Value) (L : List En) (k : List UInt8) (hx : EnS w x L) :
    Calls Try.prog 9 #[x, strV k] w fun e w' => e = .returned (.tuple #[enV (entOf (getL L k)), .bool (getL L k).isSome]) ∧ Stay (fun _ => False) w w' := by
  have HBX := Lib.hid (Box.new w ⟨[], [], false⟩)
  have HA := Lib.hid (show Stay (fun _ => False) w (w.alloc (.cells (enC ⟨[], [], false⟩).toArray 28)) from Stay.alloc _ _)
  have H1 := Lib.hid (hx.stay0 HA.out)
  obtain ⟨w0, hw0⟩ : ∃ w0, w.alloc (.cells (enC ⟨[], [], false⟩).toArray 28) = w0 := ⟨_, rfl⟩
  rw [hw0] at HBX HA H1
  have W0 := Lib.hid hw0
  obtain ⟨a0, c, rfl, hnc, hcm, _⟩ := hx
  clear hw0
  go_enter Try.func9, Try.ntmps9
  go_wp2_with (first
    | (with_reducible refine alloc_en rfl rfl ?_; rw [W0.out]))
  go_loopw [6] (fun i wr => ∃ j : Nat, i = .int .i64 (j : Int) ∧ j ≤ L.length ∧ Hid (getL (L.take j) k = none) ∧ Stay (fun _ => False) w0 wr) (fun i _ => L.length - (intOf i).toNat)
  case atStart => exact ⟨0, rfl, Nat.zero_le _, Lib.hid rfl, Stay.refl _ _⟩
  case round =>
    obtain ⟨j, rfl, hj, he, hst⟩ := hrel
    have HT := Lib.hid hst
    have HB1 := Lib.hid (HBX.out.stay0 hst)
    have HT1 := Lib.hid (HA.out.trans hst)
    have hX := H1.out.stay0 hst
    have HX := Lib.hid hX
    clear hst
    by_cases hlt : j < L.length
    · obtain ⟨q, hq⟩ : ∃ q, L[j]? = some q := ⟨_, List.getElem?_eq_getElem hlt⟩
      obtain ⟨g, o, rfl, _, hc⟩ := hX.at (by omega)
      obtain ⟨h0, h1, h2⟩ := hc _ q hq
      have kl := Lib.hid (run_load_at h0 h1 h2)
      have HN := Lib.hid (getL_take he.out hq)
      clear hc h1 h2 hX hq
      by_cases hk : q.k = k
      · have HG := Lib.hid (show getL L k = some q from getL_some (by rw [HN.out, if_pos hk]))
        rw [hk] at h0
        go_wp2_with (first
          | (refine wpList_load_run (by rfl) 28 (.tmp 22) rfl ⟨g, o + j * 3, none⟩ rfl _ kl.out ?_)
          | (refine Box.store HB1.out rfl (.tmp 4) (.tmp 23) rfl rfl q rfl ?_
             intro w3 hb3 hs3
             have H3 := Lib.hid hb3
             have HS3 := Lib.hid (stay_seal (HT1.out.mono (fun _ x => x.elim) |>.trans hs3) (fun k hk => by have hk' : k = w.heap.size := hk; omega))
             clear hb3 hs3))
        have hld := H3.out.run_load
        refine bodyPost_ret (v := .tuple #[enV q, .bool true]) (by simp [results, Try.results9, asAddr, hld]) rfl ⟨by rw [HG.out]; rfl, HS3.out⟩
      · have hkb : (q.k == k) = false := by simpa using hk
        have HN2 := Lib.hid (show getL (L.take (j + 1)) k = none by rw [HN.out, if_neg hk])
        go_wp2
        refine ⟨⟨j + 1, by go_num, hlt, HN2, HT.out⟩, by simp [intOf]; omega⟩
    · obtain rfl : j = L.length := by omega
      have HG := Lib.hid (show getL L k = none by have := he.out; rw [List.take_length] at this; exact this)
      clear hX
      go_wp2_with (first
        | (refine Box.store HB1.out rfl (.tmp 4) (.tmp 24) rfl rfl ⟨[], [], false⟩ rfl ?_
           intro w3 hb3 hs3
           have H3 := Lib.hid hb3
           have HS3 := Lib.hid (stay_seal (HT1.out.mono (fun _ x => x.elim) |>.trans hs3) (fun k hk => by have hk' : k = w.heap.size := hk; omega))
           clear hb3 hs3))
      have hld := H3.out.run_load
      refine bodyPost_ret (v := .tuple #[enV ⟨[], [], false⟩, .bool false]) (by simp [results, Try.results9, asAddr, hld]) rfl ⟨by rw [HG.out]; rfl, HS3.out⟩

theorem rangeL_succ {L : List En} {j : Nat} {e : En} (he : L[j]? = some e) (a b : List UInt8) : rangeL (L.take (j + 1)) a b = rangeL (L.take j) a b ++ (if (!ltB e.k a && (b == [] || ltB e.k b)) = true then [e] else []) := by
  rw [List.take_add_one, he]
  unfold rangeL
  rw [Option.toList_some, List.filter_append]
  congr 1
  rw [List.filter_cons, List.filter_nil]
theorem rangeL_len (L : List En) (a b : List UInt8) : (rangeL L a b).length ≤ L.length := List.length_filter_le _ _

end Go.Proofs.Ytdfhjmodacjilaa.Me
