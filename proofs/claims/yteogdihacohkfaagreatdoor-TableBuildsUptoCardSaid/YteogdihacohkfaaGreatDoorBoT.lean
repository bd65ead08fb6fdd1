/-
  The document's answer (chapter 11): a key laid in.
-/
import Derived.Test.YteogdihacohkfaaGreatDoorBoS
namespace Go.Proofs.YteogdihacohkfaaGreatDoor.Bo
open Go.RowKit Pk
set_option maxRecDepth 100000

theorem run_append_T {w : World} {base gb vc : Nat} {B : List Bool} (ty : TypeId) (hx : TO base w (.slice (some ⟨gb, 0, none⟩) B.length vc) B) (hn : B.length ≤ 1048576) :
    ∃ v' w', (Builtin.append_ #[48, 48] ty #[.slice none 0 0, .slice (some ⟨gb, 0, none⟩) B.length vc]).run Tryz.prog w = .ok v' w' ∧ TO w.heap.size w' v' B ∧ Stay (fun _ => False) w w' := by
  obtain ⟨i0, hi, hz0, hz1, hz2⟩ := info_parts infoB
  obtain ⟨v', w', hrun, h4, h5, _, h7⟩ := run_append_own_at (P := Tryz.prog) w w.heap.size 48 ty 4 i0 (.bool false) 1 1 Tryz.underlying48 hi hz0 hz1 hz2 rfl (by decide) (.slice none 0 0) 0 [] (World.ownsRow_nil w w.heap.size _ _) ⟨gb, 0, none⟩ B.length vc (cellsT B) (by rw [len_T, Nat.mul_one])
    (fun j u hu => by
      rw [add_at, Nat.zero_add]
      exact row_cell hx hu)
    (fun u hu => by
      obtain ⟨i, _, rfl⟩ := List.mem_map.1 hu
      rfl)
    (by unfold maxLen; omega) (by omega) (Nat.le_refl _)
  rw [Nat.zero_add, List.nil_append] at h4
  exact ⟨v', w', hrun, h4, Stay.grown (X := fun _ => False) h5 (fun k (e : (Value.slice none 0 0).ownBlock = some k) => by cases e)⟩
section
variable {ops : Array Oper} {rest : List Oper} {o : Oper} {a : Act} {w : World} {Q : Exit → Act → World → Prop}
theorem append_T (hgd : o.guard = none) (s x : Operand) (ho : o.op = .call { callee := .builtin .append, args := #[s, x], argTypes := #[48, 48] })
    {base gb m vc : Nat} {B : List Bool} (hm : m = B.length) (hs : a.eval s = .slice none 0 0) (hx : a.eval x = .slice (some ⟨gb, 0, none⟩) m vc) (hown : TO base w (.slice (some ⟨gb, 0, none⟩) m vc) B) (hn : B.length ≤ 1048576)
    (h : ∀ v' w', TO w.heap.size w' v' B → Stay (fun _ => False) w w' → wpList Tryz.prog ops Q rest (a.put o.dst v') w') : wpList Tryz.prog ops Q (o :: rest) a w := by
  subst hm
  exact wpList_plain hgd fun _ hK => by
    obtain ⟨v', w', hrun, h2, h3⟩ := run_append_T (w := w) o.type hown hn
    unfold Oper.wp execOp
    simp only [ho, resolve, invoke, builtin, Sem.run_bind, Sem.run_pure, Result.andThen_ok, List.map_toArray, List.map_cons, List.map_nil, hs, hx, hrun]
    exact hK _ _ (h v' w' h2 h3)
end

set_option maxHeartbeats 4000000 in
theorem radd_any (w : World) (q : Nat) (v : Value) (B : List Bool) (k : List UInt8) (base : Nat) (h : TO base w v B) (h1 : 1 ≤ B.length) (h2 : B.length ≤ 1048576) (hq : q ≤ 16) (hk : k.length + 1 ≤ 140737488355328) :
    Calls Tryz.prog 29 #[RV q v, strV k] w fun e w' => ∃ v', e = .returned (RV q v') ∧ TO w.heap.size w' v' (addB B (bitsN B.length q k)) ∧ Stay (fun _ => False) w w' := by
  obtain ⟨gb, vc, rfl, hgb1, hgb2⟩ := h.at (by omega)
  have hb := fun (w : World) (h : TO base w (.slice (some ⟨gb, 0, none⟩) B.length vc) B) => rbits_any w q _ B k base h h1 h2 hq hk
  obtain ⟨l, hl⟩ : ∃ l, l = bitsN B.length q k := ⟨_, rfl⟩
  have hlq : l.length = q := by rw [hl, bitsN_len]
  have HLB := Lib.hid (show ∀ n ∈ l, n < B.length from fun n hn => bitsN_lt h1 (hl ▸ hn))
  rw [← hl] at hb ⊢
  obtain ⟨m, hm⟩ : ∃ m, m = B.length := ⟨_, rfl⟩
  rw [← hm] at hb h h1 h2 HLB ⊢
  have HBI := Lib.hid hb
  have H := Lib.hid h
  have HM := Lib.hid hm
  obtain ⟨W2, hW2⟩ : ∃ W2, W2 = (w.alloc (.cells #[.int .i64 (q : Int), .slice (some ⟨gb, 0, none⟩) m vc] 50)).alloc (.cells #[.int .i64 0, .slice none 0 0] 50) := ⟨_, rfl⟩
  have h20 : Stay (fun _ => False) w W2 := by rw [hW2]; exact (Stay.alloc _ _).trans (Stay.alloc _ _)
  have hz2 : W2.heap.size = w.heap.size + 2 := by rw [hW2]; simp
  have hx2 : W2.heap[w.heap.size]? = some (.cells #[.int .i64 (q : Int), .slice (some ⟨gb, 0, none⟩) m vc] 50 (0, 0)) := by rw [hW2]; exact (Below.heap_alloc _ _ _ (by simp)).trans (heap_alloc_new w _)
  have hy2 : W2.heap[w.heap.size + 1]? = some (.cells #[.int .i64 0, .slice none 0 0] 50 (0, 0)) := by
    have := heap_alloc_new (w.alloc (.cells #[.int .i64 (q : Int), .slice (some ⟨gb, 0, none⟩) m vc] 50)) (.cells #[.int .i64 0, .slice none 0 0] 50)
    rw [hW2]
    simpa using this
  have HW2 := Lib.hid hW2
  have HT2 := Lib.hid (H.out.stay0 h20)
  have HS2 := Lib.hid h20
  have HX2 := Lib.hid (show ∀ W, Stay (fun _ => False) W2 W → W.heap[w.heap.size]? = some (.cells #[.int .i64 (q : Int), .slice (some ⟨gb, 0, none⟩) m vc] 50 (0, 0)) from fun W h => (h.block _ (by omega) (fun x => x)).trans hx2)
  have HY2 := Lib.hid (show ∀ W, Stay (fun _ => False) W2 W → W.heap[w.heap.size + 1]? = some (.cells #[.int .i64 0, .slice none 0 0] 50 (0, 0)) from fun W h => (h.block _ (by omega) (fun x => x)).trans hy2)
  have HZ2 := Lib.hid hz2
  clear hl hb h hm h20 hx2 hy2 hW2 hz2
  unfold RV
  go_enter Tryz.func29, Tryz.ntmps29
  go_wp2_with (at_builtin; rw [← HW2.out]; refine append_T rfl (.tmp 8) (.tmp 10) rfl HM.out rfl rfl HT2.out (by rw [← HM.out]; exact h2) ?_; intro v3 w3 ho3 hs3; obtain ⟨q0, q1, _, _⟩ := two_cells (HX2.out w3 hs3); have HO3 := Lib.hid ho3; have HS3 := Lib.hid hs3; clear ho3 hs3)
  clear q0 q1
  refine (HBI.out w3 (HT2.out.stay0 HS3.out)).mono ?_
  rintro e w4 ⟨lv, rfl, ho4, hs4⟩
  obtain ⟨la, lc, rfl⟩ := ho4.form
  obtain ⟨g3, c3, rfl, hg3, hg3b⟩ := HO3.out.at (by rw [← HM.out]; omega)
  rw [hlq] at ho4 ⊢
  rw [← HM.out] at HO3 ⊢
  have HO4 := Lib.hid (HO3.out.stay0 hs4)
  have HS4 := Lib.hid (HS3.out.trans hs4)
  have HI4 := Lib.hid ho4
  have HL := Lib.hid hlq
  have hil := ho4.lt
  have HIL := Lib.hid hil
  clear ho4 hs4 hlq hil
  go_wp2
  go_loopw [7] (fun i wr => ∃ j : Nat, j ≤ q ∧ i = .int .i64 (j : Int) ∧ TO W2.heap.size wr (.slice (some ⟨g3, 0, none⟩) m c3) (addB B (l.take j)) ∧ Stay (fun i => i = g3) w4 wr) (fun i _ => q - (intOf i).toNat)
  case atStart => exact ⟨0, Nat.zero_le _, rfl, HO4.out, Stay.refl _ _⟩
  case round =>
    obtain ⟨j, hj, rfl, ho, hst⟩ := hrel
    have hml : m = (addB B (l.take j)).length := by rw [addB_len]; exact HM.out
    have HML := Lib.hid hml
    have HO := Lib.hid ho
    have HST := Lib.hid hst
    clear ho hst hml
    by_cases hlt : j < q
    · obtain ⟨n, hn⟩ : ∃ n, l[j]? = some n := ⟨_, List.getElem?_eq_getElem (by have := HL.out; omega)⟩
      have hnB := HLB.out n (List.mem_of_getElem? hn)
      obtain ⟨gi, ic, hie, hig, _⟩ := row_at HI4.out (by rw [HL.out]; omega)
      rw [HL.out] at hie
      cases hie
      have ci := HST.out.cell (IO.cell' HL.out.symm HI4.out hn) (fun (e : gi = g3) => by omega)
      have cb := TO.cell' HML.out HO.out (getD_of (by rw [← HML.out]; exact hnB))
      have fb := TO.fr HML.out HO.out n
      have HN := Lib.hid hn
      clear hn
      go_wp2
      refine ⟨⟨j + 1, hlt, by go_num, ?_, HST.out.trans (Stay.setCell (X := fun i => i = g3) _ ⟨g3, n, none⟩ _ rfl)⟩, by simp [intOf]; omega⟩
      rw [List.take_add_one, HN.out]
      have := TO.set HML.out HO.out n true
      rw [← addB_snoc] at this
      exact this
    · obtain rfl : j = q := by omega
      have HLT := Lib.hid (show l.take j = l from List.take_of_length_le (by rw [HL.out]; exact Nat.le_refl _))
      have hzz := HZ2.out
      have HGN := Lib.hid (show g3 ≠ w.heap.size ∧ g3 ≠ w.heap.size + 1 by omega)
      have hbx := (HST.out.block _ (by have := HS4.out.size; omega) (fun e => HGN.out.1 e.symm)).trans (HX2.out w4 HS4.out)
      have hby := (HST.out.block _ (by have := HS4.out.size; omega) (fun e => HGN.out.2 e.symm)).trans (HY2.out w4 HS4.out)
      obtain ⟨q0, q1, _, _⟩ := two_cells hbx
      obtain ⟨y0, y1, g0, g1⟩ := two_cells hby
      have HBY := Lib.hid hby
      clear hbx hby
      go_wp2
      obtain ⟨d0, d1⟩ := rnew_end (a := .int .i64 (j : Int)) (v := .slice (some ⟨g3, 0, none⟩) m c3) HBY.out
      have hs5 : Stay (fun k => k = w.heap.size + 1) wr ((wr.setCell ⟨w.heap.size + 1, 0, none⟩ (.int .i64 (j : Int))).setCell ⟨w.heap.size + 1, 1, none⟩ (.slice (some ⟨g3, 0, none⟩) m c3)) := (Stay.setCell (X := fun k => k = w.heap.size + 1) _ ⟨w.heap.size + 1, 0, none⟩ _ rfl).trans (Stay.setCell (X := fun k => k = w.heap.size + 1) _ ⟨w.heap.size + 1, 1, none⟩ _ rfl)
      refine bodyPost_ret (v := .agg #[.int .i64 (j : Int), .slice (some ⟨g3, 0, none⟩) m c3]) (by simp [results, Tryz.results29, go_sem, d0, d1]) rfl ⟨_, rfl, ?_, ?_⟩
      · have h := HO.out
        rw [HLT.out] at h
        exact (h.stay hs5 (fun k hk => by cases hk; exact HGN.out.2)).base' (fun k hk => by cases hk; show w.heap.size ≤ g3; omega)
      · exact stay_seal (X := fun k => w.heap.size ≤ k) (((((HS2.out.trans HS4.out).mono (fun _ x => x.elim)).trans (HST.out.mono (fun i (hi : i = g3) => by show w.heap.size ≤ i; omega)))).trans (hs5.mono (fun i (hi : i = w.heap.size + 1) => by show w.heap.size ≤ i; omega))) (fun k hk => hk)

end Go.Proofs.YteogdihacohkfaaGreatDoor.Bo
