/-
  merge: a reader in memory; the heap over it: down, up.
-/
import Derived.Test.YtdfhjmodacjilaaMgA
namespace Go.Proofs.Ytdfhjmodacjilaa.Mg
open Go.RowKit Go.Maps Me
set_option maxRecDepth 100000
set_option linter.unusedVariables false

/-- A reader in memory, all of its blocks among A. -/
structure RdAt (A : Nat → Prop) (w : World) (r : Nat) (H : List Od) : Prop where
  ex : ∃ v, w.heap[r]? = some (.cells #[v] 45 (0, 0)) ∧ PO 0 w v H ∧ ∀ k, v.ownBlock = some k → A k
  od : ∀ o ∈ H, OdAt w o ∧ A o.p ∧ o.l ≠ [] ∧ ∀ k, o.v.ownBlock = some k → A k
  nd : (H.map (·.p)).Nodup
  rr : A r
theorem ne_ty {w : World} {a b : Nat} {c1 c2 : Array Value} {t1 t2 : TypeId} {f1 f2 : Nat × Nat} (h1 : w.heap[a]? = some (.cells c1 t1 f1)) (h2 : w.heap[b]? = some (.cells c2 t2 f2)) (ht : t1 ≠ t2) : a ≠ b := by
  rintro rfl
  rw [h1] at h2
  cases h2
  exact ht rfl
section
variable {A A' X : Nat → Prop} {w w' : World} {r : Nat} {H H' : List Od}
theorem RdAt.lt (h : RdAt A w r H) : r < w.heap.size := by
  obtain ⟨v, h1, _⟩ := h.ex
  exact (Array.getElem?_eq_some_iff.1 h1).1
theorem RdAt.stay (h : RdAt A w r H) (hs : Stay X w w') (hx : ∀ k, A k → ¬ X k) : RdAt A w' r H := by
  obtain ⟨v, h1, h2, h3⟩ := h.ex
  exact ⟨⟨v, (hs.block r h.lt (hx r h.rr)).trans h1, h2.stay hs (fun k hk => hx k (h3 k hk)), h3⟩, fun o ho => ⟨(h.od o ho).1.stay hs (hx _ (h.od o ho).2.1) (fun k hk => hx k ((h.od o ho).2.2.2 k hk)), (h.od o ho).2⟩, h.nd, h.rr⟩
theorem RdAt.stay0 (h : RdAt A w r H) (hs : Stay (fun _ => False) w w') : RdAt A w' r H := h.stay hs (fun _ _ x => x)
theorem RdAt.mono (h : RdAt A w r H) (hb : ∀ k, k < w.heap.size → A k → A' k) : RdAt A' w r H := by
  obtain ⟨v, h1, h2, h3⟩ := h.ex
  refine ⟨⟨v, h1, h2, fun k hk => hb k (h2.lt k hk).2 (h3 k hk)⟩, fun o ho => ?_, h.nd, hb r h.lt h.rr⟩
  obtain ⟨h4, h5, h6, h7⟩ := h.od o ho
  refine ⟨h4, hb _ h4.lt h5, h6, fun k hk => ?_⟩
  obtain ⟨cs, fr, hg⟩ := h4.e.2 k hk
  exact hb k (Array.getElem?_eq_some_iff.1 hg).1 (h7 k hk)
theorem RdAt.at (h : RdAt A w r H) {j : Nat} {o : Od} (hj : H[j]? = some o) : OdAt w o ∧ A o.p ∧ o.l ≠ [] ∧ ∀ k, o.v.ownBlock = some k → A k := h.od o (List.mem_of_getElem? hj)
/-- Its row of pointers. -/
theorem RdAt.row (h : RdAt A w r H) (h0 : 0 < H.length) : ∃ g c, w.heap[r]? = some (.cells #[.slice (some ⟨g, 0, none⟩) H.length c] 45 (0, 0)) ∧ PO 0 w (.slice (some ⟨g, 0, none⟩) H.length c) H ∧ A g ∧ H.length ≤ c ∧ c ≤ 9223372036854775807 := by
  obtain ⟨v, h1, h2, h3⟩ := h.ex
  obtain ⟨g, c, rfl, h4, h5, _⟩ := h2.at h0
  exact ⟨g, c, h1, h2, h3 g rfl, h4, h5⟩
/-- Behind a change in the row of pointers alone. -/
theorem RdAt.turn {g c n : Nat} (h : RdAt A w r H) (h1 : w.heap[r]? = some (.cells #[.slice (some ⟨g, 0, none⟩) n c] 45 (0, 0))) (hP : PO 0 w (.slice (some ⟨g, 0, none⟩) n c) H) (hA : A g) (hs : Stay (· = g) w w') (hP' : PO 0 w' (.slice (some ⟨g, 0, none⟩) n c) H') (hp : H'.Perm H) : RdAt A w' r H' := by
  obtain ⟨cs, fr, hg⟩ := hP.ty
  have hrg : r ≠ g := ne_ty h1 hg (by decide)
  refine ⟨⟨_, (hs.block r h.lt hrg).trans h1, hP', fun k hk => by cases hk; exact hA⟩, fun o ho => ?_, (hp.map _).nodup_iff.2 h.nd, h.rr⟩
  obtain ⟨h4, h5, h6, h7⟩ := h.od o (hp.mem_iff.1 ho)
  refine ⟨h4.stay hs (ne_ty h4.g hg (by decide)) (fun k hk => ?_), h5, h6, h7⟩
  obtain ⟨cs', fr', hg'⟩ := h4.e.2 k hk
  exact ne_ty hg' hg (by decide)
end
/-- A reader's heap, as heap's calls take it. -/
def hv (r : Nat) : Value := .iface 52 (.pointer (some ⟨r, 0, none⟩))

/-- The heap's calls, through the interface. -/
theorem run_chk (P : Program) (w : World) (t : TypeId) (a : Addr) (s1 s2 : ByteArray) : (Builtin.ssaWrapNilChk_ #[t] t #[.pointer (some a), .string s1, .string s2]).run P w = .ok (.pointer (some a)) w := rfl
theorem meth_of {P : Program} {w : World} {n : Nat} {t ty : TypeId} {r : Nat} {nm : String} {f : FuncId} {v : Value} (hm : ((P.info? t).bind (fun i => i.methods.find? (fun m => m.name == nm))).map (fun m => (m.path.toList, m.func)) = some ([], some (f, false))) (hu : P.underlying t = some (.pointer ty)) (hl : (loadVar ty ⟨r, 0, none⟩).run P w = .ok v w) : (method (n + 1) t (.pointer (some ⟨r, 0, none⟩)) nm).run P w = .ok (f, v) w := by
  cases hi : P.info? t with
  | none => simp [hi] at hm
  | some i =>
    rw [hi] at hm
    cases hf : i.methods.find? (fun m => m.name == nm) with
    | none => simp [hf] at hm
    | some m =>
      simp [hf] at hm
      obtain ⟨h1, h2⟩ := hm
      unfold method
      simp [typeInfo, hi, hf, h1, h2, follow, receiverAt, run_underlying hu, Sem.run_bind, Place.get, run_chk, strVal, asAddr, hl]
theorem load_orders {w : World} {r : Nat} {v : Value} (h : w.heap[r]? = some (.cells #[v] 45 (0, 0))) : (loadVar 43 ⟨r, 0, none⟩).run Try.prog w = .ok v w := by
  have hc : w.cell? ⟨r, 0, none⟩ = some v := by rw [cell_of_row w r 0 _ _ _ h]; rfl
  go_simp
theorem meth_len (w : World) (r : Nat) (v : Value) (h : w.heap[r]? = some (.cells #[v] 45 (0, 0))) : (method 182 52 (.pointer (some ⟨r, 0, none⟩)) "Len").run Try.prog w = .ok (38, v) w :=
  meth_of (by kernel_rfl) Try.underlying52 (load_orders h)
theorem meth_less (w : World) (r : Nat) (v : Value) (h : w.heap[r]? = some (.cells #[v] 45 (0, 0))) : (method 182 52 (.pointer (some ⟨r, 0, none⟩)) "Less").run Try.prog w = .ok (39, v) w :=
  meth_of (by kernel_rfl) Try.underlying52 (load_orders h)
theorem meth_swap (w : World) (r : Nat) (v : Value) (h : w.heap[r]? = some (.cells #[v] 45 (0, 0))) : (method 182 52 (.pointer (some ⟨r, 0, none⟩)) "Swap").run Try.prog w = .ok (40, v) w :=
  meth_of (by kernel_rfl) Try.underlying52 (load_orders h)
theorem meth_push (w : World) (r : Nat) : (method 182 52 (.pointer (some ⟨r, 0, none⟩)) "Push").run Try.prog w = .ok (43, .pointer (some ⟨r, 0, none⟩)) w := by kernel_rfl
theorem meth_pop (w : World) (r : Nat) : (method 182 52 (.pointer (some ⟨r, 0, none⟩)) "Pop").run Try.prog w = .ok (42, .pointer (some ⟨r, 0, none⟩)) w := by kernel_rfl

section
variable {A : Nat → Prop} {w : World} {r : Nat} {H : List Od}
theorem rd_less {v : Value} {i j : Nat} {a b : Od} (h : RdAt A w r H) (hP : PO 0 w v H) (hi : H[i]? = some a) (hj : H[j]? = some b) :
    Calls Try.prog 39 #[v, .int .i64 (i : Int), .int .i64 (j : Int)] w fun e w' => e = .returned (.bool (lessO a b)) ∧ Stay (fun _ => False) w w' :=
  less_any w v H i j a b hP hi hj (h.at hi).1 (h.at hj).1 (h.at hi).2.2.1 (h.at hj).2.2.1
theorem rd_swap {g n c : Nat} {i j : Nat} (hn : n = H.length) (h : RdAt A w r H) (h1 : w.heap[r]? = some (.cells #[.slice (some ⟨g, 0, none⟩) n c] 45 (0, 0))) (hP : PO 0 w (.slice (some ⟨g, 0, none⟩) n c) H) (hA : A g) (hi : i < H.length) (hj : j < H.length) :
    Calls Try.prog 40 #[.slice (some ⟨g, 0, none⟩) n c, .int .i64 (i : Int), .int .i64 (j : Int)] w fun e w' => e = .returned (.tuple #[]) ∧ RdAt A w' r (swapL H i j) ∧ w'.heap[r]? = some (.cells #[.slice (some ⟨g, 0, none⟩) n c] 45 (0, 0)) ∧ Stay A w w' := by
  refine (swap_any w g n c H i j hn hP hi hj).mono fun e w' ⟨he, hP', hs⟩ => ⟨he, h.turn h1 hP hA hs hP' (swap_perm H i j), ?_, hs.mono (fun k hk => by subst hk; exact hA)⟩
  obtain ⟨cs, fr, hg⟩ := hP.ty
  exact (hs.block r h.lt (ne_ty h1 hg (by decide))).trans h1
end

set_option maxHeartbeats 1000000 in
theorem down_any (A : Nat → Prop) (w : World) (r : Nat) (H : List Od) (i n : Nat) (h : RdAt A w r H) (hn : n ≤ H.length) (hb : H.length ≤ 1000000) (hi : i ≤ n) (hf : HF H (i + 1) n) :
    Calls Try.prog 18 #[hv r, .int .i64 (i : Int), .int .i64 (n : Int)] w fun e w' => ∃ b H', e = .returned (.bool b) ∧ RdAt A w' r H' ∧ H'.Perm H ∧ (∀ k, n ≤ k → H'[k]? = H[k]?) ∧ HF H' i n ∧ Stay A w w' := by
  have HD := Lib.hid (Dn.begin hf)
  have HR := Lib.hid h
  have hnb : (n : Int) ≤ 1000000 := by omega
  have HN := Lib.hid hn
  have HB := Lib.hid hb
  clear hf h hn hb
  unfold hv
  go_enter Try.func18, Try.ntmps18
  go_wp2
  go_loopw [7] (fun t wr => ∃ (t0 : Nat) (H' : List Od), t = .int .i64 (t0 : Int) ∧ i ≤ t0 ∧ t0 ≤ n ∧ Hid (Dn H' i t0 n) ∧ Hid (RdAt A wr r H') ∧ Hid (H'.Perm H) ∧ Hid (∀ k, n ≤ k → H'[k]? = H[k]?) ∧ Hid (Stay A w wr)) (fun t _ => n - (intOf t).toNat)
  case atStart => exact ⟨i, H, rfl, Nat.le_refl _, hi, HD, HR, Lib.hid (List.Perm.refl _), Lib.hid (fun _ _ => rfl), Lib.hid (Stay.refl _ _)⟩
  case round =>
    obtain ⟨t, H', rfl, h1, h2, HD', HR', HP', HK', HS'⟩ := hrel
    have HL' := Lib.hid (show n ≤ H'.length by rw [HP'.out.length_eq]; exact HN.out)
    obtain ⟨j1, ej1⟩ : ∃ j1, j1 = 2 * t + 1 := ⟨_, rfl⟩
    have hjI : 2 * (t : Int) + 1 = (j1 : Int) := by omega
    have EJ1 := Lib.hid ej1
    clear ej1
    by_cases hj1 : j1 < n
    · obtain ⟨j2, ej2⟩ : ∃ j2, j2 = j1 + 1 := ⟨_, rfl⟩
      have hj2I : (j1 : Int) + 1 = (j2 : Int) := by omega
      have EJ2 := Lib.hid ej2
      clear ej2
      have hge : ¬ (n : Int) ≤ (j1 : Int) := by omega
      obtain ⟨x, hx⟩ : ∃ x, H'[t]? = some x := ⟨_, List.getElem?_eq_getElem (by have := HL'.out; have := EJ1.out; omega)⟩
      obtain ⟨y1, hy1⟩ : ∃ y, H'[j1]? = some y := ⟨_, List.getElem?_eq_getElem (by have := HL'.out; omega)⟩
      have HX := Lib.hid hx
      have HY1 := Lib.hid hy1
      clear hx hy1
      obtain ⟨g, c, hr, hP, hA, _, _⟩ := HR'.out.row (by have := HL'.out; omega)
      have hm := meth_less _ _ _ hr
      have HPo := Lib.hid hP
      clear hP
      by_cases hj2 : j2 < n
      · have hlt2 : (j2 : Int) < (n : Int) := by omega
        obtain ⟨y2, hy2⟩ : ∃ y, H'[j2]? = some y := ⟨_, List.getElem?_eq_getElem (by have := HL'.out; omega)⟩
        have HY2 := Lib.hid hy2
        clear hy2
        cases hl21 : lessO y2 y1 with
        | true =>
          have HLT := Lib.hid hl21
          go_wp2_with fail
          refine (rd_less HR'.out HPo.out HY2.out HY1.out).mono ?_
          rintro e w1 ⟨rfl, hs1⟩
          rw [hl21]
          have hr1 := (hs1.block _ HR'.out.lt (fun x => x)).trans hr
          have HR1 := Lib.hid (HR'.out.stay0 hs1)
          have HP1 := Lib.hid (HPo.out.stay0 hs1)
          have hm1 := meth_less _ _ _ hr1
          have HS1 := Lib.hid hs1
          clear hm hs1 hl21 hr
          have HM := Lib.hid (show ∀ q b, 0 < q → q < n → (q - 1) / 2 = t → H'[q]? = some b → lessO b y2 = false from fun q b hq0 hq1 hqp hb => by
                      have e1 := EJ1.out; have e2 := EJ2.out
                      by_cases hq : q = j2
                      · subst hq; rw [HY2.out] at hb; cases hb; exact less_self _
                      · have hq' : q = j1 := by omega
                        subst hq'; rw [HY1.out] at hb; cases hb; exact less_not HLT.out)
          cases hlx : lessO y2 x with
          | true =>
            have HLX := Lib.hid hlx
            have HSTEP := Lib.hid (HD'.out.step (by rw [HP'.out.length_eq]; exact HN.out) h1 (by omega) (by omega) (by have := EJ1.out; have := EJ2.out; omega) HX.out HY2.out HLX.out HM.out)
            go_wp2_with fail
            refine (rd_less HR1.out HP1.out HY2.out HX.out).mono ?_
            rintro e w2 ⟨rfl, hs2⟩
            rw [hlx]
            have hr2 := (hs2.block _ HR1.out.lt (fun x => x)).trans hr1
            have HR2 := Lib.hid (HR1.out.stay0 hs2)
            have HP2 := Lib.hid (HP1.out.stay0 hs2)
            have hm2 := meth_swap _ _ _ hr2
            have HS2 := Lib.hid hs2
            clear hm1 hs2 hlx
            go_wp2_with fail
            refine (rd_swap rfl HR2.out hr2 HP2.out hA (by have := HL'.out; omega) (by have := HL'.out; omega)).mono ?_
            rintro e w3 ⟨rfl, hR3, hr3, hs3⟩
            have HR3 := Lib.hid hR3
            have HS3 := Lib.hid hs3
            clear hm2 hr2 hr3 hR3 hs3
            go_wp2
            refine ⟨⟨j2, swapL H' t j2, rfl, by have := EJ1.out; have := EJ2.out; omega, by omega, HSTEP, HR3, Lib.hid ((swap_perm _ _ _).trans HP'.out), Lib.hid (fun k hk => ?_), Lib.hid (((HS'.out.trans ((HS1.out).mono (fun _ x => x.elim))).trans (HS2.out.mono (fun _ x => x.elim))).trans HS3.out)⟩, ?_⟩
            · rw [swap_at (by have := HL'.out; omega) (by have := HL'.out; omega), if_neg (by omega), if_neg (by omega)]
              exact HK'.out k hk
            · simp [intOf]; have := EJ1.out; have := EJ2.out; omega
          | false =>
            have HLX := Lib.hid hlx
            have HDONE := Lib.hid (HD'.out.done (fun q a b hq0 hq1 hqp ha hb => by rw [HX.out] at ha; cases ha; exact le_trans' HLX.out (HM.out q b hq0 hq1 hqp hb)))
            go_wp2_with fail
            refine (rd_less HR1.out HP1.out HY2.out HX.out).mono ?_
            rintro e w2 ⟨rfl, hs2⟩
            rw [hlx]
            have HR2 := Lib.hid (HR1.out.stay0 hs2)
            have HS2 := Lib.hid hs2
            clear hm1 hs2 hlx
            go_wp2
            go_ret
            exact ⟨_, H', rfl, HR2.out, HP'.out, HK'.out, HDONE.out, (HS'.out.trans ((HS1.out).mono (fun _ x => x.elim))).trans (HS2.out.mono (fun _ x => x.elim))⟩
        | false =>
          have HLT := Lib.hid hl21
          go_wp2_with fail
          refine (rd_less HR'.out HPo.out HY2.out HY1.out).mono ?_
          rintro e w1 ⟨rfl, hs1⟩
          rw [hl21]
          have hr1 := (hs1.block _ HR'.out.lt (fun x => x)).trans hr
          have HR1 := Lib.hid (HR'.out.stay0 hs1)
          have HP1 := Lib.hid (HPo.out.stay0 hs1)
          have hm1 := meth_less _ _ _ hr1
          have HS1 := Lib.hid hs1
          clear hm hs1 hl21 hr
          have HM := Lib.hid (show ∀ q b, 0 < q → q < n → (q - 1) / 2 = t → H'[q]? = some b → lessO b y1 = false from fun q b hq0 hq1 hqp hb => by
                      have e1 := EJ1.out; have e2 := EJ2.out
                      by_cases hq : q = j1
                      · subst hq; rw [HY1.out] at hb; cases hb; exact less_self _
                      · have hq' : q = j2 := by omega
                        subst hq'; rw [HY2.out] at hb; cases hb; exact HLT.out)
          cases hlx : lessO y1 x with
          | true =>
            have HLX := Lib.hid hlx
            have HSTEP := Lib.hid (HD'.out.step (by rw [HP'.out.length_eq]; exact HN.out) h1 (by omega) (by omega) (by have := EJ1.out; omega) HX.out HY1.out HLX.out HM.out)
            go_wp2_with fail
            refine (rd_less HR1.out HP1.out HY1.out HX.out).mono ?_
            rintro e w2 ⟨rfl, hs2⟩
            rw [hlx]
            have hr2 := (hs2.block _ HR1.out.lt (fun x => x)).trans hr1
            have HR2 := Lib.hid (HR1.out.stay0 hs2)
            have HP2 := Lib.hid (HP1.out.stay0 hs2)
            have hm2 := meth_swap _ _ _ hr2
            have HS2 := Lib.hid hs2
            clear hm1 hs2 hlx
            go_wp2_with fail
            refine (rd_swap rfl HR2.out hr2 HP2.out hA (by have := HL'.out; omega) (by have := HL'.out; omega)).mono ?_
            rintro e w3 ⟨rfl, hR3, hr3, hs3⟩
            have HR3 := Lib.hid hR3
            have HS3 := Lib.hid hs3
            clear hm2 hr2 hr3 hR3 hs3
            go_wp2
            refine ⟨⟨j1, swapL H' t j1, rfl, by have := EJ1.out; omega, by omega, HSTEP, HR3, Lib.hid ((swap_perm _ _ _).trans HP'.out), Lib.hid (fun k hk => ?_), Lib.hid (((HS'.out.trans ((HS1.out).mono (fun _ x => x.elim))).trans (HS2.out.mono (fun _ x => x.elim))).trans HS3.out)⟩, ?_⟩
            · rw [swap_at (by have := HL'.out; omega) (by have := HL'.out; omega), if_neg (by omega), if_neg (by omega)]
              exact HK'.out k hk
            · simp [intOf]; have := EJ1.out; omega
          | false =>
            have HLX := Lib.hid hlx
            have HDONE := Lib.hid (HD'.out.done (fun q a b hq0 hq1 hqp ha hb => by rw [HX.out] at ha; cases ha; exact le_trans' HLX.out (HM.out q b hq0 hq1 hqp hb)))
            go_wp2_with fail
            refine (rd_less HR1.out HP1.out HY1.out HX.out).mono ?_
            rintro e w2 ⟨rfl, hs2⟩
            rw [hlx]
            have HR2 := Lib.hid (HR1.out.stay0 hs2)
            have HS2 := Lib.hid hs2
            clear hm1 hs2 hlx
            go_wp2
            go_ret
            exact ⟨_, H', rfl, HR2.out, HP'.out, HK'.out, HDONE.out, (HS'.out.trans ((HS1.out).mono (fun _ x => x.elim))).trans (HS2.out.mono (fun _ x => x.elim))⟩
      · have hnlt2 : ¬ (j2 : Int) < (n : Int) := by omega
        have HM := Lib.hid (show ∀ q b, 0 < q → q < n → (q - 1) / 2 = t → H'[q]? = some b → lessO b y1 = false from fun q b hq0 hq1 hqp hb => by
                  have e1 := EJ1.out; have e2 := EJ2.out
                  have hq : q = j1 := by omega
                  subst hq; rw [HY1.out] at hb; cases hb; exact less_self _)
        cases hlx : lessO y1 x with
        | true =>
          have HLX := Lib.hid hlx
          have HSTEP := Lib.hid (HD'.out.step (by rw [HP'.out.length_eq]; exact HN.out) h1 (by omega) (by omega) (by have := EJ1.out; omega) HX.out HY1.out HLX.out HM.out)
          go_wp2_with fail
          refine (rd_less HR'.out HPo.out HY1.out HX.out).mono ?_
          rintro e w2 ⟨rfl, hs2⟩
          rw [hlx]
          have hr2 := (hs2.block _ HR'.out.lt (fun x => x)).trans hr
          have HR2 := Lib.hid (HR'.out.stay0 hs2)
          have HP2 := Lib.hid (HPo.out.stay0 hs2)
          have hm2 := meth_swap _ _ _ hr2
          have HS2 := Lib.hid hs2
          clear hm hs2 hlx
          go_wp2_with fail
          refine (rd_swap rfl HR2.out hr2 HP2.out hA (by have := HL'.out; omega) (by have := HL'.out; omega)).mono ?_
          rintro e w3 ⟨rfl, hR3, hr3, hs3⟩
          have HR3 := Lib.hid hR3
          have HS3 := Lib.hid hs3
          clear hm2 hr2 hr3 hR3 hs3
          go_wp2
          refine ⟨⟨j1, swapL H' t j1, rfl, by have := EJ1.out; omega, by omega, HSTEP, HR3, Lib.hid ((swap_perm _ _ _).trans HP'.out), Lib.hid (fun k hk => ?_), Lib.hid (((HS'.out.trans ((Stay.refl (fun _ => False) wr).mono (fun _ x => x.elim))).trans (HS2.out.mono (fun _ x => x.elim))).trans HS3.out)⟩, ?_⟩
          · rw [swap_at (by have := HL'.out; omega) (by have := HL'.out; omega), if_neg (by omega), if_neg (by omega)]
            exact HK'.out k hk
          · simp [intOf]; have := EJ1.out; omega
        | false =>
          have HLX := Lib.hid hlx
          have HDONE := Lib.hid (HD'.out.done (fun q a b hq0 hq1 hqp ha hb => by rw [HX.out] at ha; cases ha; exact le_trans' HLX.out (HM.out q b hq0 hq1 hqp hb)))
          go_wp2_with fail
          refine (rd_less HR'.out HPo.out HY1.out HX.out).mono ?_
          rintro e w2 ⟨rfl, hs2⟩
          rw [hlx]
          have HR2 := Lib.hid (HR'.out.stay0 hs2)
          have HS2 := Lib.hid hs2
          clear hm hs2 hlx
          go_wp2
          go_ret
          exact ⟨_, H', rfl, HR2.out, HP'.out, HK'.out, HDONE.out, (HS'.out.trans ((Stay.refl (fun _ => False) wr).mono (fun _ x => x.elim))).trans (HS2.out.mono (fun _ x => x.elim))⟩
    · have HDONE := Lib.hid (HD'.out.done (fun q a b hq0 hq1 hqp ha hb => by have := EJ1.out; omega))
      go_wp2
      go_ret
      exact ⟨_, H', rfl, HR'.out, HP'.out, HK'.out, HDONE.out, HS'.out⟩
end Go.Proofs.Ytdfhjmodacjilaa.Mg
