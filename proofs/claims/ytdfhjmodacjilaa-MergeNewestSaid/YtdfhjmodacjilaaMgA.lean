/-
  merge: orders in memory: a row of pointers, each to what is left of an order; a reader of them; which is ahead, how many, two change places.
-/
import Derived.Test.YtdfhjmodacjilaaMgH
import Derived.Test.YtdfhjmodacjilaaMeM
namespace Go.Proofs.Ytdfhjmodacjilaa.Mg
open Go.RowKit Go.Maps Me
set_option maxRecDepth 100000
set_option linter.unusedVariables false

def ptrV (p : Nat) : Value := .pointer (some ⟨p, 0, none⟩)
def cellsP (H : List Od) : List Value := H.map (fun o => ptrV o.p)
theorem len_P (H : List Od) : (cellsP H).length = H.length := by simp [cellsP]
theorem at_P {H : List Od} {j : Nat} {o : Od} (h : H[j]? = some o) : (cellsP H)[j]? = some (ptrV o.p) := by simp [cellsP, h]
/-- Pointers to orders, of one's own. -/
def PO (base : Nat) (w : World) (v : Value) (H : List Od) : Prop := w.ownsRow base 48 1 v H.length (cellsP H)
section
variable {base : Nat} {w w' : World} {v : Value} {H : List Od} {X : Nat → Prop}
theorem PO.stay (h : PO base w v H) (hs : Stay X w w') (hx : ∀ k, v.ownBlock = some k → ¬ X k) : PO base w' v H := by
  refine ⟨h.1, ?_⟩
  rcases h.2 with h' | ⟨g, cap, cur, rfl, h4, hg, r⟩
  · exact .inl h'
  · exact .inr ⟨g, cap, cur, rfl, h4, (hs.block g (Array.getElem?_eq_some_iff.1 hg).1 (hx g rfl)).trans hg, r⟩
theorem PO.stay0 (h : PO base w v H) (hs : Stay (fun _ => False) w w') : PO base w' v H := h.stay hs (fun _ _ x => x)
theorem PO.lt (h : PO base w v H) : ∀ k, v.ownBlock = some k → base ≤ k ∧ k < w.heap.size := World.ownsRow.lt h
theorem PO.form (h : PO base w v H) : ∃ a c, v = .slice a H.length c := by
  rcases h.2 with ⟨e, hn⟩ | ⟨g, cap, cur, e, _⟩
  · exact ⟨none, 0, by rw [e, hn]⟩
  · exact ⟨_, _, e⟩
theorem PO.at (h : PO base w v H) (h0 : 0 < H.length) : ∃ g c, v = .slice (some ⟨g, 0, none⟩) H.length c ∧ H.length ≤ c ∧ c ≤ 9223372036854775807 ∧ base ≤ g ∧ g < w.heap.size := by
  rcases h.2 with ⟨e, hn⟩ | ⟨g, cap, cur, e, h4, hg, h5, h6, _⟩
  · omega
  · exact ⟨g, cap, e, h5, by unfold maxLen at h6; omega, h4, (Array.getElem?_eq_some_iff.1 hg).1⟩
theorem PO.nil (base : Nat) (w : World) : PO base w (.slice none 0 0) [] := World.ownsRow_nil w base _ _
theorem PO.cell {g n c : Nat} (h : PO base w (.slice (some ⟨g, 0, none⟩) n c) H) {j : Nat} {o : Od} (hj : H[j]? = some o) : w.cell? ⟨g, j, none⟩ = some (.pointer (some ⟨o.p, 0, none⟩)) := by
  have := World.ownsRow.cells (g := g) h rfl j _ (at_P hj)
  rwa [add_at, Nat.zero_add] at this
theorem PO.fr {g n c : Nat} (h : PO base w (.slice (some ⟨g, 0, none⟩) n c) H) (j : Nat) : w.frozen? ⟨g, j, none⟩ = false := by
  rcases h.2 with ⟨e, _⟩ | ⟨g', cap, cur, e, h4, hg, r⟩
  · cases e
  · cases e
    exact frozen_of_row w g j _ _ hg
theorem PO.set {g n c : Nat} (h : PO base w (.slice (some ⟨g, 0, none⟩) n c) H) (j : Nat) (o : Od) : PO base (w.setCell ⟨g, j, none⟩ (.pointer (some ⟨o.p, 0, none⟩))) (.slice (some ⟨g, 0, none⟩) n c) (H.set j o) := by
  unfold PO
  rw [List.length_set]
  refine ⟨by rw [len_P, List.length_set, Nat.mul_one], ?_⟩
  rcases h.2 with ⟨e, _⟩ | ⟨g', cap, cur, e, h4, hg, h5, h6, h7, h8⟩
  · cases e
  · cases e
    refine .inr ⟨g, c, cur.setIfInBounds j (.pointer (some ⟨o.p, 0, none⟩)), rfl, h4, heap_setCell_same w g j _ _ _ hg, h5, h6, by simpa using h7, ?_⟩
    have : cellsP (H.set j o) = (cellsP H).set j (.pointer (some ⟨o.p, 0, none⟩)) := by simp [cellsP, List.map_set, ptrV]
    rw [this, ← h8]
    simp [List.take_set]
theorem PO.ty {g n c : Nat} (h : PO base w (.slice (some ⟨g, 0, none⟩) n c) H) : ∃ cs fr, w.heap[g]? = some (.cells cs 48 fr) := by
  rcases h.2 with ⟨e, _⟩ | ⟨g', cap, cur, e, h4, hg, r⟩
  · cases e
  · cases e
    exact ⟨_, _, hg⟩
end

/-- A slice that reads as entries, in blocks of entries. -/
def EnT (w : World) (x : Value) (L : List En) : Prop := EnS w x L ∧ ∀ k, x.ownBlock = some k → ∃ cs fr, w.heap[k]? = some (.cells cs 28 fr)
theorem EnT.stay {w w' : World} {x : Value} {L : List En} {X : Nat → Prop} (h : EnT w x L) (hs : Stay X w w') (hx : ∀ k, x.ownBlock = some k → ¬ X k) : EnT w' x L := by
  refine ⟨h.1.stay hs hx, fun k hk => ?_⟩
  obtain ⟨cs, fr, hg⟩ := h.2 k hk
  exact ⟨cs, fr, (hs.block k (Array.getElem?_eq_some_iff.1 hg).1 (hx k hk)).trans hg⟩
/-- What is left of an order, in memory. -/
structure OdAt (w : World) (o : Od) : Prop where
  g : w.heap[o.p]? = some (.cells #[o.v, .int .i64 (o.n : Int)] 50 (0, 0))
  e : EnT w o.v o.l
section
variable {w w' : World} {o : Od} {X : Nat → Prop}
theorem OdAt.lt (h : OdAt w o) : o.p < w.heap.size := (Array.getElem?_eq_some_iff.1 h.g).1
theorem OdAt.stay (h : OdAt w o) (hs : Stay X w w') (h1 : ¬ X o.p) (h2 : ∀ k, o.v.ownBlock = some k → ¬ X k) : OdAt w' o := ⟨(hs.block _ h.lt h1).trans h.g, h.e.stay hs h2⟩
theorem OdAt.stay0 (h : OdAt w o) (hs : Stay (fun _ => False) w w') : OdAt w' o := h.stay hs (fun x => x) (fun _ _ x => x)
theorem OdAt.c0 (h : OdAt w o) : w.cell? ⟨o.p, 0, none⟩ = some o.v := by rw [cell_of_row w o.p 0 _ _ _ h.g]; rfl
theorem OdAt.c1 (h : OdAt w o) : w.cell? ⟨o.p, 1, none⟩ = some (.int .i64 (o.n : Int)) := by rw [cell_of_row w o.p 1 _ _ _ h.g]; rfl
theorem OdAt.fr (h : OdAt w o) (j : Nat) : w.frozen? ⟨o.p, j, none⟩ = false := frozen_of_row w o.p j _ _ h.g
/-- Its first entry. -/
theorem OdAt.first (h : OdAt w o) {e : En} {r : List En} (hl : o.l = e :: r) : ∃ g a c, o.v = .slice (some ⟨g, a, none⟩) (r.length + 1) c ∧ g < w.heap.size ∧ w.cell? ⟨g, a, none⟩ = some (.string ⟨e.k.toArray⟩) ∧ w.cell? ⟨g, a + 1, none⟩ = some (.string ⟨e.v.toArray⟩) ∧ w.cell? ⟨g, a + 2, none⟩ = some (.bool e.g) := by
  have hs := h.e.1
  rw [hl] at hs
  obtain ⟨a0, c, hv⟩ := hs.form
  rw [hv] at hs ⊢
  obtain ⟨g, a, rfl, hlt, hc⟩ := hs.at (by simp)
  obtain ⟨h0, h1, h2⟩ := hc 0 e rfl
  rw [Nat.zero_mul, Nat.add_zero] at h0 h1 h2
  exact ⟨g, a, c, rfl, hlt, h0, h1, h2⟩
end

set_option maxHeartbeats 1000000 in
theorem less_any (w : World) (v : Value) (H : List Od) (i j : Nat) (a b : Od) (hv : PO 0 w v H) (hi : H[i]? = some a) (hj : H[j]? = some b) (ha : OdAt w a) (hb : OdAt w b) (ha0 : a.l ≠ []) (hb0 : b.l ≠ []) :
    Calls Try.prog 39 #[v, .int .i64 (i : Int), .int .i64 (j : Int)] w fun e w' => e = .returned (.bool (lessO a b)) ∧ Stay (fun _ => False) w w' := by
  have hil := (List.getElem?_eq_some_iff.1 hi).1
  have hjl := (List.getElem?_eq_some_iff.1 hj).1
  obtain ⟨g, c, rfl, hc1, hc2, _, _⟩ := hv.at (by omega)
  have ci := hv.cell hi
  have cj := hv.cell hj
  have a0 := ha.c0
  have a1 := ha.c1
  have b0 := hb.c0
  have b1 := hb.c1
  obtain ⟨ea, ra, hla⟩ := List.exists_cons_of_ne_nil ha0
  obtain ⟨eb, rb, hlb⟩ := List.exists_cons_of_ne_nil hb0
  obtain ⟨ga, oa, na, hva, _, ka, _⟩ := ha.first hla
  obtain ⟨gb, ob, nb, hvb, _, kb, _⟩ := hb.first hlb
  rw [hva] at a0
  rw [hvb] at b0
  have hL : lessO a b = if ea.k == eb.k then decide (a.n < b.n) else ltB ea.k eb.k := by unfold lessO hk; rw [hla, hlb]
  have HL := Lib.hid hL
  obtain ⟨R, hR⟩ : ∃ R, R = lessO a b := ⟨_, rfl⟩
  rw [← hR] at HL ⊢
  generalize a.n = an at *
  generalize b.n = bn at *
  generalize a.p = ap at *
  generalize b.p = bp at *
  clear hv hi hj ha hb ha0 hb0 hva hvb hL hla hlb hR
  go_enter Try.func39, Try.ntmps39
  go_wp2
  go_quiet (fail)
  by_cases hek : ea.k = eb.k
  · have HR := Lib.hid (show R = decide (an < bn) by rw [HL.out, if_pos (by simp [hek])])
    rw [hek] at ka
    clear hek
    go_wp2
    go_quiet (fail)
    go_wp2
    go_quiet (fail)
    go_wp2
    go_ret
    exact ⟨by rw [HR.out]; rfl, ((stay_drewN _ _).trans (stay_drewN _ _)).trans (stay_drewN _ _)⟩
  · have HR := Lib.hid (show R = ltB ea.k eb.k by rw [HL.out, if_neg (by simp [hek])])
    have hne : (ea.k == eb.k) = false := by simpa using hek
    go_wp2
    go_quiet (fail)
    go_wp2
    go_quiet (fail)
    go_wp2
    go_ret
    exact ⟨by rw [HR.out, ← less_eq]; rfl, ((stay_drewN _ _).trans (stay_drewN _ _)).trans (stay_drewN _ _)⟩

theorem len_any (w : World) (v : Value) (H : List Od) (hv : PO 0 w v H) :
    Calls Try.prog 38 #[v] w fun e w' => e = .returned (.int .i64 (H.length : Int)) ∧ w' = w := by
  obtain ⟨a, c, rfl⟩ := hv.form
  go_enter Try.func38, Try.ntmps38
  go_wp2
  go_ret
  exact ⟨rfl, rfl⟩

set_option maxHeartbeats 1000000 in
theorem swap_any (w : World) (g n c : Nat) (H : List Od) (i j : Nat) (hn : n = H.length) (hv : PO 0 w (.slice (some ⟨g, 0, none⟩) n c) H) (hi : i < H.length) (hj : j < H.length) :
    Calls Try.prog 40 #[.slice (some ⟨g, 0, none⟩) n c, .int .i64 (i : Int), .int .i64 (j : Int)] w fun e w' => e = .returned (.tuple #[]) ∧ PO 0 w' (.slice (some ⟨g, 0, none⟩) n c) (swapL H i j) ∧ Stay (· = g) w w' := by
  subst hn
  obtain ⟨a, ha⟩ : ∃ a, H[i]? = some a := ⟨_, List.getElem?_eq_getElem hi⟩
  obtain ⟨b, hb⟩ : ∃ b, H[j]? = some b := ⟨_, List.getElem?_eq_getElem hj⟩
  have ci := hv.cell ha
  have cj := hv.cell hb
  have fi := hv.fr i
  have fj := hv.fr j
  have hP := hv.set i b
  have hP2 := hP.set j a
  have hS : swapL H i j = (H.set i b).set j a := by unfold swapL; simp only [ha, hb]
  rw [hS]
  have HP2 := Lib.hid hP2
  by_cases hij : i = j
  · subst hij
    rw [ha] at hb
    cases hb
    generalize a.p = ap at *
    clear hP hP2 hv hS ha
    go_enter Try.func40, Try.ntmps40
    go_wp2
    go_region
    refine bodyPost_end (results_none rfl _ _ _) rfl ⟨rfl, HP2.out.stay0 Stay.drew, ((Stay.setCell (X := (· = g)) _ _ _ (by rfl)).trans (Stay.setCell (X := (· = g)) _ _ _ (by rfl))).trans Stay.drew⟩
  · have hji : ¬ j = i := fun h => hij h.symm
    generalize a.p = ap at *
    generalize b.p = bp at *
    clear hP hP2 hv hS ha hb
    go_enter Try.func40, Try.ntmps40
    go_wp2
    go_region
    refine bodyPost_end (results_none rfl _ _ _) rfl ⟨rfl, HP2.out.stay0 Stay.drew, ((Stay.setCell (X := (· = g)) _ _ _ (by rfl)).trans (Stay.setCell (X := (· = g)) _ _ _ (by rfl))).trans Stay.drew⟩
end Go.Proofs.Ytdfhjmodacjilaa.Mg
