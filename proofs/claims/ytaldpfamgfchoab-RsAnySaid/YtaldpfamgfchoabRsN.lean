/-
  rs: rows of one's own in memory, made one by one.
-/
import Derived.Test.YtaldpfamgfchoabRsC
namespace Go.Proofs.Ytaldpfamgfchoab.Rs
open Go.RowKit Gf
set_option maxRecDepth 100000

theorem SSlc.push {X Y : Nat → Prop} {w wr : World} {v : Value} {l : List UInt8} (h : SSlc X w v l) (hs : Stay X w wr) (hY : ∀ i, i < w.heap.size → Y i → X i) : SSlc Y wr v l := fun u hu => h u (hs.andThen hu hY)
theorem SM.push {X Y : Nat → Prop} {w wr : World} {x : Value} {n : Nat} {L : Nat → Nat} {M : Nat → Nat → UInt8} (h : SM X w x n L M) (hs : Stay X w wr) (hY : ∀ i, i < w.heap.size → Y i → X i) : SM Y wr x n L M := by
  obtain ⟨a0, c, e, h1, h2, h3⟩ := h
  refine ⟨a0, c, e, h1, h2, fun h0 => ?_⟩
  obtain ⟨b, o, e2, h4⟩ := h3 h0
  refine ⟨b, o, e2, fun k hk => ?_⟩
  obtain ⟨v, h5, h6⟩ := h4 k hk
  exact ⟨v, fun u hu => h5 u (hs.andThen hu hY), h6.push hs hY⟩
/-- Of n rows of W bytes the first t are made; they lie in blocks of their own. -/
structure PM (w : World) (base gb n W t : Nat) (h : Nat → Nat) (R : Nat → Nat → UInt8) : Prop where
  lb : LB w gb n (fun i => if i < t then .slice (some ⟨h i, 0, none⟩) W W else .slice none 0 0)
  row : ∀ i, i < t → FB w (h i) W (R i)
  ne : ∀ i, i < t → h i ≠ gb
  inj : ∀ i j, i < t → j < t → h i = h j → i = j
  lo : base ≤ gb
  lr : ∀ i, i < t → base ≤ h i
section
variable {X : Nat → Prop} {w w' : World} {base gb n W t : Nat} {h : Nat → Nat} {R : Nat → Nat → UInt8}
theorem PM.start (hb : LB w gb n (fun _ => .slice none 0 0)) (hl : base ≤ gb) : PM w base gb n W 0 h R :=
  ⟨hb.congr (fun i _ => (if_neg (by omega)).symm), fun i hi => by omega, fun i hi => by omega, fun i j hi => by omega, hl, fun i hi => by omega⟩
theorem PM.stay (p : PM w base gb n W t h R) (hs : Stay X w w') (h0 : ¬ X gb) (h1 : ∀ i, i < t → ¬ X (h i)) : PM w' base gb n W t h R :=
  ⟨p.lb.stay hs h0, fun i hi => (p.row i hi).stay hs (h1 i hi), p.ne, p.inj, p.lo, p.lr⟩
theorem PM.stay0 (p : PM w base gb n W t h R) (hs : Stay (fun _ => False) w w') : PM w' base gb n W t h R := p.stay hs (fun x => x) (fun _ _ x => x)
/-- What turned lies ahead. -/
theorem PM.stayg {g : Nat} (p : PM w base gb n W t h R) (hs : Stay (· = g) w w') (hg : g < base) : PM w' base gb n W t h R :=
  p.stay hs (fun e => by have := p.lo; omega) (fun i hi e => by have := p.lr i hi; omega)
theorem PM.congr {R' : Nat → Nat → UInt8} (p : PM w base gb n W t h R) (e : ∀ i, i < t → ∀ b, b < W → R i b = R' i b) : PM w base gb n W t h R' :=
  ⟨p.lb, fun i hi => (p.row i hi).congr (e i hi), p.ne, p.inj, p.lo, p.lr⟩
theorem PM.lt (p : PM w base gb n W t h R) : ∀ i, i < t → h i < w.heap.size := fun i hi => (p.row i hi).lt
/-- A row more. -/
theorem PM.push (p : PM w base gb n W t h R) {q c : Nat} {f : Nat → UInt8} {v : Nat → Value} (hb : LB w' gb n v) (ev : v = putV (fun i => if i < t then .slice (some ⟨h i, 0, none⟩) W W else .slice none 0 0) t (.slice (some ⟨q, 0, none⟩) W c)) (ec : c = W) (hs : Stay (· = gb) w w') (hf : FB w q W f) (hq : base ≤ q) (hn : q ≠ gb) (hd : ∀ i, i < t → h i ≠ q) :
    PM w' base gb n W (t + 1) (fun i => if i = t then q else h i) (fun i => if i = t then f else R i) := by
  subst ev
  subst ec
  refine ⟨hb.congr (fun i _ => ?_), fun i hi => ?_, fun i hi => ?_, fun i j hi hj e => ?_, p.lo, fun i hi => ?_⟩
  · unfold putV
    by_cases e : i = t
    · simp [e]
    · by_cases e2 : i < t
      · have : i < t + 1 := by omega
        simp [e, e2, this]
      · have : ¬ i < t + 1 := by omega
        simp [e, e2, this]
  · by_cases e : i = t
    · simp only [e, if_true]; exact hf.stay hs hn
    · simp only [e, if_false]; exact (p.row i (by omega)).stay hs (p.ne i (by omega))
  · by_cases e : i = t
    · simp only [e, if_true]; exact hn
    · simp only [e, if_false]; exact p.ne i (by omega)
  · by_cases e1 : i = t <;> by_cases e2 : j = t
    · omega
    · simp only [e1, e2, if_true, if_false] at e; exact absurd e.symm (hd j (by omega))
    · simp only [e1, e2, if_true, if_false] at e; exact absurd e (hd i (by omega))
    · simp only [e1, e2, if_false] at e; exact p.inj i j (by omega) (by omega) e
  · by_cases e : i = t
    · simp only [e, if_true]; exact hq
    · simp only [e, if_false]; exact p.lr i (by omega)
/-- One row turned. -/
theorem PM.upd {g j : Nat} {f : Nat → UInt8} (p : PM w base gb n W t h R) (hj : j < t) (hf : FB w' (h j) W f) (hs : Stay (fun i => i = g ∨ i = h j) w w') (hg : g < base) : PM w' base gb n W t h (fun i => if i = j then f else R i) := by
  refine ⟨p.lb.stay hs (fun e => ?_), fun i hi => ?_, p.ne, p.inj, p.lo, p.lr⟩
  · rcases e with e | e
    · have := p.lo; omega
    · exact p.ne j hj e.symm
  · by_cases e : i = j
    · subst e; simp only [if_true]; exact hf
    · simp only [e, if_false]
      refine (p.row i hi).stay hs (fun e2 => ?_)
      rcases e2 with e2 | e2
      · have := p.lr i hi; omega
      · exact e (p.inj i j hi hj e2)
theorem PM.cell (p : PM w base gb n W t h R) {i : Nat} (hi : i < t) (hn : i < n) : w.cell? ⟨gb, i, none⟩ = some (.slice (some ⟨h i, 0, none⟩) W W) := by
  rw [p.lb.c hn, if_pos hi]
/-- All are made: they are read. -/
theorem PM.read (p : PM w base gb n W n h R) (hn : n ≤ 9223372036854775807) (hW : W ≤ 9223372036854775807) : SM (fun i => i < base) w (.slice (some ⟨gb, 0, none⟩) n n) n (fun _ => W) R := by
  refine ⟨_, _, rfl, Nat.le_refl _, hn, fun _ => ⟨gb, 0, rfl, fun k hk => ⟨_, SCell.of (by rw [Nat.zero_add]; exact p.cell hk hk) (fun e => by have := p.lo; have h1 : gb < base := e; omega), ?_⟩⟩⟩
  refine SSlc.of ?_ (fun _ i hi e => by
    have h1 := p.lr k hk
    have h2 : i = h k := by simpa [Value.ownBlock] using hi.symm
    omega)
  have := (p.row k hk).slc (o := 0) (c := W) W (by omega) (Nat.le_refl _) hW
  simpa using this
end
end Go.Proofs.Ytaldpfamgfchoab.Rs
