/-
  rs, plain: the code's rows; that any k of them make nothing 0 but what is 0 (Cauchy).
-/
import Derived.Test.YtaldpfamgfchoabRsP
namespace Go.Proofs.Ytaldpfamgfchoab.Rs
open Gf
set_option maxRecDepth 100000

theorem invB_nz (a : UInt8) : invB a ≠ 0 := fun e => by
  have := congrArg UInt8.toNat e
  rw [invB_nat] at this
  exact invN_nz _ this
def sumL : List UInt8 → UInt8
  | [] => 0
  | x :: l => x ^^^ sumL l
theorem sumL_append : ∀ l m, sumL (l ++ m) = sumL l ^^^ sumL m
  | [], m => (UInt8.zero_xor).symm
  | x :: l, m => by
    show x ^^^ sumL (l ++ m) = (x ^^^ sumL l) ^^^ sumL m
    rw [sumL_append l m, UInt8.xor_assoc]
theorem sumB_list (f : Nat → UInt8) : ∀ n, sumB n f = sumL ((List.range n).map f)
  | 0 => rfl
  | n + 1 => by
    rw [List.range_succ, List.map_append, sumL_append, ← sumB_list f n]
    show _ = _ ^^^ (f n ^^^ 0)
    rw [UInt8.xor_zero]
    rfl
section
variable {α : Type}
theorem mul_sumL (c : UInt8) (f : α → UInt8) : ∀ l : List α, mulB c (sumL (l.map f)) = sumL (l.map fun q => mulB c (f q))
  | [] => mulB_zero c
  | x :: l => by
    show mulB c (f x ^^^ sumL (l.map f)) = mulB c (f x) ^^^ sumL (l.map fun q => mulB c (f q))
    rw [mulB_xor, mul_sumL c f l]
theorem sumL_xor (f g : α → UInt8) : ∀ l : List α, sumL (l.map fun q => f q ^^^ g q) = sumL (l.map f) ^^^ sumL (l.map g)
  | [] => (by decide : (0 : UInt8) = 0 ^^^ 0)
  | x :: l => by
    show (f x ^^^ g x) ^^^ sumL (l.map fun q => f q ^^^ g q) = (f x ^^^ sumL (l.map f)) ^^^ (g x ^^^ sumL (l.map g))
    rw [sumL_xor f g l, xor4]
theorem sumL_congr {f g : α → UInt8} {l : List α} (h : ∀ q ∈ l, f q = g q) : sumL (l.map f) = sumL (l.map g) := by rw [List.map_congr_left h]
end
theorem sumL_none {l : List UInt8} (h : ∀ x ∈ l, x = 0) : sumL l = 0 := by
  induction l with
  | nil => rfl
  | cons x l ih =>
    show x ^^^ sumL l = 0
    rw [h x (by simp), ih (fun y hy => h y (by simp [hy]))]
    rfl

theorem bracket {A B : UInt8} (D : UInt8) (ha : A ≠ 0) (hb : B ≠ 0) : mulB (invB A) (A ^^^ D) ^^^ mulB (invB B) (B ^^^ D) = mulB (A ^^^ B) (mulB D (mulB (invB A) (invB B))) := by
  rw [mulB_xor, mulB_xor, inv_mulB ha, inv_mulB hb, xor_mulB]
  have e1 : mulB A (mulB D (mulB (invB A) (invB B))) = mulB (invB B) D := by
    rw [mulB_comm D, mulB_assoc, mulB_assoc, mulB_inv ha, one_mulB]
  have e2 : mulB B (mulB D (mulB (invB A) (invB B))) = mulB (invB A) D := by
    rw [mulB_comm D, mulB_comm (invB A), mulB_assoc, mulB_assoc, mulB_inv hb, one_mulB]
  rw [e1, e2, xor4, UInt8.xor_self, UInt8.zero_xor, UInt8.xor_comm]

/-- Cauchy's matrix makes nothing 0 but what is 0. -/
theorem cauchy : ∀ (Q : List (UInt8 × UInt8)) (P : List UInt8), Q.length ≤ P.length → P.Nodup → (Q.map (·.1)).Nodup → (∀ p ∈ P, ∀ q ∈ Q, p ≠ q.1) →
    (∀ p ∈ P, sumL (Q.map fun q => mulB q.2 (invB (p ^^^ q.1))) = 0) → ∀ q ∈ Q, q.2 = 0
  | [], _, _, _, _, _, _, q, hq => by cases hq
  | (c, x) :: Q, [], hl, _, _, _, _, _, _ => by simp at hl
  | (c, x) :: Q, r :: P, hl, hP, hQ, hne, hs, q, hq => by
    have hP' := List.nodup_cons.1 hP
    have hQ' : c ∉ Q.map (·.1) ∧ (Q.map (·.1)).Nodup := List.nodup_cons.1 hQ
    have xn : ∀ {a b : UInt8}, a ≠ b → a ^^^ b ≠ 0 := fun h e => h (eq_of_xor e)
    have hrq : ∀ q ∈ Q, r ^^^ q.1 ≠ 0 := fun q hq => xn (hne r (by simp) q (by simp [hq]))
    have hcq : ∀ q ∈ Q, q.1 ^^^ c ≠ 0 := fun q hq => xn (fun e => hQ'.1 (List.mem_map.2 ⟨q, hq, e⟩))
    have one : ∀ p, p ∈ r :: P → x ^^^ sumL (Q.map fun q => mulB q.2 (mulB (invB (p ^^^ q.1)) (p ^^^ c))) = 0 := by
      intro p hp
      have h := hs p hp
      have hpc : p ^^^ c ≠ 0 := xn (hne p hp (c, x) (by simp))
      have h2 : mulB (p ^^^ c) (mulB x (invB (p ^^^ c)) ^^^ sumL (Q.map fun q => mulB q.2 (invB (p ^^^ q.1)))) = mulB (p ^^^ c) 0 := congrArg _ h
      rw [mulB_zero, mulB_xor, mul_sumL, mulB_comm x, mulB_assoc, mulB_inv hpc, one_mulB] at h2
      rw [← h2]
      congr 1
      exact sumL_congr (fun q _ => by rw [mulB_comm (p ^^^ c), mulB_assoc])
    have ih := cauchy (Q.map fun q => (q.1, mulB q.2 (mulB (q.1 ^^^ c) (invB (r ^^^ q.1))))) P (by simpa using hl) hP'.2 (by simpa [List.map_map, Function.comp_def] using hQ'.2)
      (fun p hp q hq => by
        obtain ⟨q', hq', rfl⟩ := List.mem_map.1 hq
        exact hne p (by simp [hp]) q' (by simp [hq']))
      (fun p hp => by
        rw [List.map_map]
        have hpr : p ^^^ r ≠ 0 := xn (fun e => hP'.1 (e ▸ hp))
        have hpq : ∀ q ∈ Q, p ^^^ q.1 ≠ 0 := fun q hq => xn (hne p (by simp [hp]) q (by simp [hq]))
        have h1 := one p (by simp [hp])
        have h2 := one r (by simp)
        have h3 : (x ^^^ sumL (Q.map fun q => mulB q.2 (mulB (invB (p ^^^ q.1)) (p ^^^ c)))) ^^^ (x ^^^ sumL (Q.map fun q => mulB q.2 (mulB (invB (r ^^^ q.1)) (r ^^^ c)))) = 0 := by rw [h1, h2]; rfl
        rw [xor4, UInt8.xor_self, UInt8.zero_xor, ← sumL_xor] at h3
        have h4 : mulB (p ^^^ r) (sumL (Q.map ((fun q : UInt8 × UInt8 => mulB q.2 (invB (p ^^^ q.1))) ∘ fun q => (q.1, mulB q.2 (mulB (q.1 ^^^ c) (invB (r ^^^ q.1))))))) = 0 := by
          rw [mul_sumL, ← h3]
          refine sumL_congr (fun q hq => ?_)
          show mulB (p ^^^ r) (mulB (mulB q.2 (mulB (q.1 ^^^ c) (invB (r ^^^ q.1)))) (invB (p ^^^ q.1))) = mulB q.2 (mulB (invB (p ^^^ q.1)) (p ^^^ c)) ^^^ mulB q.2 (mulB (invB (r ^^^ q.1)) (r ^^^ c))
          rw [← mulB_xor]
          have ec : ∀ a : UInt8, a ^^^ c = (a ^^^ q.1) ^^^ (q.1 ^^^ c) := fun a => by rw [UInt8.xor_assoc, ← UInt8.xor_assoc q.1, UInt8.xor_self, UInt8.zero_xor]
          have er : p ^^^ r = (p ^^^ q.1) ^^^ (r ^^^ q.1) := by rw [xor4, UInt8.xor_self, UInt8.xor_zero]
          rw [ec p, ec r, bracket _ (hpq q hq) (hrq q hq), ← er]
          rw [mulB_comm (invB (p ^^^ q.1)), mulB_assoc (q.1 ^^^ c), mulB_assoc q.2, mulB_assoc q.2, mulB_comm q.2 (p ^^^ r), mulB_assoc, mulB_assoc, mulB_assoc]
          simp only [mulB_assoc]
        exact Classical.byContradiction (fun hn => mulB_nz hpr hn h4))
    have rest : ∀ q ∈ Q, q.2 = 0 := fun q hq => by
      have h1 := ih _ (List.mem_map.2 ⟨q, hq, rfl⟩)
      exact Classical.byContradiction (fun hn => mulB_nz hn (mulB_nz (hcq q hq) (invB_nz _)) h1)
    rcases List.mem_cons.1 hq with rfl | hq
    · have h1 := one r (by simp)
      rwa [sumL_none (fun y hy => by
        obtain ⟨q, hq, rfl⟩ := List.mem_map.1 hy
        rw [rest q hq, zero_mulB]), UInt8.xor_zero] at h1
    · exact rest q hq

/-- What a part is made of. -/
def rowF (k p : Nat) : Nat → UInt8 := fun c => if p < k then (if c = p then 1 else 0) else invB (UInt8.ofNat (p ^^^ c))
theorem row_unit {k p : Nat} (hp : p < k) (z : Nat → UInt8) : dot k (rowF k p) z = z p := by
  unfold dot rowF
  rw [sumB_one (p := p) hp (fun c _ hc => by rw [if_pos hp, if_neg hc, zero_mulB]), if_pos hp, if_pos rfl, one_mulB]

theorem erase_all : ∀ (D Q : List Nat), D.Nodup → Q.Nodup → (∀ d ∈ D, d ∈ Q) → ∃ Q' : List Nat, Q'.Nodup ∧ (∀ q ∈ Q', q ∈ Q) ∧ Q'.length + D.length = Q.length ∧ (∀ q ∈ Q, q ∈ D ∨ q ∈ Q') ∧
    ∀ f : Nat → UInt8, (∀ d ∈ D, f d = 0) → sumL (Q.map f) = sumL (Q'.map f)
  | [], Q, _, hQ, _ => ⟨Q, hQ, fun _ h => h, rfl, fun _ h => .inr h, fun _ _ => rfl⟩
  | d :: D, Q, hD, hQ, hs => by
    have hD' := List.nodup_cons.1 hD
    have hd := hs d (by simp)
    obtain ⟨Q', h1, h2, h3, h4, h5⟩ := erase_all D (Q.erase d) hD'.2 (hQ.erase d) (fun e he => (List.mem_erase_of_ne (fun x : e = d => hD'.1 (x ▸ he))).2 (hs e (by simp [he])))
    have hl := List.length_erase_of_mem hd
    have hp := List.length_pos_of_mem hd
    refine ⟨Q', h1, fun q hq => List.mem_of_mem_erase (h2 q hq), by rw [List.length_cons]; omega, fun q hq => ?_, fun f hf => ?_⟩
    · by_cases e : q = d
      · exact .inl (by simp [e])
      · rcases h4 q ((List.mem_erase_of_ne e).2 hq) with h | h
        · exact .inl (by simp [h])
        · exact .inr h
    · rw [← h5 f (fun e he => hf e (by simp [he]))]
      have hpm := (List.perm_cons_erase hd).map f
      have : ∀ {l m : List UInt8}, l.Perm m → sumL l = sumL m := by
        intro l m h
        induction h with
        | nil => rfl
        | cons x _ ih => show x ^^^ _ = x ^^^ _; rw [ih]
        | swap x y l => show y ^^^ (x ^^^ sumL l) = x ^^^ (y ^^^ sumL l); rw [← UInt8.xor_assoc, UInt8.xor_comm y, UInt8.xor_assoc]
        | trans _ _ i1 i2 => exact i1.trans i2
      rw [this hpm]
      show f d ^^^ sumL ((Q.erase d).map f) = _
      rw [hf d (by simp), UInt8.zero_xor]

theorem ofNat_inj {a b : Nat} (ha : a < 256) (hb : b < 256) (h : UInt8.ofNat a = UInt8.ofNat b) : a = b := by
  have := congrArg UInt8.toNat h
  simp at this
  omega
theorem nodup_bytes {l : List Nat} (h : l.Nodup) (hb : ∀ x ∈ l, x < 256) : (l.map UInt8.ofNat).Nodup := by
  unfold List.Nodup
  rw [List.pairwise_map]
  refine List.Pairwise.imp_of_mem ?_ h
  intro a b ha hb' hab e
  exact hab (ofNat_inj (hb a ha) (hb b hb') e)

/-- Any k rows make nothing 0 but what is 0. -/
theorem rows_ker {k : Nat} {L : List Nat} (hn : L.Nodup) (hl : L.length = k) (hk : k ≤ 256) (hb : ∀ p ∈ L, p < 256) : Ker k (fun i => rowF k (L.getD i 0)) := by
  intro z hz
  have hL : ∀ p ∈ L, dot k (rowF k p) z = 0 := by
    intro p hp
    obtain ⟨i, hi, rfl⟩ := List.getElem_of_mem hp
    have := hz i (by omega)
    have e : L.getD i 0 = L[i] := by rw [List.getD_eq_getElem?_getD, List.getElem?_eq_getElem hi]; rfl
    rw [← e]
    exact this
  have hd0 : ∀ d ∈ L.filter (fun p => decide (p < k)), z d = 0 := by
    intro d hd
    obtain ⟨h1, h2⟩ := List.mem_filter.1 hd
    have h3 : d < k := by simpa using h2
    have := hL d h1
    rwa [row_unit h3] at this
  obtain ⟨Q, h1, h2, h3, h4, h5⟩ := erase_all (L.filter (fun p => decide (p < k))) (List.range k) (hn.filter _) List.nodup_range (fun d hd => by
    have := (List.mem_filter.1 hd).2
    exact List.mem_range.2 (by simpa using this))
  have hlen : (L.filter (fun p => decide (p < k))).length + (L.filter (fun p => !decide (p < k))).length = L.length := by
    have : ∀ l : List Nat, (l.filter (fun p => decide (p < k))).length + (l.filter (fun p => !decide (p < k))).length = l.length := by
      intro l
      induction l with
      | nil => rfl
      | cons x l ih => by_cases e : x < k <;> simp [e] at ih ⊢ <;> omega
    exact this L
  rw [List.length_range] at h3
  have hQk : ∀ q ∈ Q, q < k := fun q hq => List.mem_range.1 (h2 q hq)
  have hP : ∀ p ∈ L.filter (fun p => !decide (p < k)), p ∈ L ∧ ¬ p < k := fun p hp => by
    obtain ⟨h1, h2⟩ := List.mem_filter.1 hp
    exact ⟨h1, by simpa using h2⟩
  have hc := cauchy (Q.map fun c => (UInt8.ofNat c, z c)) ((L.filter (fun p => !decide (p < k))).map UInt8.ofNat) (by simp only [List.length_map]; omega)
    (nodup_bytes (hn.filter _) (fun p hp => hb p (hP p hp).1))
    (by
      rw [List.map_map]
      exact nodup_bytes h1 (fun q hq => by have := hQk q hq; omega))
    (fun p hp q hq => by
      obtain ⟨p', hp', rfl⟩ := List.mem_map.1 hp
      obtain ⟨q', hq', rfl⟩ := List.mem_map.1 hq
      intro e
      have a1 := hP p' hp'
      have a2 := hQk q' hq'
      have := ofNat_inj (hb p' a1.1) (by omega) e
      omega)
    (fun p hp => by
      obtain ⟨p', hp', rfl⟩ := List.mem_map.1 hp
      have a1 := hP p' hp'
      have := hL p' a1.1
      unfold dot at this
      rw [sumB_list, h5 _ (fun d hd => by rw [hd0 d hd, mulB_zero])] at this
      rw [List.map_map, ← this]
      refine sumL_congr (fun q _ => ?_)
      show mulB (z q) (invB (UInt8.ofNat p' ^^^ UInt8.ofNat q)) = mulB (rowF k p' q) (z q)
      unfold rowF
      rw [if_neg a1.2, UInt8.ofNat_xor, mulB_comm])
  intro c hcl
  rcases h4 c (List.mem_range.2 hcl) with h | h
  · exact hd0 c h
  · exact hc _ (List.mem_map.2 ⟨c, h, rfl⟩)
end Go.Proofs.Ytaldpfamgfchoab.Rs
