/-
  delta: parts as bytes.
-/
import Derived.Test.YtnlknnhibnfhcaaDoorDeA
import Derived.Test.YtnlknnhibnfhcaaDoorPkCnt
namespace Go.Proofs.YtnlknnhibnfhcaaDoor.De
open Go.RowKit Pk
set_option maxRecDepth 100000

/-- A number as one of 64 bits from 0 on. -/
def u64N (z : Int) : Nat := (IntKind.u64.wrap z).toNat
theorem u64N_is (z : Int) : IntKind.u64.wrap z = (u64N z : Int) ∧ (u64N z : Int) ≤ 18446744073709551615 := by
  have e : IntKind.u64.wrap z = z % 18446744073709551616 := by simp [IntKind.wrap, IntKind.bits, IntKind.signed]
  unfold u64N
  rw [e]
  omega
theorem u64N_nat {n : Nat} (h : n ≤ 64) : u64N (n : Int) = n := by
  unfold u64N
  rw [IntWalk.u64_in _ (by omega)]
  omega

/-- A part as bytes. -/
def ptB (q : Pt) : List UInt8 := if q.cp then boolB true ++ (spellB (u64N q.f) ++ spellB (u64N q.n)) else boolB false ++ bytesB q.b
def encodeN (L : List Pt) : List UInt8 := spellB L.length ++ L.flatMap ptB
/-- How long that is at most. -/
def szN : List Pt → Nat
  | [] => 32
  | q :: r => q.b.length + 32 + szN r
theorem szN_ge (L : List Pt) : 32 ≤ szN L := by
  induction L with
  | nil => exact Nat.le_refl _
  | cons q r ih => unfold szN; omega
theorem len_ptB (q : Pt) : (ptB q).length ≤ q.b.length + 19 := by
  unfold ptB
  have h1 := len_spell (u64N q.f)
  have h2 := len_spell (u64N q.n)
  have h3 := len_spell q.b.length
  split
  · simp only [List.length_append, boolB, List.length_singleton]
    omega
  · simp only [List.length_append, boolB, List.length_singleton, bytesB]
    omega
theorem sz_all : ∀ L : List Pt, (L.flatMap ptB).length + 32 ≤ szN L
  | [] => by simp [szN]
  | q :: r => by
    have h1 := len_ptB q
    have h2 := sz_all r
    rw [List.flatMap_cons, List.length_append]
    unfold szN
    omega
theorem sz_at : ∀ (L : List Pt) (i : Nat) (q : Pt), L[i]? = some q → ((L.take i).flatMap ptB).length + 32 + (q.b.length + 32) ≤ szN L
  | [], i, q, h => by simp at h
  | x :: r, 0, q, h => by
    simp at h
    subst h
    have := szN_ge r
    simp only [List.take_zero, List.flatMap_nil, List.length_nil, szN]
    omega
  | x :: r, i + 1, q, h => by
    have h1 := len_ptB x
    have h2 := sz_at r i q (by simpa using h)
    rw [List.take_succ_cons, List.flatMap_cons, List.length_append]
    unfold szN
    omega
theorem take_snoc {L : List Pt} {i : Nat} {q : Pt} (h : L[i]? = some q) : (L.take (i + 1)).flatMap ptB = (L.take i).flatMap ptB ++ ptB q := by
  rw [List.take_add_one, h, List.flatMap_append]
  simp
theorem slc_stay {X : Nat → Prop} {w w' : World} {x : Value} {b : List UInt8} (h : Slc w x b) (hs : Stay X w w') (hx : 0 < b.length → ∀ k, x.ownBlock = some k → ¬ X k) : Slc w' x b := by
  obtain ⟨a0, c, rfl, hr, hn⟩ := h
  exact ⟨a0, c, rfl, hr.stay hs (fun h0 ad ha => hx h0 ad.block (by rw [ha]; rfl)), hn⟩
theorem drew_size (w : World) : w.drew.heap.size = w.heap.size := rfl
theorem map_at {L : List Po} {i : Nat} {q : Po} (h : L[i]? = some q) : (L.map Po.p)[i]? = some q.p := by rw [List.getElem?_map, h]; rfl

section
variable (X : Nat → Prop) (w : World) (p : Nat) (l : List UInt8) (h : WrAt X w p l) (hX : ∀ k, w.heap.size ≤ k → X k)
include h hX
theorem uint_but (n : Nat) (m : Int) (hm : m = (n : Int)) (hn : (n : Int) ≤ 18446744073709551615) (hlen : l.length + 9 ≤ 140737488355328) :
    Calls Tryd.prog 29 #[.pointer (some ⟨p, 0, none⟩), .int .u64 m] w fun e w' => e = .returned (.pointer (some ⟨p, 0, none⟩)) ∧ WrAt X w' p (l ++ spellB n) ∧ Stay X w w' := by
  subst hm
  exact (uint_any X w p l n h hn hlen).mono fun _ _ ⟨h1, h2, h3⟩ => ⟨h1, h2.mono (fun k hk => hk.elim id (hX k)), h3⟩
theorem bool_but (b : Bool) (hlen : l.length + 1 ≤ 140737488355328) :
    Calls Tryd.prog 30 #[.pointer (some ⟨p, 0, none⟩), .bool b] w fun e w' => e = .returned (.pointer (some ⟨p, 0, none⟩)) ∧ WrAt X w' p (l ++ boolB b) ∧ Stay X w w' :=
  (bool_any X w p l b h hlen).mono fun _ _ ⟨h1, h2, h3⟩ => ⟨h1, h2.mono (fun k hk => hk.elim id (hX k)), h3⟩
theorem bytes_but (b : List UInt8) (x : Value) (hx : Slc w x b) (hq : 0 < b.length → ∀ k, x.ownBlock = some k → ¬ X k) (hlen : l.length + 9 + b.length ≤ 140737488355328) :
    Calls Tryd.prog 31 #[.pointer (some ⟨p, 0, none⟩), x] w fun e w' => e = .returned (.pointer (some ⟨p, 0, none⟩)) ∧ WrAt X w' p (l ++ bytesB b) ∧ Stay X w w' :=
  (wbytes_any X w p l b x h hx hq hlen).mono fun _ _ ⟨h1, h2, h3⟩ => ⟨h1, h2.mono (fun k hk => hk.elim id (hX k)), h3⟩
end

set_option maxHeartbeats 4000000 in
theorem encode_any (w : World) (v : Value) (L : List Po) (hv : PsAt w v L) (hsz : szN (L.map Po.p) ≤ 140737488355328) (hlen : L.length ≤ 65535) :
    Calls Tryd.prog 12 #[v] w fun e w' => ∃ v1, e = .returned v1 ∧ Owns w.heap.size w' v1 (encodeN (L.map Po.p)) ∧ Stay (fun _ => False) w w' := by
  have HV := Lib.hid hv
  have HZ := Lib.hid hsz
  obtain ⟨a0, c0, rfl, hc1, hc2, hcell⟩ := hv.ex
  have HC := Lib.hid hcell
  have hlu := IntWalk.u64_in (L.length : Int) (by omega)
  clear hv hsz hcell
  go_enter Tryd.func12, Tryd.ntmps12
  go_wp2_with fail
  refine (new_any w).mono ?_
  rintro e w1 ⟨rfl, rfl⟩
  go_wp2_with fail
  refine (uint_at' w.heap.size _ w.heap.size [] L.length _ rfl (WrAt.new w) (by omega) (by simp)).mono ?_
  rintro e w2 ⟨rfl, hw2, hs2⟩
  have hst2 : Stay (fun _ => False) w w2 := stay_seal (X := fun k => w.heap.size ≤ k) ((Stay.alloc w _).trans hs2) (fun k hk => hk)
  rw [List.nil_append] at hw2
  have HW2 := Lib.hid hw2
  have HS2 := Lib.hid hst2
  clear hw2 hs2 hst2
  go_wp2
  go_loopw [13] (fun i wr => ∃ k : Nat, k ≤ L.length ∧ i = .int .i64 (k : Int) ∧ WrAt (fun j => w.heap.size ≤ j) wr w.heap.size (spellB L.length ++ ((L.map Po.p).take k).flatMap ptB) ∧ Stay (fun _ => False) w wr) (fun i _ => L.length - (intOf i).toNat)
  case atStart => exact ⟨0, Nat.zero_le _, rfl, by simpa using HW2.out, HS2.out⟩
  case round =>
    obtain ⟨k, hk, rfl, hw, hst⟩ := hrel
    have HW := Lib.hid hw
    have HT := Lib.hid hst
    clear hw hst
    by_cases hlt : k < L.length
    · obtain ⟨⟨⟨cp, f, n, b⟩, x⟩, hq⟩ : ∃ q, L[k]? = some q := ⟨_, List.getElem?_eq_getElem hlt⟩
      obtain ⟨g, o, rfl, hcl⟩ := HC.out (by omega)
      have hsl : Slc w x b := HV.out.slc _ (List.mem_of_getElem? hq)
      obtain ⟨xa, xc, rfl, _⟩ := id hsl
      have hblk := fun h0 => hsl.blk_lt h0
      have HSL := Lib.hid (hsl.stay0 HT.out)
      have HBK := Lib.hid hblk
      have ks := Lib.hid (pt_prog.run_load (w := wr) (g := g) (o := o + k * 4) (q := ⟨⟨cp, f, n, b⟩, _⟩) (fun j u hu => HT.out.cell (hcl k _ hq j u hu) (fun x => x)))
      have HTS := Lib.hid (take_snoc (map_at hq))
      have hsz := sz_at _ k _ (map_at hq)
      have hln := len_spell L.length
      have HLE := Lib.hid (show (spellB L.length ++ ((L.map Po.p).take k).flatMap ptB).length + 23 + (b.length + 32) ≤ 140737488355328 by have := HZ.out; rw [List.length_append]; dsimp only at hsz; omega)
      obtain ⟨X, hXd⟩ : ∃ X : Nat → Prop, X = fun j => w.heap.size ≤ j ∧ j ≠ wr.heap.size := ⟨_, rfl⟩
      have HXi := Lib.hid (show ∀ j, X j → w.heap.size ≤ j ∧ j ≠ wr.heap.size by intro j h; rw [hXd] at h; exact h)
      have HXo := Lib.hid (show ∀ j, w.heap.size ≤ j → j ≠ wr.heap.size → X j by intro j h1 h2; rw [hXd]; exact ⟨h1, h2⟩)
      have HWX := Lib.hid (show WrAt X wr w.heap.size (spellB L.length ++ ((L.map Po.p).take k).flatMap ptB) from HW.out.tight.mono (fun j hj => HXo.out j hj.1 (by omega)))
      have hszr := HT.out.size
      generalize hl : spellB L.length ++ ((L.map Po.p).take k).flatMap ptB = l at *
      have HL := Lib.hid hl
      clear hsl hblk hcl hsz hln hXd hl hq
      go_wp2_with (first
        | (refine wpList_load_run rfl 49 (.tmp 15) rfl ⟨g, o + k * 4, none⟩ rfl _ ks.out ?_; unfold poV poC))
      obtain ⟨w4, hw4⟩ : ∃ w4, wr.alloc (.cells #[.bool cp, .int .i64 f, .int .i64 n, .slice xa b.length xc] 49) = w4 := ⟨_, rfl⟩
      have hs4 : Stay (fun _ => False) wr w4 := hw4 ▸ Stay.alloc _ _
      have hb4 : w4.heap[wr.heap.size]? = some (.cells #[.bool cp, .int .i64 f, .int .i64 n, .slice xa b.length xc] 49 (0, 0)) := hw4 ▸ heap_alloc_new _ _
      have hz4 : w4.heap.size = wr.heap.size + 1 := by rw [← hw4]; simp
      rw [hw4]
      clear hw4
      refine (bool_but X w4 w.heap.size l (HWX.out.stay0 hs4) (fun j hj => HXo.out j (by omega) (by omega)) cp (by have := HLE.out; omega)).mono ?_
      rintro e w5 ⟨rfl, hw5, hs5⟩
      have hb5 := (hs5.block wr.heap.size (by omega) (fun h => (HXi.out _ h).2 rfl)).trans hb4
      have k0 : w5.cell? ⟨wr.heap.size, 0, none⟩ = some (.bool cp) := by rw [cell_of_row w5 _ 0 _ _ _ hb5]; rfl
      have k1 : w5.cell? ⟨wr.heap.size, 1, none⟩ = some (.int .i64 f) := by rw [cell_of_row w5 _ 1 _ _ _ hb5]; rfl
      have k2 : w5.cell? ⟨wr.heap.size, 2, none⟩ = some (.int .i64 n) := by rw [cell_of_row w5 _ 2 _ _ _ hb5]; rfl
      have k3 : w5.cell? ⟨wr.heap.size, 3, none⟩ = some (.slice xa b.length xc) := by rw [cell_of_row w5 _ 3 _ _ _ hb5]; rfl
      have HB5 := Lib.hid hb5
      have HW5 := Lib.hid hw5
      have HS5 := Lib.hid ((hs4.mono (fun _ x => x.elim)).trans hs5)
      have hz5 := hs5.size
      clear hs4 hb4 hw5 hs5 hb5
      have hst6 : ∀ W, Stay X wr W → Stay (fun _ => False) w W := fun W hW => stay_seal (X := fun j => w.heap.size ≤ j) ((HT.out.mono (fun _ x => x.elim)).trans (hW.mono (fun j hj => (HXi.out j hj).1))) (fun j hj => hj)
      have HS6 := Lib.hid hst6
      clear hst6
      cases cp
      · go_wp2_with fail
        refine (bytes_but X w5 w.heap.size _ HW5.out (fun j hj => HXo.out j (by omega) (by omega)) b (.slice xa b.length xc) (slc_stay HSL.out HS5.out (fun h0 j hj hx => by have := (HXi.out _ hx).1; have := HBK.out h0 j hj; omega)) (fun h0 j hj hx => ?_) (by have := HLE.out; rw [List.length_append]; simp only [boolB, List.length_singleton]; omega)).mono ?_
        · have := (HXi.out _ hx).1
          have := HBK.out h0 j hj
          omega
        rintro e w6 ⟨rfl, hw6, hs6⟩
        have HW6 := Lib.hid hw6
        have HS7 := Lib.hid (HS6.out _ (HS5.out.trans hs6))
        clear hw6 hs6
        go_wp2
        refine ⟨⟨k + 1, by omega, by go_num, ?_, HS7.out⟩, by simp [intOf]; omega⟩
        have := HW6.out.mono (fun j hj => (HXi.out j hj).1)
        rw [HTS.out, ← List.append_assoc, HL.out]
        rw [List.append_assoc] at this
        exact this
      · obtain ⟨e1, e2⟩ := u64N_is f
        obtain ⟨e3, e4⟩ := u64N_is n
        obtain ⟨uf, huf⟩ : ∃ uf, uf = u64N f := ⟨_, rfl⟩
        obtain ⟨un, hun⟩ : ∃ un, un = u64N n := ⟨_, rfl⟩
        rw [← huf] at e1 e2
        rw [← hun] at e3 e4
        have HUF := Lib.hid huf
        have HUN := Lib.hid hun
        clear huf hun
        have HC5 := Lib.hid (uint_but X (World.drew w5) w.heap.size _ (HW5.out.stay0 (Stay.drew (X := fun _ => False) (w := w5))) (fun j hj => HXo.out j (by simp only [drew_size] at hj; omega) (by simp only [drew_size] at hj; omega)) uf (uf : Int) rfl e2 (by have := HLE.out; rw [List.length_append]; simp only [boolB, List.length_singleton]; omega))
        go_wp2
        go_region_with (first
          | (go_at_call 29
             with_reducible refine HC5.out.mono ?_
             rintro e w6 ⟨rfl, hw6, hs6⟩
             have hb6 := (hs6.block wr.heap.size (by simp; omega) (fun h => (HXi.out _ h).2 rfl)).trans HB5.out
             have k26 : w6.cell? ⟨wr.heap.size, 2, none⟩ = some (.int .i64 n) := by rw [cell_of_row w6 _ 2 _ _ _ hb6]; rfl
             have hz6' := hs6.size
             simp only [drew_size] at hz6'
             have HC6 := Lib.hid (uint_but X w6 w.heap.size _ hw6 (fun j hj => HXo.out j (by omega) (by omega)) un (un : Int) rfl e4 (by have := HLE.out; have := len_spell uf; simp only [List.length_append, boolB, List.length_singleton]; omega))
             have HW6 := Lib.hid hw6
             have HS6' := Lib.hid (HS5.out.trans ((Stay.drew (w := w5)).trans hs6))
             have hz6 := hs6.size
             simp only [drew_size] at hz6
             clear hw6 hs6 hb6)
          | (go_at_call 29
             with_reducible refine HC6.out.mono ?_
             rintro e w7 ⟨rfl, hw7, hs7⟩
             have HW7 := Lib.hid hw7
             have HS7 := Lib.hid (HS6.out _ (HS6'.out.trans hs7))
             clear hw7 hs7))
        all_goals
          go_wp2
          refine ⟨⟨k + 1, by omega, by go_num, ?_, HS7.out⟩, by simp [intOf]; omega⟩
          have := HW7.out.mono (fun j hj => (HXi.out j hj).1)
          rw [HUF.out, HUN.out] at this
          rw [HTS.out, ← List.append_assoc, HL.out]
          rw [List.append_assoc, List.append_assoc] at this
          exact this
    · obtain rfl : k = L.length := by omega
      go_wp2_with fail
      have hall := sz_all (L.map Po.p)
      have hln := len_spell L.length
      have HE := Lib.hid (show spellB L.length ++ ((L.map Po.p).take L.length).flatMap ptB = encodeN (L.map Po.p) by unfold encodeN; rw [List.take_of_length_le (by simp), List.length_map])
      rw [HE.out] at HW
      refine (done_any _ wr w.heap.size _ HW.out (by have := HZ.out; unfold encodeN; rw [List.length_append, List.length_map]; omega)).mono ?_
      rintro e w5 ⟨v5, rfl, ho5, hs5⟩
      obtain ⟨a5, c5, rfl⟩ := ho5.form
      have HO5 := Lib.hid ho5
      clear ho5
      go_wp2
      go_ret
      exact ⟨_, rfl, HO5.out.base (fun j hj => by have := (HO5.out.lt j hj).1; have := HT.out.size; omega), HT.out.trans hs5⟩
end Go.Proofs.YtnlknnhibnfhcaaDoor.De
