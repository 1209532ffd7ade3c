/- As many pairs as lines: mathematics. -/
import Derived.Test.YtnnaaoobdofooaaTI
import Derived.Test.YtnnaaoobdofooaaTM
namespace Go.Proofs.Ytnnaaoobdofooaa
open Go.RowKit
set_option maxHeartbeats 1000000
set_option maxRecDepth 100000
/-- How many pairs are found. -/
def mN (L : List (List Int)) : Nat := (prs (mM L) L.length).length
theorem inj_sum {g : Nat → Int} {f : Nat → Nat} {n q : Nat} (h0 : ∀ c, 0 ≤ g c) (h1 : ∀ i, i < q → f i < n) (h2 : ∀ i j, i < q → j < q → i ≠ j → f i ≠ f j) : sumN (fun i => g (f i)) q ≤ sumN g n := by
  have e1 : sumN (fun i => g (f i)) q = sumN (fun i => sumN (fun c => if f i = c then g c else 0) n) q := sumN_congr (fun i hi => by
    have := sumN_upd (g := fun _ => 0) (h := fun c => if f i = c then g c else 0) (c := f i) (d := g (f i)) (by simp) (fun j hj => by simp [Ne.symm hj]) (n := n) (h1 i hi)
    rw [this, sumN_zero]; omega)
  rw [e1, sumN_swap]
  refine sumN_le (fun c _ => ?_)
  have h3 := few_one (f := f) (c := c) h2
  have e2 : sumN (fun i => if f i = c then g c else 0) q = g c * sumN (fun i => one (f i = c)) q := by
    clear h3 e1 h1 h2
    induction q with
    | zero => show (0 : Int) = g c * 0; simp
    | succ q ih =>
      show sumN _ q + (if f q = c then g c else 0) = g c * (sumN _ q + one (f q = c))
      rw [ih, Int.mul_add]
      unfold one
      split <;> simp
  rw [e2]
  have := Int.mul_le_mul_of_nonneg_left h3 (h0 c)
  simpa using this
/-- Rows and columns that cover a table. -/
def Cov (L : List (List Int)) (R C : Nat → Bool) : Prop := ∀ i k, i < L.length → k < L.length → gat L i k ≠ 0 → R i = true ∨ C k = true
/-- So many pairs. -/
structure Prng (L : List (List Int)) (a b : Nat → Nat) (p : Nat) : Prop where
  ra : ∀ i, i < p → a i < L.length
  rb : ∀ i, i < p → b i < L.length
  pos : ∀ i, i < p → gat L (a i) (b i) ≠ 0
  aa : ∀ i j, i < p → j < p → i ≠ j → a i ≠ a j
  bb : ∀ i j, i < p → j < p → i ≠ j → b i ≠ b j
theorem weak {L : List (List Int)} {R C : Nat → Bool} {a b : Nat → Nat} {p : Nat} (hc : Cov L R C) (hp : Prng L a b p) : (p : Int) ≤ sumN (fun i => one (R i = true)) L.length + sumN (fun i => one (C i = true)) L.length := by
  have h1 := inj_sum (g := fun i => one (R i = true)) (f := a) (n := L.length) (q := p) (fun c => (one_bd _).1) hp.ra hp.aa
  have h2 := inj_sum (g := fun i => one (C i = true)) (f := b) (n := L.length) (q := p) (fun c => (one_bd _).1) hp.rb hp.bb
  have h3 : (p : Int) ≤ sumN (fun i => one (R (a i) = true)) p + sumN (fun i => one (C (b i) = true)) p := by
    rw [← sumN_add, ← sumN_one]
    refine sumN_le (fun i hi => ?_)
    rcases hc (a i) (b i) (hp.ra i hi) (hp.rb i hi) (hp.pos i hi) with h | h
    · have := (one_bd (C (b i) = true)).1
      have e : one (R (a i) = true) = 1 := by unfold one; rw [if_pos h]
      (try dsimp only); omega
    · have := (one_bd (R (a i) = true)).1
      have e : one (C (b i) = true) = 1 := by unfold one; rw [if_pos h]
      (try dsimp only); omega
  omega
theorem own_prng {L : List (List Int)} (h : IsT L) : Prng L (fun i => (geti (rsP (mM L) L.length) i).toNat) (fun i => (geti (csP (mM L) L.length) i).toNat) (mN L) := by
  have I := mI h
  have ok := prs_ok h I
  refine ⟨fun i hi => ?_, fun i hi => ?_, fun i hi => (ok i hi).pos, fun i j hi hj hne => ?_, fun i j hi hj hne => ?_⟩
  · have := (ok i hi).r; omega
  · have := (ok i hi).c; omega
  · have h1 := (ok i hi).r
    have h2 := (ok j hj).r
    rcases Nat.lt_or_gt_of_ne hne with e | e
    · have := prs_asc (mM L) L.length i j e hj; omega
    · have := prs_asc (mM L) L.length j i e hi; omega
  · have key : ∀ i j, i < mN L → j < mN L → i < j → (geti (csP (mM L) L.length) i).toNat ≠ (geti (csP (mM L) L.length) j).toNat := fun i j hi hj hij e => by
      have hn := (ok j hj).new
      rw [← Bool.not_eq_true, mb_iff] at hn
      have h1 := (ok i hi).c
      exact hn ⟨i, hij, by omega⟩
    rcases Nat.lt_or_gt_of_ne hne with e | e
    · exact key i j hi hj e
    · exact (key j i hj hi e).symm
/-- A cover with as many lines. -/
theorem own_cov {L : List (List Int)} (h : IsT L) : Cov L (fun i => (rowS L.length (mM L) (mS L)).testBit i) (fun i => (mS L).testBit i) ∧ sumN (fun i => one ((rowS L.length (mM L) (mS L)).testBit i = true)) L.length + sumN (fun i => one ((mS L).testBit i = true)) L.length = (mN L : Int) := by
  have I := mI h
  have hl := h.le
  have hS1 : ∀ c, (rowS L.length (mM L) (mS L)).testBit c = true → c < L.length := fun c h => by
    rw [rowS_bit hl] at h
    simp only [Bool.and_eq_true, decide_eq_true_eq] at h
    exact h.1
  have top : ∀ S : Nat, (∀ c, S.testBit c = true → c < L.length) → pc 10 S = pc L.length S := fun S hS => by
    have e3 := pc_top (s := S) (n := L.length) (fun c hc => by
      cases hx : S.testBit c
      · rfl
      · have := hS c hx; omega) (10 - L.length)
    rwa [show L.length + (10 - L.length) = 10 by omega] at e3
  obtain ⟨g1, _, g3, g4⟩ := lsS_ag (n := L.length) hS1 10
  obtain ⟨k1, _, k3, k4⟩ := lsS_ag (n := L.length) (S := mS L) (fun c h => (I.a1 c h).1) 10
  refine ⟨fun i k hi hk hg => ?_, ?_⟩
  · have hb := h.bd i k
    have hmb : ∀ (S v : Nat), (∀ j, j < (lsS S 10).length → S.testBit (geti (lsS S 10) j).toNat = true) → mb (lsS S 10) (lsS S 10).length v = true → S.testBit v = true := fun S v h1 h2 => by
      rw [mb_iff] at h2
      obtain ⟨j, hj, e⟩ := h2
      have := h1 j hj
      rwa [e, Int.toNat_natCast] at this
    rcases most_cover h I i k hi hk (by omega) with h1 | h1
    · exact Or.inl (hmb _ _ g4 h1)
    · exact Or.inr (hmb _ _ k4 h1)
  · have hc := most_count h I
    have p1 := pc_sum (rowS L.length (mM L) (mS L)) L.length
    have p2 := pc_sum (mS L) L.length
    rw [top _ hS1] at g3
    rw [top _ (fun c h => (I.a1 c h).1)] at k3
    unfold mN
    omega
theorem mN_max {L : List (List Int)} (h : IsT L) {a b : Nat → Nat} {p : Nat} (hp : Prng L a b p) : p ≤ mN L := by
  obtain ⟨h1, h2⟩ := own_cov h
  have := weak h1 hp
  omega
theorem mN_min {L : List (List Int)} (h : IsT L) {R C : Nat → Bool} (hc : Cov L R C) : (mN L : Int) ≤ sumN (fun i => one (R i = true)) L.length + sumN (fun i => one (C i = true)) L.length := weak hc (own_prng h)
/-- Rows and columns exchanged. -/
theorem mN_turn {L K : List (List Int)} (h : IsT L) (hK : IsT K) (hl : K.length = L.length) (e : ∀ i k, i < L.length → k < L.length → gat K i k = gat L k i) : mN L = mN K := by
  have p1 := own_prng h
  have p2 := own_prng hK
  refine Nat.le_antisymm (mN_max hK (a := fun i => (geti (csP (mM L) L.length) i).toNat) (b := fun i => (geti (rsP (mM L) L.length) i).toNat) ⟨fun i hi => by rw [hl]; exact p1.rb i hi, fun i hi => by rw [hl]; exact p1.ra i hi, fun i hi => ?_, p1.bb, p1.aa⟩)
    (mN_max h (a := fun i => (geti (csP (mM K) K.length) i).toNat) (b := fun i => (geti (rsP (mM K) K.length) i).toNat) ⟨fun i hi => by rw [← hl]; exact p2.rb i hi, fun i hi => by rw [← hl]; exact p2.ra i hi, fun i hi => ?_, p2.bb, p2.aa⟩)
  · rw [e _ _ (p1.rb i hi) (p1.ra i hi)]; exact p1.pos i hi
  · have := p2.pos i hi
    rwa [e _ _ (by rw [← hl]; exact p2.ra i hi) (by rw [← hl]; exact p2.rb i hi)] at this
/-- One number becomes positive. -/
theorem mN_more {L K : List (List Int)} (h : IsT L) (hK : IsT K) (hl : K.length = L.length) {r c : Nat} (hr : r < L.length) (e : ∀ i k, i < L.length → k < L.length → gat K i k = if r = i ∧ c = k then 1 else gat L i k) : mN L ≤ mN K ∧ mN K ≤ mN L + 1 := by
  have p1 := own_prng h
  constructor
  · refine mN_max hK ⟨fun i hi => by rw [hl]; exact p1.ra i hi, fun i hi => by rw [hl]; exact p1.rb i hi, fun i hi => ?_, p1.aa, p1.bb⟩
    rw [e _ _ (p1.ra i hi) (p1.rb i hi)]
    split
    · decide
    · exact p1.pos i hi
  · obtain ⟨h1, h2⟩ := own_cov h
    have h3 := mN_min hK (R := fun i => (rowS L.length (mM L) (mS L)).testBit i || decide (i = r)) (C := fun i => (mS L).testBit i) (fun i k hi hk hg => by
      rw [hl] at hi hk
      rw [e i k hi hk] at hg
      by_cases hx : r = i ∧ c = k
      · left; simp [hx.1]
      · rw [if_neg hx] at hg
        rcases h1 i k hi hk hg with h4 | h4
        · left; dsimp only at h4 ⊢; rw [h4]; rfl
        · exact Or.inr h4)
    rw [hl] at h3
    have h4 : sumN (fun i => one (((rowS L.length (mM L) (mS L)).testBit i || decide (i = r)) = true)) L.length ≤ sumN (fun i => one ((rowS L.length (mM L) (mS L)).testBit i = true)) L.length + sumN (fun i => one (i = r)) L.length := by
      rw [← sumN_add]
      refine sumN_le (fun i _ => ?_)
      unfold one
      (try dsimp only)
      cases (rowS L.length (mM L) (mS L)).testBit i
      · by_cases e : i = r <;> simp [e]
      · by_cases e : i = r <;> simp [e]
    have h5 : sumN (fun i => one (i = r)) L.length = 1 := by
      have := sumN_upd (g := fun _ => 0) (h := fun i => one (i = r)) (c := r) (d := 1) (by unfold one; simp) (fun j hj => by unfold one; rw [if_neg hj]) (n := L.length) hr
      rw [this, sumN_zero]; rfl
    omega
theorem mN_le (L : List (List Int)) : mN L ≤ L.length := prs_len _ _
theorem mN_sum {L : List (List Int)} (h : IsT L) : (mN L : Int) = sumN (fun r => cnA L.length (mM L) r) L.length := by
  have I := mI h
  have hl := h.le
  unfold mN
  rw [prs_sum]
  refine sumN_congr (fun r hr => ?_)
  have h0 := cnU_nonneg L.length 0 (mM L) r
  have h2 : cnU L.length 0 (mM L) r ≤ 1 := I.few r hr
  show _ = cnU L.length 0 (mM L) r
  unfold one
  by_cases hf : fst1 (mM L) (r : Int) 10 = -1
  · rw [if_neg (fun h => h hf)]
    have hz : cnU L.length 0 (mM L) r = 0 := by
      apply Classical.byContradiction
      intro hno
      obtain ⟨c, hc, h3, h4⟩ := cnU_some.1 hno
      exact fst1_no.1 hf c (by omega) h4
    omega
  · rw [if_pos hf]
    have hne : cnU L.length 0 (mM L) r ≠ 0 := by
      apply cnU_some.2
      have hb := fst1_bd (mM L) (r : Int) 10
      have ha := fst1_at hf
      refine ⟨(fst1 (mM L) (r : Int) 10).toNat, ?_, by simp, ha⟩
      apply Classical.byContradiction
      intro hno
      have := I.far (fst1 (mM L) (r : Int) 10).toNat (by omega) (by omega)
      omega
    omega
/-- As many pairs as rows, or no possible choice. -/
theorem mN_all {L : List (List Int)} (h : IsT L) : mN L = L.length ↔ 0 < chN L (sAll L.length) := by
  constructor
  · intro e
    apply Classical.byContradiction
    intro hk
    obtain ⟨r0, hr0, h0⟩ := some_left h (mI h) (by omega)
    have h1 := mN_sum h
    have b1 : sumN (fun r => cnA L.length (mM L) r) L.length ≤ sumN (fun r => if r = r0 then 0 else 1) L.length := sumN_le (fun r hr => by
      try dsimp only
      by_cases e : r = r0
      · subst e; rw [if_pos rfl]; exact Int.le_of_eq h0
      · rw [if_neg e]; exact (mI h).few r hr)
    have b2 := sumN_upd (g := fun _ => 1) (h := fun r : Nat => if r = r0 then (0 : Int) else 1) (c := r0) (d := -1) (by simp) (fun j hj => by simp [hj]) hr0
    rw [sumN_one] at b2
    omega
  · intro hk
    obtain ⟨h1, h2⟩ := poss_map (itm_poss h (Int.le_refl 0) hk).1
    refine Nat.le_antisymm (mN_le L) (mN_max h (a := fun i => i) (b := fun i => (geti (itm L L.length (sAll L.length) 0) i).toNat) ⟨fun i hi => hi, fun i hi => (h1 i hi).1, fun i hi => (h1 i hi).2, fun i j _ _ hne => hne, h2⟩)
end Go.Proofs.Ytnnaaoobdofooaa
