/- No table has both a possible choice and a block. -/
import Derived.Test.YtnnaaoobdofooaaSX
namespace Go.Proofs.Ytnnaaoobdofooaa
open Go.RowKit
set_option maxHeartbeats 1000000
set_option maxRecDepth 100000
theorem sumN_pos {g : Nat → Int} : ∀ {n : Nat}, (∀ j, j < n → 0 ≤ g j) → 0 < sumN g n → ∃ j, j < n ∧ 0 < g j
  | 0, _, h => absurd h (by show ¬ (0 : Int) < 0; omega)
  | n + 1, h0, h => by
    have h1 : 0 < sumN g n + g n := h
    by_cases e : 0 < g n
    · exact ⟨n, by omega, e⟩
    · have := h0 n (by omega)
      obtain ⟨j, hj, hg⟩ := sumN_pos (g := g) (n := n) (fun j hj => h0 j (by omega)) (by omega)
      exact ⟨j, by omega, hg⟩
theorem pmF_imp : ∀ (m : Nat) (F G : Nat → Nat → Int) (S : Nat), (∀ i c, 0 ≤ F i c) → (∀ i c, 0 ≤ G i c) → (∀ i c, 0 < F i c → 0 < G i c) → 0 < pmF m F S → 0 < pmF m G S
  | 0, _, _, _, _, _, _, _ => by show (0 : Int) < 1; decide
  | m + 1, F, G, S, hF, hG, hi, h => by
    have nn : ∀ (K : Nat → Nat → Int), (∀ i c, 0 ≤ K i c) → ∀ c, c < 10 → 0 ≤ (if S.testBit c = true then K 0 c * pmF m (fun i => K (i + 1)) (sWithout S c) else 0) := fun K hK c _ => by
      split
      · exact Int.mul_nonneg (hK 0 c) (pmF_nonneg m _ _ (fun i c => hK (i + 1) c))
      · exact Int.le_refl _
    obtain ⟨c, hc, hp⟩ := sumN_pos (nn F hF) h
    have hb : S.testBit c = true := by
      cases hb : S.testBit c
      · rw [hb] at hp; simp at hp
      · rfl
    rw [if_pos hb] at hp
    have h1 := pmF_nonneg m (fun i => F (i + 1)) (sWithout S c) (fun i c => hF (i + 1) c)
    have h2 : 0 < pmF m (fun i => F (i + 1)) (sWithout S c) := by
      rcases Int.lt_or_eq_of_le h1 with h | h
      · exact h
      · rw [← h] at hp; simp at hp
    have h3 : 0 < F 0 c := by
      rcases Int.lt_or_eq_of_le (hF 0 c) with h | h
      · exact h
      · rw [← h] at hp; simp at hp
    have ih := pmF_imp m (fun i => F (i + 1)) (fun i => G (i + 1)) (sWithout S c) (fun i c => hF (i + 1) c) (fun i c => hG (i + 1) c) (fun i c => hi (i + 1) c) h2
    have hg := sumN_ge (nn G hG) hc
    rw [if_pos hb] at hg
    have := Int.mul_pos (hi 0 c h3) ih
    show 0 < sumN _ 10
    omega
theorem perm_chN {L : List (List Int)} (h : IsT L) : 0 < perm L ↔ 0 < chN L (sAll L.length) := by
  have e : chN L (sAll L.length) = perm (onesL L) := by unfold perm; rw [onesL_len]
  rw [e, perm_pmF h, perm_pmF h.ones, onesL_len]
  constructor
  · exact pmF_imp _ _ _ _ (fun i c => (h.bd i c).1) (fun i c => (h.ones.bd i c).1) (fun i c hp => by rw [onesL_at]; omega)
  · exact pmF_imp _ _ _ _ (fun i c => (h.ones.bd i c).1) (fun i c => (h.bd i c).1) (fun i c hp => by rw [onesL_at] at hp; omega)
theorem cs_mem {xs : List Int} : ∀ {k j : Nat}, j < k → (cs xs k).testBit (geti xs j).toNat = true
  | k + 1, j, h => by
    unfold cs
    rw [with_bit]
    by_cases e : j = k
    · subst e; simp
    · rw [cs_mem (show j < k by omega)]; rfl
theorem cg_ne {n : Nat} {xs : List Int} {k i j : Nat} (h : cg n xs k = true) (hij : i < j) (hj : j < k) : (geti xs i).toNat ≠ (geti xs j).toNat := by
  intro e
  have hc : cg n xs (j + 1) = true := by
    cases hb : cg n xs (j + 1)
    · have := cg_mono hb (k - (j + 1))
      rw [show j + 1 + (k - (j + 1)) = k by omega, h] at this
      cases this
    · rfl
  unfold cg at hc
  simp only [Bool.and_eq_true, Bool.not_eq_true'] at hc
  have h2 := cs_mem (xs := xs) hij
  rw [e, hc.2] at h2
  cases h2
theorem pg_at {L : List (List Int)} {xs : List Int} : ∀ {k j : Nat}, pg L xs k = true → j < k → gat L j (geti xs j).toNat ≠ 0
  | k + 1, j, h, hj => by
    unfold pg at h
    simp only [Bool.and_eq_true, Bool.not_eq_true', decide_eq_false_iff_not] at h
    by_cases e : j = k
    · subst e; exact h.2
    · exact pg_at h.1 (by omega)
/-- What a possible choice gives. -/
theorem poss_map {L : List (List Int)} {xs : List Int} (h : possB L xs = true) : (∀ i, i < L.length → (geti xs i).toNat < L.length ∧ gat L i (geti xs i).toNat ≠ 0) ∧ ∀ i j, i < L.length → j < L.length → i ≠ j → (geti xs i).toNat ≠ (geti xs j).toNat := by
  unfold possB colsOk at h
  simp only [Bool.and_eq_true, decide_eq_true_eq] at h
  obtain ⟨⟨h1, h2⟩, h3⟩ := h
  rw [h2] at h1 h3
  refine ⟨fun i hi => ⟨by have := cg_at h1 hi; omega, pg_at h3 hi⟩, fun i j hi hj hne => ?_⟩
  rcases Nat.lt_or_gt_of_ne hne with e | e
  · exact cg_ne h1 e hj
  · exact (cg_ne h1 e hi).symm
theorem poss_chN {L : List (List Int)} (hL : IsT L) {xs : List Int} (h : possB L xs = true) : 0 < chN L (sAll L.length) := by
  obtain ⟨h1, h2⟩ := poss_map h
  exact chN_pos hL (fun i => (geti xs i).toNat) h1 h2
theorem few_one {f : Nat → Nat} {c : Nat} : ∀ {q : Nat}, (∀ i j, i < q → j < q → i ≠ j → f i ≠ f j) → sumN (fun i => one (f i = c)) q ≤ 1
  | 0, _ => by show (0 : Int) ≤ 1; decide
  | q + 1, h => by
    have ih := few_one (f := f) (c := c) (q := q) (fun i j hi hj => h i j (by omega) (by omega))
    show sumN _ q + one (f q = c) ≤ 1
    by_cases e : f q = c
    · have : sumN (fun i => one (f i = c)) q = 0 := by
        rw [sumN_congr (h := fun _ => 0) (fun i hi => by
          unfold one
          rw [if_neg (fun e2 => h i q (by omega) (by omega) (by omega) (by rw [e, e2]))]), sumN_zero]
      rw [this]
      have := (one_bd (f q = c)).2
      omega
    · have : one (f q = c) = 0 := by unfold one; rw [if_neg e]
      omega
/-- So many different members of a set. -/
theorem pc_many {n s q : Nat} (f : Nat → Nat) (h1 : ∀ i, i < q → f i < n ∧ s.testBit (f i) = true) (h2 : ∀ i j, i < q → j < q → i ≠ j → f i ≠ f j) : q ≤ pc n s := by
  have e1 : sumN (fun i => sumN (fun c => one (f i = c)) n) q = (q : Int) := by
    rw [← sumN_one q]
    refine sumN_congr (fun i hi => ?_)
    have := sumN_upd (g := fun _ => 0) (h := fun c => one (f i = c)) (c := f i) (d := 1) (by unfold one; simp) (fun j hj => by unfold one; rw [if_neg (fun e => hj e.symm)]) (n := n) (h1 i hi).1
    rw [this, sumN_zero]; rfl
  rw [sumN_swap] at e1
  have e2 : sumN (fun c => sumN (fun i => one (f i = c)) q) n ≤ sumN (fun c => one (s.testBit c = true)) n := sumN_le (fun c _ => by
    try dsimp only
    by_cases hb : s.testBit c = true
    · have := few_one (f := f) (c := c) h2
      unfold one at this ⊢
      rw [if_pos hb]; exact this
    · rw [sumN_congr (h := fun _ => 0) (fun i hi => by
        unfold one
        rw [if_neg (fun e => hb (by rw [← e]; exact (h1 i hi).2))]), sumN_zero]
      exact (one_bd _).1)
  have := pc_sum s n
  omega
theorem ag_lt {n : Nat} {xs : List Int} : ∀ {k i j : Nat}, ag n xs k = true → i < j → j < k → geti xs i < geti xs j
  | k + 1, i, j, h, hij, hj => by
    unfold ag at h
    simp only [Bool.and_eq_true, decide_eq_true_eq] at h
    by_cases e : j = k
    · subst e
      cases j with
      | zero => omega
      | succ j =>
        have hl : lastN xs (j + 1) = geti xs j := rfl
        rw [hl] at h
        by_cases e2 : i = j
        · subst e2; exact h.1.2
        · have := ag_lt h.1.1 (show i < j by omega) (show j < j + 1 by omega)
          omega
    · exact ag_lt h.1.1 hij (by omega)
theorem us_mem {L : List (List Int)} {xs : List Int} : ∀ {k j c : Nat}, j < k → c < 10 → 0 < gat L (geti xs j).toNat c → (us L xs k).testBit c = true
  | k + 1, j, c, h, hc, hg => by
    rw [us_bit L xs k hc]
    by_cases e : j = k
    · subst e; rw [decide_eq_true hg]; simp
    · rw [us_mem (show j < k by omega) hc hg]; rfl
/-- Not both. -/
theorem not_both {L : List (List Int)} (hL : IsT L) (hk : 0 < chN L (sAll L.length)) (ys : List Int) : blkB L ys = false := by
  cases hb : blkB L ys
  · rfl
  · have hl := hL.le
    unfold blkB at hb
    simp only [Bool.and_eq_true, decide_eq_true_eq] at hb
    obtain ⟨ha, hlt⟩ := hb
    obtain ⟨h1, h2⟩ := poss_map (itm_poss hL (Int.le_refl 0) hk).1
    generalize itm L L.length (sAll L.length) 0 = X at *
    have hq : ys.length ≤ pc L.length (us L ys ys.length) := pc_many (fun i => (geti X (geti ys i).toNat).toNat) (fun i hi => by
      have hr := ag_at ha hi
      have hm := h1 (geti ys i).toNat (by omega)
      have hbd := hL.bd (geti ys i).toNat (geti X (geti ys i).toNat).toNat
      exact ⟨hm.1, us_mem hi (by omega) (by omega)⟩) (fun i j hi hj hne => by
      have hri := ag_at ha hi
      have hrj := ag_at ha hj
      refine h2 _ _ (by omega) (by omega) (fun e => ?_)
      rcases Nat.lt_or_gt_of_ne hne with e2 | e2
      · have := ag_lt ha e2 hj; omega
      · have := ag_lt ha e2 hi; omega)
    rw [us_pc hL] at hlt
    omega
end Go.Proofs.Ytnnaaoobdofooaa
