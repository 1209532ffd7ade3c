/- The items are possible choices. -/
import Derived.Test.YtnnaaoobdofooaaSW
import Derived.Test.YtnnaaoobdofooaaSA
namespace Go.Proofs.Ytnnaaoobdofooaa
open Go.RowKit
set_option maxHeartbeats 1000000
set_option maxRecDepth 100000
theorem chN_nonneg {L : List (List Int)} (h : IsT L) {s : Nat} (hs : s < 1024) : 0 ≤ chN L s := (prm_bd h.ones hs).1
theorem pk_ex {L : List (List Int)} (h : IsT L) {r s : Nat} (hs : s < 2^L.length) : ∀ (d c : Nat) (k : Int), c + d = L.length → 0 ≤ k → k + bfN L r s c < bfN L r s L.length →
    ∃ c' k', pk L r s ((List.range L.length).drop c) k = some (c', k') ∧ c' < L.length ∧ okC L r s c' = true ∧ 0 ≤ k' ∧ k' < chN L (sWithout s c')
  | 0, c, k, hc, h0, hk => by
    obtain rfl : c = L.length := by omega
    omega
  | d + 1, c, k, hc, h0, hk => by
    have hl := pow_le10 h.le
    have hcl : c < L.length := by omega
    rw [range_drop hcl]
    have hst := bfN_step h r s c
    cases ho : okC L r s c
    · rw [pk_skip ho]
      rw [ho] at hst
      simp only [Bool.false_eq_true, if_false] at hst
      exact pk_ex h hs d (c + 1) k (by omega) h0 (by omega)
    · rw [ho] at hst
      simp only [if_true] at hst
      by_cases hlt : k < chN L (sWithout s c)
      · exact ⟨c, k, pk_take ho hlt, hcl, ho, h0, hlt⟩
      · rw [pk_next ho hlt]
        exact pk_ex h hs d (c + 1) _ (by omega) (by omega) (by omega)
theorem geti_cons (x : Int) (xs : List Int) (i : Nat) : geti (x :: xs) (i + 1) = geti xs i := rfl
/-- What an item is. -/
structure ItmR (L : List (List Int)) (m s : Nat) (X : List Int) : Prop where
  len : X.length = m
  col : ∀ i, i < m → 0 ≤ geti X i ∧ geti X i < L.length ∧ s.testBit (geti X i).toNat = true ∧ gat L (L.length - m + i) (geti X i).toNat ≠ 0
  ne : ∀ i j, i < j → j < m → geti X i ≠ geti X j
theorem itm_ok {L : List (List Int)} (h : IsT L) : ∀ (m s : Nat) (k : Int), m ≤ L.length → s < 2^L.length → pc 16 s = m → 0 ≤ k → k < chN L s → ItmR L m s (itm L m s k)
  | 0, s, k, _, _, _, _, _ => ⟨rfl, fun i hi => absurd hi (by omega), fun i j _ hj => absurd hj (by omega)⟩
  | m + 1, s, k, hm, hs, hp, h0, hk => by
    have hl := pow_le10 h.le
    have hle := h.le
    have hsum := chN_sum h (r := L.length - (m + 1)) (s := s) (by omega) hs (by omega)
    have hb0 : bfN L (L.length - (m + 1)) s 0 = 0 := rfl
    obtain ⟨c, k', hpk, hc, ho, h1, h2⟩ := pk_ex h (r := L.length - (m + 1)) hs L.length 0 k (by omega) h0 (by omega)
    rw [List.drop_zero] at hpk
    rw [itm_some hpk]
    unfold okC at ho
    simp only [Bool.and_eq_true, Bool.not_eq_true', decide_eq_false_iff_not] at ho
    have hpw := pc_without (s := s) (v := c) (by omega) (by omega) ho.1
    have ih := itm_ok h m (sWithout s c) k' (by omega) (Nat.lt_of_le_of_lt (without_le s c) hs) (by omega) h1 h2
    have hwb : ∀ v, v < 16 → (sWithout s c).testBit v = true → s.testBit v = true ∧ c ≠ v := fun v hv hb => by
      rw [without_bit s c v (by omega) (by omega)] at hb
      simp only [Bool.and_eq_true, Bool.not_eq_true', decide_eq_false_iff_not] at hb
      exact hb
    refine ⟨by rw [List.length_cons, ih.len], fun i hi => ?_, fun i j hij hj => ?_⟩
    · cases i with
      | zero =>
        show 0 ≤ (c : Int) ∧ (c : Int) < L.length ∧ s.testBit (c : Int).toNat = true ∧ gat L (L.length - (m + 1) + 0) (c : Int).toNat ≠ 0
        rw [Int.toNat_natCast]
        exact ⟨by omega, by omega, ho.1, ho.2⟩
      | succ i =>
        rw [geti_cons]
        obtain ⟨a1, a2, a3, a4⟩ := ih.col i (by omega)
        refine ⟨a1, a2, (hwb _ (by omega) a3).1, ?_⟩
        rwa [show L.length - (m + 1) + (i + 1) = L.length - m + i by omega]
    · cases j with
      | zero => omega
      | succ j =>
        rw [geti_cons]
        cases i with
        | zero =>
          obtain ⟨a1, a2, a3, a4⟩ := ih.col j (by omega)
          have := (hwb _ (by omega) a3).2
          show (c : Int) ≠ geti (itm L m (sWithout s c) k') j
          omega
        | succ i =>
          rw [geti_cons]
          exact ih.ne i j (by omega) (by omega)
theorem cs_bit {xs : List Int} {v : Nat} : ∀ {k : Nat}, (cs xs k).testBit v = true → ∃ j, j < k ∧ (geti xs j).toNat = v
  | 0, h => by simp [cs] at h
  | k + 1, h => by
    unfold cs at h
    rw [with_bit] at h
    simp only [Bool.or_eq_true, decide_eq_true_eq] at h
    rcases h with h | h
    · obtain ⟨j, hj, e⟩ := cs_bit h
      exact ⟨j, by omega, e⟩
    · exact ⟨k, by omega, h⟩
theorem itmR_poss {L : List (List Int)} {s : Nat} {X : List Int} (R : ItmR L L.length s X) : possB L X = true := by
  have hcg : ∀ k, k ≤ L.length → cg L.length X k = true := fun k => by
    induction k with
    | zero => intro _; rfl
    | succ k ih =>
      intro hk
      obtain ⟨a1, a2, _, _⟩ := R.col k (by omega)
      refine cg_yes (ih (by omega)) a1 a2 ?_
      cases hb : (cs X k).testBit (geti X k).toNat
      · rfl
      · obtain ⟨j, hj, e⟩ := cs_bit hb
        have b1 := (R.col j (by omega)).1
        exact absurd (show geti X j = geti X k by omega) (R.ne j k hj (by omega))
  have hpg : ∀ k, k ≤ L.length → pg L X k = true := fun k => by
    induction k with
    | zero => intro _; rfl
    | succ k ih =>
      intro hk
      obtain ⟨_, _, _, a4⟩ := R.col k (by omega)
      rw [Nat.sub_self, Nat.zero_add] at a4
      exact pg_yes (ih (by omega)) a4
  unfold possB colsOk
  rw [R.len, hcg _ (Nat.le_refl _), hpg _ (Nat.le_refl _)]
  simp
theorem itm_poss {L : List (List Int)} (h : IsT L) {k : Int} (h0 : 0 ≤ k) (hk : k < chN L (sAll L.length)) : possB L (itm L L.length (sAll L.length) k) = true ∧ (itm L L.length (sAll L.length) k).length = L.length := by
  have hs : sAll L.length < 2^L.length := by unfold sAll; have := Nat.two_pow_pos L.length; omega
  have R := itm_ok h L.length (sAll L.length) k (Nat.le_refl _) hs (pc_all (by have := h.le; omega)) h0 hk
  exact ⟨itmR_poss R, R.len⟩
end Go.Proofs.Ytnnaaoobdofooaa
