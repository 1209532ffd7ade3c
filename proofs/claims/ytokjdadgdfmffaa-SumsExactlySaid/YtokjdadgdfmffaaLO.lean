/- Exactly so many: what the reference counts, and that its choice is the code's. -/
import Derived.Test.YtokjdadgdfmffaaLB
namespace Go.Proofs.Ytokjdadgdfmffaa
/-- Can so many of these numbers have this remainder? -/
def cnB (n : Nat) : List Int → Nat → Int → Bool
  | [], k, r => decide (k = 0 ∧ r = 0)
  | x :: l, k, r => cnB n l k r || (decide (0 < k) && cnB n l (k - 1) ((r - x) % n))
/-- The first choice. -/
def grL (n : Nat) : Nat → List Int → Nat → Int → List Int
  | _, [], _, _ => []
  | i, x :: l, k, r => if 0 < k then (if cnB n l (k - 1) ((r - x) % n) = true then (i : Int) :: grL n (i + 1) l (k - 1) ((r - x) % n) else grL n (i + 1) l k r) else []
theorem cnB_zero (n : Nat) : ∀ (l : List Int) (r : Int), cnB n l 0 r = decide (r = 0)
  | [], r => by simp [cnB]
  | x :: l, r => by simp [cnB, cnB_zero n l r]
theorem grL_len {n : Nat} : ∀ (l : List Int) (i k : Nat) (r : Int), cnB n l k r = true → (grL n i l k r).length = k
  | [], i, k, r, h => by
    simp [cnB] at h
    simp [grL, h.1]
  | x :: l, i, k, r, h => by
    unfold grL
    by_cases hk : 0 < k
    · rw [if_pos hk]
      by_cases hc : cnB n l (k - 1) ((r - x) % n) = true
      · rw [if_pos hc, List.length_cons, grL_len l (i + 1) (k - 1) _ hc]; omega
      · rw [if_neg hc]
        unfold cnB at h
        simp only [Bool.or_eq_true, Bool.and_eq_true] at h
        rcases h with h | h
        · exact grL_len l (i + 1) k r h
        · exact absurd h.2 hc
    · rw [if_neg hk]
      have : k = 0 := by omega
      subst this; rfl
theorem isP_cn {n : Nat} : ∀ (l : List Int) (i : Nat) (r : List Int) (a b : Int), IsP n n i (exE n l) r a b → cnB n l r.length b = true ∧ ((r.length : Int) % n = a % n)
  | [], i, r, a, b, h => by
    obtain ⟨rfl, rfl, rfl⟩ := h
    simp [cnB]
  | x :: l, i, r, a, b, h => by
    rcases h with h | ⟨r', rfl, h⟩
    · obtain ⟨h1, h2⟩ := isP_cn l (i + 1) r a b h
      refine ⟨?_, h2⟩
      unfold cnB
      rw [h1]; rfl
    · obtain ⟨h1, h2⟩ := isP_cn l (i + 1) r' _ _ h
      dsimp only at h1 h2
      have e : (b - x % (n : Int)) % n = (b - x) % n := by
        rw [emod_eq_iff, show b - x % (n : Int) - (b - x) = x - x % n by omega]
        exact Int.dvd_self_sub_emod
      rw [e] at h1
      constructor
      · unfold cnB
        rw [List.length_cons, Nat.add_sub_cancel, h1]
        simp
      · rw [List.length_cons, Int.natCast_add, Int.natCast_one]
        have h3 := emod_eq_iff.1 h2
        rw [Int.emod_emod_of_dvd _ (Int.dvd_refl _)] at h2
        have h4 := emod_eq_iff.1 h2
        rw [emod_eq_iff]
        have h5 : (n : Int) ∣ 1 - 1 % (n : Int) := Int.dvd_self_sub_emod
        have h6 := Int.dvd_add h4 h5
        rwa [show (r'.length : Int) - (a - 1 % (n : Int)) + (1 - 1 % (n : Int)) = (r'.length : Int) + 1 - a by omega] at h6
theorem sh_gr {n : Nat} (hn : 1 ≤ n ∧ n ≤ 20) : ∀ (l : List Int) (i k : Nat) (r : Int), 1 ≤ k → k ≤ n → 0 ≤ r → r < n → cnB n l k r = true → shF n n i (exE n l) ((k : Int) % n) r = grL n i l k r
  | [], i, k, r, h1, _, _, _, h => by
    simp [cnB] at h
    omega
  | x :: l, i, k, r, h1, h2, r0, r1, h => by
    have hg : Gr n n := ⟨hn.1, by omega, hn.1, by omega⟩
    have en : ∀ (b : Int), (b - x % (n : Int)) % n = (b - x) % n := fun b => by
      rw [emod_eq_iff, show b - x % (n : Int) - (b - x) = x - x % n by omega]
      exact Int.dvd_self_sub_emod
    have ek : ((k : Int) % n - 1 % (n : Int)) % n = ((k - 1 : Nat) : Int) % n := by
      rw [← Int.sub_emod, Int.natCast_sub h1]; rfl
    have hpos : ∀ (a b : Int) (i : Nat), 0 < (shF n n i (exE n l) a b).length → cnB n l (shF n n i (exE n l) a b).length b = true ∧ ((shF n n i (exE n l) a b).length : Int) % n = a % n := fun a b i h3 => isP_cn l i _ a b (sh_sound hg (exE n l) i a b h3)
    have hex : exE n (x :: l) = ((1 : Int) % n, x % n) :: exE n l := rfl
    rw [hex]
    unfold shF grL
    dsimp only
    rw [if_pos (show 0 < k by omega), en r, ek]
    by_cases he : (1 : Int) % n = (k : Int) % n ∧ x % n = r
    · rw [if_pos he]
      have hk1 : k = 1 := by
        have h3 := emod_eq_iff.1 he.1
        obtain ⟨c, hc⟩ := h3
        rcases Int.lt_trichotomy c 0 with h4 | h4 | h4
        · have : (n : Int) * c ≤ n * (-1) := Int.mul_le_mul_of_nonneg_left (by omega) (by omega)
          omega
        · subst h4; omega
        · have : (n : Int) * 1 ≤ n * c := Int.mul_le_mul_of_nonneg_left (by omega) (by omega)
          omega
      subst hk1
      have hz : (r - x) % n = 0 := by rw [← he.2, ← Int.emod_eq_emod_iff_emod_sub_eq_zero]; exact Int.emod_emod_of_dvd _ (Int.dvd_refl _)
      rw [hz, cnB_zero]
      simp only [decide_true, if_true]
      have : grL n (i + 1) l (1 - 1) 0 = [] := by cases l <;> simp [grL]
      rw [this]
    · rw [if_neg he]
      by_cases hc : cnB n l (k - 1) ((r - x) % n) = true
      · rw [if_pos hc]
        have hk2 : 2 ≤ k := by
          rcases Nat.lt_or_ge k 2 with h3 | h3
          · exfalso
            obtain rfl : k = 1 := by omega
            rw [show 1 - 1 = 0 from rfl, cnB_zero] at hc
            have h4 := of_decide_eq_true hc
            apply he
            refine ⟨rfl, ?_⟩
            have h5 := emod_eq_iff.2 (Int.dvd_of_emod_eq_zero h4)
            rw [Int.emod_eq_of_lt r0 r1] at h5
            exact h5.symm
          · exact h3
        have e1 := Int.emod_nonneg (r - x) (b := (n : Int)) (by omega)
        have e2 := Int.emod_lt_of_pos (r - x) (b := (n : Int)) (by omega)
        have ih := sh_gr hn l (i + 1) (k - 1) _ (by omega) (by omega) e1 e2 hc
        rw [ih]
        have hl := grL_len l (i + 1) (k - 1) _ hc
        rw [if_pos]
        refine ⟨by omega, ?_⟩
        rcases Nat.eq_zero_or_pos (shF n n (i + 1) (exE n l) ((k : Int) % n) r).length with h3 | h3
        · exact .inl h3
        · refine .inr ?_
          have h4 := (hpos _ _ _ h3).2
          rw [Int.emod_emod_of_dvd _ (Int.dvd_refl _)] at h4
          have h5 := emod_eq_iff.1 h4
          obtain ⟨c, hc2⟩ := h5
          rcases Int.lt_or_le c 0 with h6 | h6
          · have : (n : Int) * c ≤ n * (-1) := Int.mul_le_mul_of_nonneg_left (by omega) (by omega)
            omega
          · have : (0 : Int) ≤ n * c := Int.mul_nonneg (by omega) h6
            omega
      · rw [if_neg hc]
        have hcl : cnB n l k r = true := by
          unfold cnB at h
          simp only [Bool.or_eq_true, Bool.and_eq_true] at h
          rcases h with h | h
          · exact h
          · exact absurd h.2 hc
        have ih := sh_gr hn l (i + 1) k r h1 h2 r0 r1 hcl
        rw [ih]
        have hl := grL_len l (i + 1) k r hcl
        rw [if_neg]
        rintro ⟨h3, h4⟩
        rcases h4 with h4 | h4
        · omega
        · obtain ⟨h5, h6⟩ := hpos _ _ _ h3
          rw [Int.emod_emod_of_dvd _ (Int.dvd_refl _)] at h6
          rw [hl] at h4
          have h7 := emod_eq_iff.1 h6
          obtain ⟨c, hc2⟩ := h7
          rcases Int.lt_trichotomy c 0 with h8 | h8 | h8
          · have : (n : Int) * c ≤ n * (-1) := Int.mul_le_mul_of_nonneg_left (by omega) (by omega)
            omega
          · subst h8
            apply hc
            rwa [show (shF n n (i + 1) (exE n l) (((k - 1 : Nat) : Int) % n) ((r - x) % n)).length = k - 1 by omega] at h5
          · have : (n : Int) * 1 ≤ n * c := Int.mul_le_mul_of_nonneg_left (by omega) (by omega)
            omega
end Go.Proofs.Ytokjdadgdfmffaa
