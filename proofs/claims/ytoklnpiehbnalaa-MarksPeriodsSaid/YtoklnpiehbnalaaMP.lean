/- Periods: mathematics. -/
import Derived.Test.YtoklnpiehbnalaaME
import Derived.Test.YtoklnpiehbnalaaAH
namespace Go.Proofs.Ytoklnpiehbnalaa
set_option maxHeartbeats 1000000
set_option maxRecDepth 100000
/-- The periods as numbers. -/
def perN (x : List Nat) : List Nat := ((List.range x.length).map (· + 1)).filter (perP x)
theorem perL_natI (x : List Nat) : perL x = natI (perN x) := rfl
theorem perN_mem {x : List Nat} {p : Nat} : p ∈ perN x ↔ 1 ≤ p ∧ p ≤ x.length ∧ perP x p = true := by
  unfold perN
  rw [List.mem_filter, List.mem_map]
  constructor
  · rintro ⟨⟨i, hi, rfl⟩, h⟩
    have := List.mem_range.1 hi
    exact ⟨by omega, by omega, h⟩
  · rintro ⟨h1, h2, h3⟩
    exact ⟨⟨p - 1, List.mem_range.2 (by omega), by omega⟩, h3⟩
theorem perN_asc (x : List Nat) : (perN x).Pairwise (· < ·) := by
  unfold perN
  refine List.Pairwise.filter _ ?_
  rw [List.pairwise_map]
  exact List.pairwise_lt_range.imp (fun h => by omega)
theorem perN_lt {x : List Nat} {i j : Nat} (h : i < j) (hj : j < (perN x).length) : getn (perN x) i < getn (perN x) j := by
  rw [getn_eq (by omega), getn_eq hj]
  exact List.pairwise_iff_getElem.1 (perN_asc x) i j (by omega) hj h
theorem perN_at {x : List Nat} {i : Nat} (h : i < (perN x).length) : 1 ≤ getn (perN x) i ∧ getn (perN x) i ≤ x.length ∧ perP x (getn (perN x) i) = true := perN_mem.1 (getn_mem h)
theorem per_all {x : List Nat} (h : 1 ≤ x.length) : x.length ∈ perN x := perN_mem.2 ⟨h, Nat.le_refl _, by
  rw [perP_iff (Nat.le_refl _)]
  intro i hi
  omega⟩
theorem perN_len (x : List Nat) : (perN x).length ≤ x.length := by
  have := perU_len x x.length
  have e : (perL x).length = (perN x).length := by rw [perL_natI, natI_len]
  unfold perL at e
  omega
/-- The last period is the length. -/
theorem perN_last {x : List Nat} (h : 1 ≤ x.length) : 0 < (perN x).length ∧ getn (perN x) ((perN x).length - 1) = x.length := by
  have hm := per_all h
  obtain ⟨k, hk, e⟩ := List.getElem_of_mem hm
  refine ⟨by omega, ?_⟩
  have h1 := perN_at (x := x) (i := (perN x).length - 1) (by omega)
  rcases Nat.lt_or_ge k ((perN x).length - 1) with h2 | h2
  · have := perN_lt (x := x) h2 (by omega)
    rw [getn_eq hk, e] at this
    omega
  · rw [show (perN x).length - 1 = k by omega, getn_eq hk, e]
theorem perN_nil : perN [] = [] := rfl
/-- Multiples of a period. -/
theorem per_mul {x : List Nat} {p : Nat} (hp : p ≤ x.length) (h : perP x p = true) : ∀ c, c * p ≤ x.length → perP x (c * p) = true := by
  intro c
  induction c with
  | zero =>
    intro _
    rw [Nat.zero_mul, perP_iff (Nat.zero_le _)]
    intro i _
    rw [Nat.zero_add]
  | succ c ih =>
    intro hl
    have e : (c + 1) * p = c * p + p := Nat.succ_mul c p
    have h1 := ih (by omega)
    rw [perP_iff (by omega)] at h1 h ⊢
    intro i hi
    rw [← h1 i (by omega), ← h (c * p + i) (by omega)]
    congr 1
    omega
theorem mul_mem {x : List Nat} {i c : Nat} (hi : i < (perN x).length) (hc : 1 ≤ c) (hl : c * getn (perN x) i ≤ x.length) : c * getn (perN x) i ∈ perN x := by
  obtain ⟨h1, h2, h3⟩ := perN_at hi
  have := Nat.le_mul_of_pos_left (getn (perN x) i) hc
  exact perN_mem.2 ⟨by omega, hl, per_mul h2 h3 c hl⟩
/-- The difference of two periods whose sum is at most the length. -/
theorem per_diff {x : List Nat} {p q : Nat} (h : p + q ≤ x.length) (hpq : p ≤ q) (h1 : perP x p = true) (h2 : perP x q = true) : perP x (q - p) = true := by
  rw [perP_iff (by omega)] at h1 h2 ⊢
  intro i hi
  rcases Nat.lt_or_ge i p with h3 | h3
  · have e1 := h2 i (by omega)
    have e2 := h1 (q - p + i) (by omega)
    rw [← e2, ← e1]
    congr 1
    omega
  · have e1 := h1 (i - p) (by omega)
    have e2 := h2 (i - p) (by omega)
    rw [show p + (i - p) = i by omega] at e1
    rw [e1, ← e2]
    congr 1
    omega
theorem fine_wilf {x : List Nat} : ∀ n p q, p + q ≤ n → 1 ≤ p → 1 ≤ q → p + q ≤ x.length → perP x p = true → perP x q = true → perP x (Nat.gcd p q) = true
  | 0, p, q, hn, hp, _, _, _, _ => by omega
  | n + 1, p, q, hn, hp, hq, hl, h1, h2 => by
    rcases Nat.lt_trichotomy p q with h | h | h
    · have h3 := per_diff (by omega) (by omega) h1 h2
      have := fine_wilf n p (q - p) (by omega) hp (by omega) (by omega) h1 h3
      rwa [Nat.gcd_sub_self_right (by omega)] at this
    · subst h
      rw [Nat.gcd_self]; exact h1
    · have h3 := per_diff (by omega) (by omega) h2 h1
      have := fine_wilf n (p - q) q (by omega) (by omega) hq (by omega) h3 h2
      rwa [Nat.gcd_sub_self_left (by omega)] at this
theorem gcd_mem {x : List Nat} {i j : Nat} (hi : i < (perN x).length) (hj : j < (perN x).length) (hl : getn (perN x) j + getn (perN x) i ≤ x.length) : Nat.gcd (getn (perN x) i) (getn (perN x) j) ∈ perN x := by
  obtain ⟨a1, a2, a3⟩ := perN_at hi
  obtain ⟨b1, b2, b3⟩ := perN_at hj
  have hg := Nat.gcd_le_left (getn (perN x) j) a1
  have hp : 1 ≤ Nat.gcd (getn (perN x) i) (getn (perN x) j) := Nat.gcd_pos_of_pos_left _ a1
  exact perN_mem.2 ⟨hp, by omega, fine_wilf _ _ _ (Nat.le_refl _) a1 b1 (by omega) a3 b3⟩
/-- What is divided by what is left of the fraction is the divisor. -/
theorem div_gcd {n d : Nat} (hn : 1 ≤ n) : n / (n / Nat.gcd n d) = Nat.gcd n d := by
  have h2 := Nat.gcd_dvd_left n d
  exact Nat.div_div_self h2 (by omega)
end Go.Proofs.Ytoklnpiehbnalaa
