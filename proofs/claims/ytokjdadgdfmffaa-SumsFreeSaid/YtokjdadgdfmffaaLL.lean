/- Orders of elements. -/
import Derived.Test.YtokjdadgdfmffaaLK
namespace Go.Proofs.Ytokjdadgdfmffaa
theorem ordF_spec {m n : Nat} {a b : Int} : ∀ (f k : Nat), (∃ j, k ≤ j ∧ j ≤ k + f ∧ zt m n a b j) → k ≤ ordF m n a b f k ∧ ordF m n a b f k ≤ k + f ∧ zt m n a b (ordF m n a b f k) ∧ ∀ i, k ≤ i → i < ordF m n a b f k → ¬ zt m n a b i
  | 0, k, ⟨j, h1, h2, h3⟩ => by
    obtain rfl : j = k := by omega
    exact ⟨Nat.le_refl _, Nat.le_refl _, h3, fun i h4 h5 => by simp only [ordF] at h5; omega⟩
  | f + 1, k, ⟨j, h1, h2, h3⟩ => by
    unfold ordF
    by_cases h : zt m n a b k
    · rw [if_pos h]
      exact ⟨Nat.le_refl _, by omega, h, fun i h4 h5 => by omega⟩
    · rw [if_neg h]
      have hj : j ≠ k := fun e => h (e ▸ h3)
      obtain ⟨q1, q2, q3, q4⟩ := ordF_spec f (k + 1) ⟨j, by omega, by omega, h3⟩
      refine ⟨by omega, by omega, q3, fun i h4 h5 => ?_⟩
      by_cases e : i = k
      · subst e; exact h
      · exact q4 i (by omega) h5
theorem ord_spec {m n : Nat} (a b : Int) (hg : Gr m n) : 1 ≤ ordV m n a b ∧ zt m n a b (ordV m n a b) ∧ ∀ i, 1 ≤ i → i < ordV m n a b → ¬ zt m n a b i := by
  have h1 : 1 ≤ m * n := Nat.mul_pos hg.1 hg.2.2.1
  obtain ⟨q1, _, q3, q4⟩ := ordF_spec (m := m) (n := n) (a := a) (b := b) (m * n) 1 ⟨m * n, h1, by omega, zt_all m n a b⟩
  exact ⟨q1, q3, q4⟩
theorem zt_sub {m n : Nat} {a b : Int} {i j : Nat} (h1 : zt m n a b i) (h2 : zt m n a b j) (hij : j ≤ i) : zt m n a b (i - j) := by
  obtain ⟨x1, y1⟩ := h1
  obtain ⟨x2, y2⟩ := h2
  constructor
  · rw [Int.natCast_sub hij, Int.sub_mul, Int.sub_emod, x1, x2]; simp
  · rw [Int.natCast_sub hij, Int.sub_mul, Int.sub_emod, y1, y2]; simp
theorem ord_dvd {m n : Nat} {a b : Int} (hg : Gr m n) : ∀ i, zt m n a b i → ordV m n a b ∣ i := by
  obtain ⟨h1, h2, h3⟩ := ord_spec a b hg
  intro i
  induction i using Nat.strongRecOn with
  | ind i ih =>
    intro hi
    by_cases h0 : i = 0
    · subst h0; exact Nat.dvd_zero _
    · by_cases hlt : i < ordV m n a b
      · exact absurd hi (h3 i (by omega) hlt)
      · have h4 := ih (i - ordV m n a b) (by omega) (zt_sub hi h2 (by omega))
        have h5 := Nat.dvd_add h4 (Nat.dvd_refl (ordV m n a b))
        rwa [Nat.sub_add_cancel (by omega)] at h5
theorem ord_last {g : List Int} {m n : Nat} (hg : IsG g m n) (a b : Int) : ordV m n a b ∣ n ∧ ordV m n a b ≤ n := by
  have hz : zt m n a b n := by
    constructor
    · refine Int.emod_eq_zero_of_dvd ?_
      obtain ⟨_, _, _, _, h⟩ := hg
      have h1 : (m : Int) ∣ n := Int.natCast_dvd_natCast.2 (Nat.dvd_of_mod_eq_zero h)
      exact Int.dvd_mul_of_dvd_left h1
    · exact Int.emod_eq_zero_of_dvd (Int.dvd_mul_right _ _)
  have h := ord_dvd hg.1 n hz
  exact ⟨h, Nat.le_of_dvd (by have := hg.1.2.2.1; omega) h⟩
theorem ordF_congr {m n : Nat} {a b c d : Int} (h : ∀ k, zt m n a b k ↔ zt m n c d k) : ∀ f k, ordF m n a b f k = ordF m n c d f k
  | 0, _ => rfl
  | f + 1, k => by
    unfold ordF
    rw [ordF_congr h f (k + 1)]
    by_cases hz : zt m n a b k
    · rw [if_pos hz, if_pos ((h k).1 hz)]
    · rw [if_neg hz, if_neg (fun h2 => hz ((h k).2 h2))]
theorem neg_iff {m k : Nat} {a : Int} : ((k : Int) * ((m - a) % m)) % m = 0 ↔ ((k : Int) * a) % m = 0 := by
  have e : ((k : Int) * ((m - a) % m)) % m = (-(k * a)) % m := by
    rw [Int.mul_emod, Int.emod_emod_of_dvd _ (Int.dvd_refl _), ← Int.mul_emod, Int.mul_sub, emod_eq_iff, show (k : Int) * m - k * a - -(k * a) = k * m by omega]
    exact Int.dvd_mul_left _ _
  constructor
  · intro h
    rw [e] at h
    have := Int.dvd_of_emod_eq_zero h
    exact Int.emod_eq_zero_of_dvd (Int.dvd_neg.1 this)
  · intro h
    rw [e]
    exact Int.emod_eq_zero_of_dvd (Int.dvd_neg.2 (Int.dvd_of_emod_eq_zero h))
theorem isP_rep {m n : Nat} {e : Int × Int} : ∀ (k i : Nat) (r : List Int) (a b : Int), IsP m n i (List.replicate k e) r a b → a = a % m → b = b % n → r.length ≤ k ∧ (r.length * e.1) % m = a ∧ (r.length * e.2) % n = b
  | 0, _, r, a, b, h, _, _ => by
    obtain ⟨rfl, rfl, rfl⟩ := h
    simp
  | k + 1, i, r, a, b, h, ha, hb => by
    rw [List.replicate_succ] at h
    rcases h with h | ⟨r', rfl, h⟩
    · obtain ⟨h1, h2⟩ := isP_rep k (i + 1) r a b h ha hb
      exact ⟨by omega, h2⟩
    · obtain ⟨h1, h2, h3⟩ := isP_rep k (i + 1) r' _ _ h (Int.emod_emod_of_dvd _ (Int.dvd_refl _)).symm (Int.emod_emod_of_dvd _ (Int.dvd_refl _)).symm
      refine ⟨by rw [List.length_cons]; omega, ?_, ?_⟩
      · rw [List.length_cons, Int.natCast_add, Int.natCast_one, Int.add_mul, Int.one_mul]
        have h9 := emod_eq_iff.1 h2
        have h10 : ((r'.length : Int) * e.1 + e.1) % m = a % m := emod_eq_iff.2 (by rwa [show (r'.length : Int) * e.1 + e.1 - a = (r'.length : Int) * e.1 - (a - e.1) by omega])
        rw [h10, ← ha]
      · rw [List.length_cons, Int.natCast_add, Int.natCast_one, Int.add_mul, Int.one_mul]
        have h9 := emod_eq_iff.1 h3
        have h10 : ((r'.length : Int) * e.2 + e.2) % n = b % n := emod_eq_iff.2 (by rwa [show (r'.length : Int) * e.2 + e.2 - b = (r'.length : Int) * e.2 - (b - e.2) by omega])
        rw [h10, ← hb]
theorem isP_full {m n : Nat} {e : Int × Int} : ∀ (k i : Nat), ∃ r : List Int, r.length = k ∧ IsP m n i (List.replicate k e) r ((k * e.1) % m) ((k * e.2) % n)
  | 0, i => ⟨[], rfl, rfl, by simp, by simp⟩
  | k + 1, i => by
    obtain ⟨r, h1, h2⟩ := isP_full (m := m) (n := n) (e := e) k (i + 1)
    refine ⟨(i : Int) :: r, by rw [List.length_cons, h1], ?_⟩
    rw [List.replicate_succ]
    refine .inr ⟨r, rfl, ?_⟩
    have e1 : ∀ (x : Int) (q : Nat), ((((k + 1 : Nat) : Int) * x) % q - x) % q = (k * x) % q := fun x q => by
      rw [Int.sub_emod, Int.emod_emod_of_dvd _ (Int.dvd_refl _), ← Int.sub_emod, Int.natCast_add, Int.natCast_one, Int.add_mul, Int.one_mul, Int.add_sub_cancel]
    rw [e1, e1]
    exact h2
theorem sh_rep {m n : Nat} (hg : Gr m n) {e : Int × Int} (he : El m n e.1 e.2) : (shF m n 0 (List.replicate (ordV m n e.1 e.2) e) 0 0).length = ordV m n e.1 e.2 := by
  obtain ⟨h1, h2, h3⟩ := ord_spec e.1 e.2 hg
  generalize ordV m n e.1 e.2 = N at *
  have hpos : 0 < (shF m n 0 (List.replicate N e) 0 0).length := by
    rcases Nat.eq_zero_or_pos (shF m n 0 (List.replicate N e) 0 0).length with h0 | h0
    · exfalso
      obtain ⟨r, h4, h5⟩ := isP_full (m := m) (n := n) (e := e) N 0
      rw [h2.1, h2.2] at h5
      have h6 := sh_none hg (List.replicate N e) (fun x hx => by rw [List.eq_of_mem_replicate hx]; exact he) 0 0 0 (el_zero hg) h0 r h5
      rw [h6] at h4
      simp at h4
      omega
    · exact h0
  have hs := sh_sound hg (List.replicate N e) 0 0 0 hpos
  obtain ⟨h4, h5, h6⟩ := isP_rep N 0 _ 0 0 hs (by simp) (by simp)
  rcases Nat.lt_or_ge (shF m n 0 (List.replicate N e) 0 0).length N with h7 | h7
  · exact absurd ⟨h5, h6⟩ (h3 _ hpos h7)
  · omega
end Go.Proofs.Ytokjdadgdfmffaa
