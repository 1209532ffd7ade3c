/- The sizes of shortest parts, from the end of the list: mathematics. -/
import Derived.Test.YtokjdadgdfmffaaKI
namespace Go.Proofs.Ytokjdadgdfmffaa
set_option maxRecDepth 100000
/-- What stands for none. -/
def farN : Nat := 1099511627776
/-- The size of a shortest part, the empty one too. -/
def szL (m n : Nat) : List (Int × Int) → Int → Int → Nat
  | [], a, b => if a = 0 ∧ b = 0 then 0 else farN
  | e :: l, a, b => min (szL m n l a b) (1 + szL m n l ((a - e.1) % m) ((b - e.2) % n))
/-- The size of a shortest part that is not empty. -/
def nzL (m n : Nat) : List (Int × Int) → Int → Int → Nat
  | [], _, _ => farN
  | e :: l, a, b => min (nzL m n l a b) (1 + szL m n l ((a - e.1) % m) ((b - e.2) % n))
/-- The choice, from the first element on: r elements are wanted. -/
def gdL (m n : Nat) : Nat → List (Int × Int) → Int → Int → Nat → List Int
  | _, [], _, _, _ => []
  | i, e :: l, a, b, r =>
    if r = 0 then [] else if 1 + szL m n l ((a - e.1) % m) ((b - e.2) % n) = r then (i : Int) :: gdL m n (i + 1) l ((a - e.1) % m) ((b - e.2) % n) (r - 1) else gdL m n (i + 1) l a b r
theorem gdL_zero (m n : Nat) : ∀ i l a b, gdL m n i l a b 0 = []
  | _, [], _, _ => rfl
  | _, _ :: _, _, _ => by unfold gdL; rw [if_pos rfl]
theorem szL_le (m n : Nat) : ∀ l a b, szL m n l a b ≤ farN
  | [], a, b => by unfold szL; split <;> simp [farN]
  | e :: l, a, b => by
    have := szL_le m n l a b
    unfold szL
    omega
theorem szL_zero (m n : Nat) : ∀ l, szL m n l 0 0 = 0
  | [] => by unfold szL; rw [if_pos ⟨rfl, rfl⟩]
  | e :: l => by unfold szL; rw [szL_zero m n l]; omega
theorem el_diff {m n : Nat} {a b c d : Int} (h1 : El m n a b) (h2 : El m n c d) : ((a - c) % m = 0 ∧ (b - d) % n = 0) ↔ (c = a ∧ d = b) := by
  obtain ⟨a1, a2, a3, a4⟩ := h1
  obtain ⟨c1, c2, c3, c4⟩ := h2
  constructor
  · rintro ⟨e1, e2⟩
    obtain ⟨k1, hk1⟩ := Int.dvd_of_emod_eq_zero e1
    obtain ⟨k2, hk2⟩ := Int.dvd_of_emod_eq_zero e2
    constructor
    · have h3 : k1 = 0 := by
        rcases Int.lt_trichotomy k1 0 with h | h | h
        · have := Int.mul_le_mul_of_nonneg_left (show k1 ≤ -1 by omega) (show (0 : Int) ≤ m by omega); omega
        · exact h
        · have := Int.mul_le_mul_of_nonneg_left (show 1 ≤ k1 by omega) (show (0 : Int) ≤ m by omega); omega
      rw [h3] at hk1; omega
    · have h3 : k2 = 0 := by
        rcases Int.lt_trichotomy k2 0 with h | h | h
        · have := Int.mul_le_mul_of_nonneg_left (show k2 ≤ -1 by omega) (show (0 : Int) ≤ n by omega); omega
        · exact h
        · have := Int.mul_le_mul_of_nonneg_left (show 1 ≤ k2 by omega) (show (0 : Int) ≤ n by omega); omega
      rw [h3] at hk2; omega
  · rintro ⟨rfl, rfl⟩
    simp
def lnF (xs : List Int) : Nat := if xs.length = 0 then farN else xs.length
theorem sz_nz {m n : Nat} (hg : Gr m n) : ∀ (l : List (Int × Int)), (∀ e ∈ l, El m n e.1 e.2) → l.length ≤ 60 → ∀ i a b, El m n a b →
    nzL m n l a b = lnF (shF m n i l a b) ∧ (¬(a = 0 ∧ b = 0) → szL m n l a b = nzL m n l a b)
  | [], _, _, i, a, b, _ => ⟨rfl, fun h => by unfold szL nzL; rw [if_neg h]⟩
  | e :: l, he, hl, i, a, b, hab => by
    have he1 := he e List.mem_cons_self
    have he2 : ∀ e ∈ l, El m n e.1 e.2 := fun x hx => he x (List.mem_cons_of_mem _ hx)
    have hl2 : l.length ≤ 60 := by simp at hl; omega
    obtain ⟨h1, h2⟩ := sz_nz hg l he2 hl2 (i + 1) a b hab
    obtain ⟨h3, h4⟩ := sz_nz hg l he2 hl2 (i + 1) _ _ (el_mod hg (a - e.1) (b - e.2))
    have hd := el_diff hab he1
    have len1 := shF_len m n l (i + 1) a b
    have len2 := shF_len m n l (i + 1) ((a - e.1) % m) ((b - e.2) % n)
    refine ⟨?_, fun h => by unfold szL nzL; rw [h2 h]⟩
    unfold nzL shF
    by_cases hs : e.1 = a ∧ e.2 = b
    · obtain ⟨z1, z2⟩ := hd.2 hs
      rw [if_pos hs, z1, z2, szL_zero]
      have : 1 ≤ nzL m n l a b := by
        rw [h1]; unfold lnF farN; split <;> omega
      show min (nzL m n l a b) (1 + 0) = 1
      omega
    · rw [if_neg hs, h4 (fun h => hs (hd.1 h)), h3, h1]
      generalize shF m n (i + 1) l a b = p at *
      generalize shF m n (i + 1) l ((a - e.1) % m) ((b - e.2) % n) = r at *
      unfold lnF farN
      dsimp only
      by_cases c : 0 < r.length ∧ (p.length = 0 ∨ r.length < p.length)
      · rw [if_pos c, if_neg (show ¬ r.length = 0 by omega)]
        simp only [List.length_cons]
        rw [if_neg (show ¬ r.length + 1 = 0 by omega)]
        split <;> omega
      · rw [if_neg c]
        split <;> split <;> omega
theorem gd_sh {m n : Nat} (hg : Gr m n) : ∀ (l : List (Int × Int)), (∀ e ∈ l, El m n e.1 e.2) → l.length ≤ 60 → ∀ i a b, El m n a b → nzL m n l a b < farN → gdL m n i l a b (nzL m n l a b) = shF m n i l a b
  | [], _, _, i, a, b, _, _ => rfl
  | e :: l, he, hl, i, a, b, hab, hlt => by
    have he1 := he e List.mem_cons_self
    have he2 : ∀ e ∈ l, El m n e.1 e.2 := fun x hx => he x (List.mem_cons_of_mem _ hx)
    have hl2 : l.length ≤ 60 := by simp at hl; omega
    have hq := el_mod hg (a - e.1) (b - e.2)
    obtain ⟨h1, h2⟩ := sz_nz hg l he2 hl2 (i + 1) a b hab
    obtain ⟨h3, h4⟩ := sz_nz hg l he2 hl2 (i + 1) _ _ hq
    have ih1 := gd_sh hg l he2 hl2 (i + 1) a b hab
    have ih2 := gd_sh hg l he2 hl2 (i + 1) _ _ hq
    have hd := el_diff hab he1
    have len1 := shF_len m n l (i + 1) a b
    have len2 := shF_len m n l (i + 1) ((a - e.1) % m) ((b - e.2) % n)
    have hr : nzL m n (e :: l) a b = min (nzL m n l a b) (1 + szL m n l ((a - e.1) % m) ((b - e.2) % n)) := rfl
    have hp1 : 1 ≤ nzL m n l a b := by rw [h1]; unfold lnF farN; split <;> omega
    rw [hr] at hlt ⊢
    unfold gdL shF
    rw [if_neg (by omega)]
    by_cases hs : e.1 = a ∧ e.2 = b
    · obtain ⟨z1, z2⟩ := hd.2 hs
      rw [if_pos hs, z1, z2, szL_zero, if_pos (by omega)]
      rw [show min (nzL m n l a b) (1 + 0) - 1 = 0 by omega, gdL_zero]
    · rw [if_neg hs]
      have hz := h4 (fun h => hs (hd.1 h))
      rw [hz] at hlt ⊢
      rw [h3] at hlt ⊢ ih2
      rw [h1] at hlt ⊢ ih1
      generalize shF m n (i + 1) l a b = p at *
      generalize shF m n (i + 1) l ((a - e.1) % m) ((b - e.2) % n) = r at *
      unfold lnF farN at *
      dsimp only
      by_cases c : 0 < r.length ∧ (p.length = 0 ∨ r.length < p.length)
      · rw [if_neg (show ¬ r.length = 0 by omega)] at hlt ih2 ⊢
        rw [if_pos c]
        have e1 : min (if p.length = 0 then 1099511627776 else p.length) (1 + r.length) = 1 + r.length := by split <;> omega
        rw [e1, if_pos rfl, show 1 + r.length - 1 = r.length by omega, ih2 (by omega)]
      · rw [if_neg c]
        have hp : ¬ p.length = 0 := fun hp => by
          rw [if_pos hp] at hlt
          split at hlt <;> omega
        rw [if_neg hp] at hlt ih1 ⊢
        have e1 : min p.length (1 + if r.length = 0 then 1099511627776 else r.length) = p.length := by split <;> omega
        rw [e1, if_neg (by split <;> omega), ih1 (by omega)]
end Go.Proofs.Ytokjdadgdfmffaa
