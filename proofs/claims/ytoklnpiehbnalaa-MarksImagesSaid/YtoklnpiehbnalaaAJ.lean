/- The greatest exponent of a part: the search. -/
import Derived.Test.YtoklnpiehbnalaaAI
namespace Go.Proofs.Ytoklnpiehbnalaa
open Go.RowKit Go.PlainAid
set_option maxHeartbeats 1000000
set_option maxRecDepth 100000
/-- The period that is reached after n letters from a on. -/
def rowP (x : List Nat) (a : Nat) : Nat → Nat
  | 0 => 1
  | n + 1 => mper (sub x a (n + 1)) (rowP x a n)
/-- A better exponent is taken: length, period, position. -/
def bst (b : Nat × Nat × Nat) (n p a : Nat) : Nat × Nat × Nat := if b.1 * p < n * b.2.1 then (n, p, a) else b
def bstR (x : List Nat) (a : Nat) (b : Nat × Nat × Nat) : Nat → Nat × Nat × Nat
  | 0 => b
  | n + 1 => bst (bstR x a b n) (n + 1) (rowP x a (n + 1)) a
def bstA (x : List Nat) (b : Nat × Nat × Nat) : Nat → Nat × Nat × Nat
  | 0 => b
  | a + 1 => bstR x a (bstA x b a) (x.length - a)
theorem rowP_le (x : List Nat) (a : Nat) : ∀ n, a + n ≤ x.length → 1 ≤ rowP x a n ∧ rowP x a n ≤ max 1 n
  | 0, _ => ⟨Nat.le_refl _, Nat.le_max_left _ _⟩
  | n + 1, h => by
    obtain ⟨h1, h2⟩ := rowP_le x a n (by omega)
    have hl : (sub x a (n + 1)).length = n + 1 := by rw [sub_len]; omega
    have := mper_le (x := sub x a (n + 1)) (p := rowP x a n) (by rw [hl]; omega)
    rw [hl] at this
    show 1 ≤ mper _ _ ∧ mper _ _ ≤ _
    omega
/-- Fit numbers. -/
def FitB (b : Nat × Nat × Nat) (l : Nat) : Prop := b.1 ≤ l ∧ 1 ≤ b.2.1 ∧ b.2.1 ≤ l ∧ b.2.2 ≤ l
theorem bst_fit {b : Nat × Nat × Nat} {n p a l : Nat} (h : FitB b l) (hn : n ≤ l) (h1 : 1 ≤ p) (h2 : p ≤ l) (ha : a ≤ l) : FitB (bst b n p a) l := by
  unfold bst
  split
  · exact ⟨hn, h1, h2, ha⟩
  · exact h
theorem bstR_fit {x : List Nat} {a l : Nat} {b : Nat × Nat × Nat} (h : FitB b l) (hl : x.length ≤ l) : ∀ n, a + n ≤ x.length → FitB (bstR x a b n) l
  | 0, _ => h
  | n + 1, hn => by
    have := rowP_le x a (n + 1) hn
    exact bst_fit (bstR_fit h hl n (by omega)) (by omega) this.1 (by omega) (by omega)
theorem bstA_fit {x : List Nat} {l : Nat} {b : Nat × Nat × Nat} (h : FitB b l) (hl : x.length ≤ l) : ∀ a, a ≤ x.length → FitB (bstA x b a) l
  | 0, _ => h
  | a + 1, ha => bstR_fit (bstA_fit h hl a (by omega)) hl _ (by omega)
theorem prod_le {a b l m : Nat} (ha : a ≤ l) (hb : b ≤ m) (hm : l * m ≤ 1000000000) : (0 : Int) ≤ (a : Int) * (b : Int) ∧ (a : Int) * (b : Int) ≤ 1000000000 := by
  have h := Nat.mul_le_mul ha hb
  have e : ((a * b : Nat) : Int) = (a : Int) * (b : Int) := Int.natCast_mul a b
  omega
theorem prod_lt {a b c d : Nat} : ((a : Int) * (b : Int) < (c : Int) * (d : Int)) ↔ a * b < c * d := by
  have e : ((a * b : Nat) : Int) = (a : Int) * (b : Int) := Int.natCast_mul a b
  have e2 : ((c * d : Nat) : Int) = (c : Int) * (d : Int) := Int.natCast_mul c d
  omega
theorem bst_yes {b : Nat × Nat × Nat} {n p a : Nat} (h : b.1 * p < n * b.2.1) : bst b n p a = (n, p, a) := by unfold bst; rw [if_pos h]
theorem bst_no {b : Nat × Nat × Nat} {n p a : Nat} (h : ¬ b.1 * p < n * b.2.1) : bst b n p a = b := by unfold bst; rw [if_neg h]
/-- What the code finds: length, period, position. -/
def grT (x : List Nat) : Nat × Nat × Nat := bstA x (0, 1, 0) x.length
theorem grT_fit {x : List Nat} (h1 : 1 ≤ x.length) : FitB (grT x) x.length := bstA_fit ⟨Nat.zero_le _, Nat.le_refl _, h1, Nat.zero_le _⟩ (Nat.le_refl _) _ (Nat.le_refl _)
theorem bst_num {b : Nat × Nat × Nat} {n p a : Nat} (h : 1 ≤ n) (hb : 1 ≤ b.2.1) : 1 ≤ (bst b n p a).1 ∨ 1 ≤ b.1 := by
  unfold bst
  split
  · exact .inl h
  · rename_i h1
    rcases Nat.eq_zero_or_pos b.1 with h2 | h2
    · rw [h2, Nat.zero_mul] at h1
      exact absurd (Nat.mul_pos h hb) h1
    · exact .inr h2
theorem bst_keep {b : Nat × Nat × Nat} {n p a : Nat} (h : 1 ≤ n) (hb : 1 ≤ b.1) : 1 ≤ (bst b n p a).1 := by
  unfold bst
  split
  · exact h
  · exact hb
theorem bstR_keep {x : List Nat} {a : Nat} {b : Nat × Nat × Nat} (hb : 1 ≤ b.1) : ∀ n, 1 ≤ (bstR x a b n).1
  | 0 => hb
  | n + 1 => bst_keep (by omega) (bstR_keep hb n)
theorem bstR_num {x : List Nat} {a : Nat} {b : Nat × Nat × Nat} (hb : 1 ≤ b.2.1) : ∀ n, 1 ≤ n → 1 ≤ (bstR x a b n).1 := by
  intro n hn
  obtain ⟨n, rfl⟩ : ∃ m, n = m + 1 := ⟨n - 1, by omega⟩
  have h1 : 1 ≤ (bstR x a b 1).1 := by
    show 1 ≤ (bst b 1 (rowP x a 1) a).1
    rcases bst_num (b := b) (n := 1) (p := rowP x a 1) (a := a) (Nat.le_refl _) hb with h | h
    · exact h
    · exact bst_keep (Nat.le_refl _) h
  induction n with
  | zero => exact h1
  | succ n ih => exact bst_keep (by omega) (ih (by omega))
theorem bstA_num {x : List Nat} {b : Nat × Nat × Nat} (hb : 1 ≤ b.2.1) (hx : 1 ≤ x.length) : ∀ a, 1 ≤ a → 1 ≤ (bstA x b a).1 := by
  intro a ha
  obtain ⟨a, rfl⟩ : ∃ m, a = m + 1 := ⟨a - 1, by omega⟩
  clear ha
  induction a with
  | zero => exact bstR_num (x := x) (a := 0) hb (x.length - 0) (by omega)
  | succ a ih => exact bstR_keep ih _
theorem grT_num {x : List Nat} (h1 : 1 ≤ x.length) : 1 ≤ (grT x).1 := bstA_num (Nat.le_refl _) h1 _ h1
/-- The reference begins with a single letter. -/
theorem mper_one (x : List Nat) (h : x.length = 1) : mper x 1 = 1 := by
  have := mper_le (x := x) (p := 1) (by omega)
  omega
theorem bstR_start {x : List Nat} (h1 : 1 ≤ x.length) : ∀ n, 1 ≤ n → bstR x 0 (0, 1, 0) n = bstR x 0 (1, 1, 0) n := by
  intro n hn
  obtain ⟨n, rfl⟩ : ∃ m, n = m + 1 := ⟨n - 1, by omega⟩
  clear hn
  induction n with
  | zero =>
    show bst (0, 1, 0) 1 (rowP x 0 1) 0 = bst (1, 1, 0) 1 (rowP x 0 1) 0
    have e : rowP x 0 1 = 1 := mper_one _ (by have := sub_len x 0 1; rw [Nat.sub_zero] at this; show (sub x 0 1).length = 1; omega)
    rw [e]; rfl
  | succ n ih =>
    show bst (bstR x 0 (0, 1, 0) (n + 1)) _ _ _ = bst (bstR x 0 (1, 1, 0) (n + 1)) _ _ _
    rw [ih]
theorem grT_ref {x : List Nat} (h1 : 1 ≤ x.length) : grT x = bstA x (1, 1, 0) x.length := by
  unfold grT
  have h : ∀ a, 1 ≤ a → bstA x (0, 1, 0) a = bstA x (1, 1, 0) a := by
    intro a ha
    obtain ⟨a, rfl⟩ : ∃ m, a = m + 1 := ⟨a - 1, by omega⟩
    clear ha
    induction a with
    | zero => exact bstR_start h1 (x.length - 0) (by omega)
    | succ a ih =>
      show bstR x (a + 1) (bstA x (0, 1, 0) (a + 1)) _ = bstR x (a + 1) (bstA x (1, 1, 0) (a + 1)) _
      rw [ih]
  exact h _ h1
end Go.Proofs.Ytoklnpiehbnalaa
