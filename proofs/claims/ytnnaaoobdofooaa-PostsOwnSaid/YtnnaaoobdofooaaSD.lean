/- Blocks: mathematics. -/
import Derived.Test.YtnnaaoobdofooaaSE
namespace Go.Proofs.Ytnnaaoobdofooaa
open Go.RowKit
set_option maxHeartbeats 1000000
set_option maxRecDepth 100000
def lastN (xs : List Int) : Nat → Int
  | 0 => -1
  | k + 1 => geti xs k
/-- The first numbers of a list are ascending, from 0 to n - 1. -/
def ag (n : Nat) (xs : List Int) : Nat → Bool
  | 0 => true
  | k + 1 => ag n xs k && decide (lastN xs k < geti xs k) && decide (geti xs k < n)
/-- The first columns in which a row has positive numbers; those of the first rows of a list. -/
def pz (L : List (List Int)) (r : Nat) : Nat → Nat
  | 0 => 0
  | c + 1 => if 0 < gat L r c then sWith (pz L r c) c else pz L r c
def us (L : List (List Int)) (xs : List Int) : Nat → Nat
  | 0 => 0
  | k + 1 => us L xs k ||| pz L (geti xs k).toNat 10
def blkB (L : List (List Int)) (xs : List Int) : Bool := ag L.length xs xs.length && decide (pc 16 (us L xs xs.length) < xs.length)
theorem ag_mono {n : Nat} {xs : List Int} {k : Nat} (h : ag n xs k = false) : ∀ d, ag n xs (k + d) = false
  | 0 => h
  | d + 1 => by
    show (ag n xs (k + d) && _ && _) = false
    rw [ag_mono h d]; rfl
theorem ag_no {n : Nat} {xs : List Int} {k : Nat} (hk : k < xs.length) (h : ag n xs (k + 1) = false) : ag n xs xs.length = false := by
  have := ag_mono h (xs.length - (k + 1))
  rwa [show k + 1 + (xs.length - (k + 1)) = xs.length by omega] at this
theorem ag_low {n : Nat} {xs : List Int} {k : Nat} (h : geti xs k ≤ lastN xs k) : ag n xs (k + 1) = false := by
  unfold ag
  rw [decide_eq_false (show ¬ lastN xs k < geti xs k by omega)]; simp
theorem ag_big {n : Nat} {xs : List Int} {k : Nat} (h : (n : Int) ≤ geti xs k) : ag n xs (k + 1) = false := by
  unfold ag
  rw [decide_eq_false (show ¬ geti xs k < n by omega)]; simp
theorem ag_yes {n : Nat} {xs : List Int} {k : Nat} (h0 : ag n xs k = true) (h1 : lastN xs k < geti xs k) (h2 : geti xs k < n) : ag n xs (k + 1) = true := by
  unfold ag
  rw [h0, decide_eq_true h1, decide_eq_true h2]; rfl
theorem ag_last {n : Nat} {xs : List Int} : ∀ {k : Nat}, ag n xs k = true → -1 ≤ lastN xs k
  | 0, _ => by simp [lastN]
  | k + 1, h => by
    unfold ag at h
    simp only [Bool.and_eq_true, decide_eq_true_eq] at h
    have := ag_last h.1.1
    show -1 ≤ geti xs k
    omega
theorem ag_at {n : Nat} {xs : List Int} : ∀ {k j : Nat}, ag n xs k = true → j < k → 0 ≤ geti xs j ∧ geti xs j < n
  | k + 1, j, h, hj => by
    unfold ag at h
    simp only [Bool.and_eq_true, decide_eq_true_eq] at h
    by_cases e : j = k
    · subst e
      have := ag_last h.1.1
      exact ⟨by omega, h.2⟩
    · exact ag_at h.1.1 (by omega)
theorem pz_lt (L : List (List Int)) (r : Nat) : ∀ {c : Nat}, c ≤ 10 → pz L r c < 65536
  | 0, _ => by simp [pz]
  | c + 1, h => by
    unfold pz
    split
    · exact with_lt (pz_lt L r (by omega)) (by omega)
    · exact pz_lt L r (by omega)
theorem pz_bit (L : List (List Int)) (r j : Nat) : ∀ c, (pz L r c).testBit j = (decide (j < c) && decide (0 < gat L r j))
  | 0 => by simp [pz]
  | c + 1 => by
    unfold pz
    by_cases h : 0 < gat L r c
    · rw [if_pos h, with_bit, pz_bit L r j c]
      by_cases e : c = j
      · subst e; simp [h]
      · have e2 : decide (j < c + 1) = decide (j < c) := by rw [Bool.eq_iff_iff]; simp; omega
        rw [e2, decide_eq_false e, Bool.or_false]
    · rw [if_neg h, pz_bit L r j c]
      by_cases e : c = j
      · subst e; simp [h]
      · have e2 : decide (j < c + 1) = decide (j < c) := by rw [Bool.eq_iff_iff]; simp; omega
        rw [e2]
theorem us_lt (L : List (List Int)) (xs : List Int) : ∀ k, us L xs k < 65536
  | 0 => by simp [us]
  | k + 1 => Nat.or_lt_two_pow (n := 16) (us_lt L xs k) (pz_lt L _ (Nat.le_refl _))
theorem us_bit (L : List (List Int)) (xs : List Int) (k : Nat) {c : Nat} (hc : c < 10) : (us L xs (k + 1)).testBit c = ((us L xs k).testBit c || decide (0 < gat L (geti xs k).toNat c)) := by
  show (us L xs k ||| pz L (geti xs k).toNat 10).testBit c = _
  rw [Nat.testBit_or, pz_bit, decide_eq_true hc, Bool.true_and]
theorem us_hi {L : List (List Int)} (h : IsT L) (xs : List Int) {c : Nat} (hc : L.length ≤ c) : ∀ k, (us L xs k).testBit c = false
  | 0 => by simp [us]
  | k + 1 => by
    show (us L xs k ||| pz L (geti xs k).toNat 10).testBit c = false
    rw [Nat.testBit_or, us_hi h xs hc k, pz_bit, h.zero (Or.inr hc)]; simp
theorem pc_top {s n : Nat} (h : ∀ c, n ≤ c → s.testBit c = false) : ∀ d, pc (n + d) s = pc n s
  | 0 => rfl
  | d + 1 => by rw [← Nat.add_assoc, pc_succ, pc_top h d, h (n + d) (by omega)]; rfl
theorem us_pc {L : List (List Int)} (h : IsT L) (xs : List Int) (k : Nat) : pc 16 (us L xs k) = pc L.length (us L xs k) := by
  have := pc_top (s := us L xs k) (n := L.length) (fun c hc => us_hi h xs hc k) (16 - L.length)
  rwa [show L.length + (16 - L.length) = 16 by have := h.le; omega] at this
theorem blkB_nil (L : List (List Int)) : blkB L [] = false := by unfold blkB; simp
theorem blkB_zero (xs : List Int) : blkB [] xs = false := by
  cases xs with
  | nil => exact blkB_nil []
  | cons x xs =>
    unfold blkB
    have h1 : ag ([] : List (List Int)).length (x :: xs) (0 + 1) = false := by
      by_cases h : (0 : Int) ≤ x
      · exact ag_big (by exact_mod_cast h)
      · exact ag_low (by show x ≤ -1; omega)
    rw [ag_no (by simp) h1]; rfl
end Go.Proofs.Ytnnaaoobdofooaa
