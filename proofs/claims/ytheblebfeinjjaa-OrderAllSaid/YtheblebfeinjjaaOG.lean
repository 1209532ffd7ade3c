/- All orders of few numbers: plain mathematics. -/
import Derived.Test.YtheblebfeinjjaaOF
namespace Go.Proofs.Ytheblebfeinjjaa
open Go.RowKit
set_option maxRecDepth 100000
/-- The numbers of the order with k before it. -/
def nmK (n k : Nat) : List Int := nmL (mdL (dgL k n))
/-- How many of the first k orders have each value of the statistic s. -/
def tS (s n : Nat) : Nat → List Int
  | 0 => List.replicate 20 0
  | k + 1 => (tS s n k).set (geti (nmK n k) s).toNat (geti (tS s n k) (geti (nmK n k) s).toNat + 1)
theorem tS_len (s n : Nat) : ∀ k, (tS s n k).length = 20
  | 0 => by simp [tS]
  | k + 1 => by unfold tS; rw [List.length_set, tS_len s n k]
theorem tS_le (s n : Nat) : ∀ k j, 0 ≤ geti (tS s n k) j ∧ geti (tS s n k) j ≤ k
  | 0, j => by
    have : geti (tS s n 0) j = 0 := by
      unfold tS geti
      rw [List.getD_eq_getElem?_getD, List.getElem?_replicate]
      split <;> rfl
    rw [this]; exact ⟨Int.le_refl _, Int.le_refl _⟩
  | k + 1, j => by
    have h1 := tS_le s n k j
    have h2 := tS_le s n k (geti (nmK n k) s).toNat
    have e : tS s n (k + 1) = (tS s n k).set (geti (nmK n k) s).toNat (geti (tS s n k) (geti (nmK n k) s).toNat + 1) := rfl
    rw [e]
    by_cases hv : (geti (nmK n k) s).toNat < 20
    · rw [geti_set (by rw [tS_len]; exact hv)]
      split <;> omega
    · rw [List.set_eq_of_length_le (by rw [tS_len]; omega)]
      omega
def okN (M : List Int) : Bool := decide (0 ≤ geti M 0 ∧ geti M 0 ≤ 10) && decide (0 ≤ geti M 1 ∧ geti M 1 ≤ 10) && decide (0 ≤ geti M 2 ∧ geti M 2 ≤ 5) && decide (0 ≤ geti M 3 ∧ geti M 3 ≤ 5) && decide (0 ≤ geti M 4 ∧ geti M 4 ≤ 5) && decide (0 ≤ geti M 5 ∧ geti M 5 ≤ 5)
/-- The tables, made step by step, with all tests on the way. -/
def allB (n : Nat) : Nat → Bool := fun k => (List.range k).all fun i => okN (nmK n i) && decide (dgQ i n = 0)
theorem all0 : allB 0 (facN 0) = true := by decide +kernel
theorem all1 : allB 1 (facN 1) = true := by decide +kernel
theorem all2 : allB 2 (facN 2) = true := by decide +kernel
theorem all3 : allB 3 (facN 3) = true := by decide +kernel
theorem all4 : allB 4 (facN 4) = true := by decide +kernel
theorem all5 : allB 5 (facN 5) = true := by decide +kernel
theorem all_ok {n k : Nat} (hn : n < 6) (hk : k < facN n) : okN (nmK n k) = true ∧ dgQ k n = 0 := by
  have h : allB n (facN n) = true := by
    obtain rfl | rfl | rfl | rfl | rfl | rfl : n = 0 ∨ n = 1 ∨ n = 2 ∨ n = 3 ∨ n = 4 ∨ n = 5 := by omega
    · exact all0
    · exact all1
    · exact all2
    · exact all3
    · exact all4
    · exact all5
  unfold allB at h
  rw [List.all_eq_true] at h
  have := h k (List.mem_range.2 hk)
  rw [Bool.and_eq_true] at this
  exact ⟨this.1, of_decide_eq_true this.2⟩
/-- A table of counts, by going through the orders once. -/
def cnt6 (n : Nat) : Nat → List (List Int)
  | 0 => List.replicate 6 (List.replicate 20 0)
  | k + 1 => let M := nmK n k; List.zipWith (fun (N : List Int) (v : Int) => N.set v.toNat (geti N v.toNat + 1)) (cnt6 n k) M
def finB (n : Nat) : Bool :=
  let C := cnt6 n (facN n)
  let R (N : List Nat) (T : List Int) := (List.range 20).all fun j => decide (geti T j = (getn N j : Nat))
  R (rowN mI n) (C.getD 0 []) && R (rowN mI n) (C.getD 1 []) && R (rowN mD n) (C.getD 2 []) && R (rowN mD n) (C.getD 3 []) && R (rowN mC n) (C.getD 4 []) && R (rowN mC n) (C.getD 5 [])
theorem fin0 : finB 0 = true := by decide +kernel
theorem fin1 : finB 1 = true := by decide +kernel
theorem fin2 : finB 2 = true := by decide +kernel
theorem fin3 : finB 3 = true := by decide +kernel
theorem fin4 : finB 4 = true := by decide +kernel
theorem fin5 : finB 5 = true := by decide +kernel
theorem cnt6_eq (n : Nat) : ∀ k, cnt6 n k = [tS 0 n k, tS 1 n k, tS 2 n k, tS 3 n k, tS 4 n k, tS 5 n k]
  | 0 => rfl
  | k + 1 => by
    unfold cnt6
    rw [cnt6_eq n k]
    rfl
theorem fin_ok {n : Nat} (hn : n < 6) {j : Nat} (hj : j < 20) : geti (tS 0 n (facN n)) j = (getn (rowN mI n) j : Nat) ∧ geti (tS 1 n (facN n)) j = (getn (rowN mI n) j : Nat) ∧ geti (tS 2 n (facN n)) j = (getn (rowN mD n) j : Nat) ∧
    geti (tS 3 n (facN n)) j = (getn (rowN mD n) j : Nat) ∧ geti (tS 4 n (facN n)) j = (getn (rowN mC n) j : Nat) ∧ geti (tS 5 n (facN n)) j = (getn (rowN mC n) j : Nat) := by
  have h : finB n = true := by
    obtain rfl | rfl | rfl | rfl | rfl | rfl : n = 0 ∨ n = 1 ∨ n = 2 ∨ n = 3 ∨ n = 4 ∨ n = 5 := by omega
    · exact fin0
    · exact fin1
    · exact fin2
    · exact fin3
    · exact fin4
    · exact fin5
  unfold finB at h
  rw [cnt6_eq] at h
  simp only [Bool.and_eq_true, List.all_eq_true, List.mem_range, decide_eq_true_eq] at h
  obtain ⟨⟨⟨⟨⟨h1, h2⟩, h3⟩, h4⟩, h5⟩, h6⟩ := h
  exact ⟨h1 j hj, h2 j hj, h3 j hj, h4 j hj, h5 j hj, h6 j hj⟩
end Go.Proofs.Ytheblebfeinjjaa
