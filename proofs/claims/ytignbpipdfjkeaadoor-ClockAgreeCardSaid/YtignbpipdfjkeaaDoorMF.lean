/- Lists of states and words: mathematics. -/
import Derived.Test.YtignbpipdfjkeaaDoorBB
import Derived.Test.YtignbpipdfjkeaaDoorMB
import Derived.PlainAid
import Derived.Lib.Strings
namespace Go.Proofs.YtignbpipdfjkeaaDoor
open Go.PlainAid
set_option maxHeartbeats 1000000
set_option maxRecDepth 100000
/-- The number ahead of place k. -/
def preB (l : List Int) (k : Nat) : Int := if k = 0 then -1 else geti l (k - 1)
theorem preB_zero (l : List Int) : preB l 0 = -1 := rfl
theorem preB_succ (l : List Int) (k : Nat) : preB l (k + 1) = geti l k := rfl
/-- A state, and greater than the one ahead. -/
def goodA (n : Nat) (l : List Int) (i : Nat) : Bool := !decide (geti l i ≤ preB l i) && isQ n (geti l i)
def okS (n : Nat) (l : List Int) : Bool := (List.range l.length).all (goodA n l)
/-- The set of the first k. -/
def setP (l : List Int) (k : Nat) : Nat := (List.range k).foldl (fun s i => sWith s (geti l i).toNat) 0
theorem setP_zero (l : List Int) : setP l 0 = 0 := rfl
theorem setP_succ (l : List Int) (k : Nat) : setP l (k + 1) = sWith (setP l k) (geti l k).toNat := by
  unfold setP; rw [List.range_succ, List.foldl_append]; rfl
theorem okS_no {n : Nat} {l : List Int} {i : Nat} (hi : i < l.length) (h : goodA n l i = false) : okS n l = false := by
  unfold okS
  rw [List.all_eq_false]
  exact ⟨i, List.mem_range.2 hi, by rw [h]; decide⟩
theorem okS_yes {n : Nat} {l : List Int} (h : ∀ i, i < l.length → goodA n l i = true) : okS n l = true := by
  unfold okS
  rw [List.all_eq_true]
  exact fun i hi => h i (List.mem_range.1 hi)
theorem okS_at {n : Nat} {l : List Int} (h : okS n l = true) {i : Nat} (hi : i < l.length) : goodA n l i = true := List.all_eq_true.1 h i (List.mem_range.2 hi)
theorem goodA_iff {n : Nat} {l : List Int} {i : Nat} : goodA n l i = true ↔ preB l i < geti l i ∧ 0 ≤ geti l i ∧ geti l i < n := by
  unfold goodA isQ; simp
/-- The first k make a set, below the last of them. -/
theorem setP_lt {n : Nat} {l : List Int} : ∀ k, (∀ i, i < k → goodA n l i = true) → -1 ≤ preB l k ∧ preB l k < n ∧ setP l k < 2 ^ (preB l k + 1).toNat ∧ (0 < k → setP l k ≠ 0)
  | 0, _ => ⟨by rw [preB_zero]; omega, by rw [preB_zero]; omega, by rw [preB_zero, setP_zero]; decide, fun h => absurd h (Nat.lt_irrefl 0)⟩
  | k + 1, h => by
    obtain ⟨h1, h2, h3, -⟩ := setP_lt k (fun i hi => h i (by omega))
    obtain ⟨g1, g2, g3⟩ := goodA_iff.1 (h k (Nat.lt_succ_self k))
    rw [preB_succ, setP_succ]
    refine ⟨by omega, g3, ?_, fun _ => ?_⟩
    · unfold sWith
      refine Nat.or_lt_two_pow (Nat.lt_of_lt_of_le h3 (Nat.pow_le_pow_right (by decide) (by omega))) (Nat.pow_lt_pow_right (by decide) (by omega))
    · unfold sWith
      intro e
      have : (setP l k ||| 2 ^ (geti l k).toNat).testBit (geti l k).toNat = true := by rw [Nat.testBit_or]; simp
      rw [e] at this
      simp at this
theorem setP_add {n : Nat} {l : List Int} {k : Nat} (h : ∀ i, i < k + 1 → goodA n l i = true) : setP l (k + 1) = setP l k + 2 ^ (geti l k).toNat := by
  obtain ⟨h1, h2, h3, -⟩ := setP_lt k (fun i hi => h i (by omega))
  obtain ⟨g1, g2, g3⟩ := goodA_iff.1 (h k (Nat.lt_succ_self k))
  rw [setP_succ]
  unfold sWith
  have hb : setP l k < 2 ^ (geti l k).toNat := Nat.lt_of_lt_of_le h3 (Nat.pow_le_pow_right (by decide) (by omega))
  have := Nat.two_pow_add_eq_or_of_lt hb 1
  rw [Nat.mul_one] at this
  rw [Nat.or_comm, ← this, Nat.add_comm]
theorem setP_set {n : Nat} {l : List Int} {k : Nat} (h : ∀ i, i < k → goodA n l i = true) : IsS n (setP l k) := by
  obtain ⟨h1, h2, h3, -⟩ := setP_lt k h
  exact Nat.lt_of_lt_of_le h3 (Nat.pow_le_pow_right (by decide) (by omega))
/-- The set that a list is. -/
def setL (l : List Int) : Nat := setP l l.length
theorem setL_set {n : Nat} {l : List Int} (h : okS n l = true) : IsS n (setL l) := setP_set (fun _ hi => okS_at h hi)
/-- A button of k. -/
def goodB (k : Nat) (s : ByteArray) (i : Nat) : Bool := !decide (bt s i < 97) && !decide (97 + (k : Int) ≤ bt s i)
def okB (k : Nat) (s : ByteArray) : Bool := decide (s.size ≤ 1000) && (List.range s.size).all (goodB k s)
theorem okB_no {k : Nat} {s : ByteArray} {i : Nat} (hi : i < s.size) (h : goodB k s i = false) : okB k s = false := by
  unfold okB
  rw [Bool.and_eq_false_iff]
  refine .inr ?_
  rw [List.all_eq_false]
  exact ⟨i, List.mem_range.2 hi, by rw [h]; decide⟩
theorem okB_long {k : Nat} {s : ByteArray} (h : 1000 < s.size) : okB k s = false := by
  unfold okB; rw [decide_eq_false (by omega)]; rfl
theorem okB_yes {k : Nat} {s : ByteArray} (hs : s.size ≤ 1000) (h : ∀ i, i < s.size → goodB k s i = true) : okB k s = true := by
  unfold okB
  rw [decide_eq_true hs, Bool.true_and, List.all_eq_true]
  exact fun i hi => h i (List.mem_range.1 hi)
theorem okB_at {k : Nat} {s : ByteArray} (h : okB k s = true) : s.size ≤ 1000 ∧ ∀ i, i < s.size → goodB k s i = true := by
  unfold okB at h
  rw [Bool.and_eq_true, List.all_eq_true] at h
  exact ⟨of_decide_eq_true h.1, fun i hi => h.2 i (List.mem_range.2 hi)⟩
theorem goodB_iff {k : Nat} {s : ByteArray} {i : Nat} : goodB k s i = true ↔ 97 ≤ bt s i ∧ bt s i < 97 + (k : Int) := by
  unfold goodB; simp
/-- A button as a number. -/
def bn (s : ByteArray) (i : Nat) : Nat := (bt s i - 97).toNat
theorem bn_at {k : Nat} {s : ByteArray} {i : Nat} (h : goodB k s i = true) : bt s i = 97 + (bn s i : Int) ∧ bn s i < k := by
  have := goodB_iff.1 h
  unfold bn; omega
/-- The image under the first i buttons. -/
def imP (T : Tab) (a : Nat) (s : ByteArray) (i : Nat) : Nat := (List.range i).foldl (fun t j => prs T t (bn s j)) a
theorem imP_zero (T : Tab) (a : Nat) (s : ByteArray) : imP T a s 0 = a := rfl
theorem imP_succ (T : Tab) (a : Nat) (s : ByteArray) (i : Nat) : imP T a s (i + 1) = prs T (imP T a s i) (bn s i) := by
  unfold imP; rw [List.range_succ, List.foldl_append]; rfl
theorem imP_set {T : Tab} {k n a : Nat} {s : ByteArray} (hM : IsM T k n) (ha : IsS n a) : ∀ {i : Nat}, (∀ j, j < i → goodB k s j = true) → IsS n (imP T a s i)
  | 0, _ => ha
  | i + 1, h => by rw [imP_succ]; exact prs_set hM (imP_set hM ha (fun j hj => h j (by omega))) (bn_at (h i (by omega))).2
end Go.Proofs.YtignbpipdfjkeaaDoor
