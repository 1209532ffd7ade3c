/- The orders come as their tables do; an order and its reverse. Plain mathematics. -/
import Derived.Test.YtheblebfeinjjaaPF
import Derived.Test.YtheblebfeinjjaaPI
namespace Go.Proofs.Ytheblebfeinjjaa
open Go.RowKit
set_option maxRecDepth 100000
/-- One list comes before the other by the first place at which they differ. -/
def lexA (a b : List Int) : Prop := ∃ j, j < a.length ∧ geti a j < geti b j ∧ ∀ i, i < j → geti a i = geti b i
theorem lexA_cons {x : Int} {a b : List Int} (h : lexA a b) : lexA (x :: a) (x :: b) := by
  obtain ⟨j, h1, h2, h3⟩ := h
  refine ⟨j + 1, by rw [List.length_cons]; omega, h2, fun i hi => ?_⟩
  cases i with
  | zero => rfl
  | succ i => exact h3 i (by omega)
theorem sorted_lt {left : List Int} (h : left.Pairwise (· < ·)) {i j : Nat} (hij : i < j) (hj : j < left.length) : geti left i < geti left j := by
  rw [geti_eq (by omega), geti_eq hj]
  exact List.pairwise_iff_getElem.1 h i j (by omega) hj hij
theorem wtN_lex : ∀ {t t' left : List Int}, left.Pairwise (· < ·) → okT t = true → okT t' = true → t.length = left.length → t'.length = left.length → lexA t t' → lexA (wtN t left) (wtN t' left)
  | [], _, _, _, _, _, _, _, h => by
    obtain ⟨j, h1, -⟩ := h
    simp at h1
  | _ :: _, [], _, _, _, _, h1, h2, _ => by
    rw [List.length_cons] at h1
    rw [List.length_nil] at h2
    omega
  | s :: r, s' :: r', left, hs, hk, hk', h1, h2, h => by
    unfold okT at hk hk'
    simp only [Bool.and_eq_true, decide_eq_true_eq] at hk hk'
    rw [List.length_cons] at h1 h2
    obtain ⟨j, h3, h4, h5⟩ := h
    unfold wtN
    cases j with
    | zero =>
      have h4 : s < s' := h4
      refine ⟨0, by rw [List.length_cons]; omega, ?_, fun i hi => by omega⟩
      exact sorted_lt hs (by omega) (by omega)
    | succ j =>
      have e : s = s' := h5 0 (by omega)
      subst e
      have hl : s.toNat < left.length := by omega
      refine lexA_cons (wtN_lex (hs.sublist (List.eraseIdx_sublist ..)) hk.2 hk'.2 (by rw [erase_len hl]; omega) (by rw [erase_len hl]; omega) ⟨j, by rw [List.length_cons] at h3; omega, h4, fun i hi => h5 (i + 1) (by omega)⟩)
theorem dgL_lex : ∀ (a k k' : Nat), k < k' → k' < facN a → lexA (dgL k a) (dgL k' a)
  | 0, k, k', h1, h2 => by
    have : facN 0 = 1 := rfl
    omega
  | a + 1, k, k', h1, h2 => by
    have hp := facN_pos a
    have ef : facN (a + 1) = (a + 1) * facN a := rfl
    have e : ∀ k, k < facN (a + 1) → dgL k (a + 1) = ((k / facN a : Nat) : Int) :: dgL (k % facN a) a := fun k hk => by
      have e0 : dgL k (a + 1) = ((dgQ k a % (a + 1) : Nat) : Int) :: dgL k a := rfl
      rw [e0, dgL_mod k a a (Nat.le_refl _), dgQ_eq, Nat.mod_eq_of_lt (Nat.div_lt_of_lt_mul (by rw [Nat.mul_comm, ← ef]; exact hk))]
    rw [e k (by omega), e k' h2]
    have m1 := Nat.div_add_mod k (facN a)
    have m2 := Nat.div_add_mod k' (facN a)
    have hle : k / facN a ≤ k' / facN a := Nat.div_le_div_right (by omega)
    by_cases hq : k / facN a = k' / facN a
    · rw [hq]
      rw [hq] at m1
      exact lexA_cons (dgL_lex a _ _ (by omega) (Nat.mod_lt _ hp))
    · refine ⟨0, by simp, ?_, fun i hi => by omega⟩
      show ((k / facN a : Nat) : Int) < ((k' / facN a : Nat) : Int)
      omega
theorem item_lex {n k : Nat} (h : k + 1 < facN n) : lexA (mdL (dgL k n)) (mdL (dgL (k + 1) n)) := by
  unfold mdL
  rw [dgL_len, dgL_len]
  exact wtN_lex (asc_sorted n) (dgL_ok k n) (dgL_ok (k + 1) n) (by rw [dgL_len, asc_len]) (by rw [dgL_len, asc_len]) (dgL_lex n k (k + 1) (by omega) h)
theorem sorted_count : ∀ {left : List Int} {s : Nat}, left.Pairwise (· < ·) → s < left.length → left.countP (fun y => decide (y < geti left s)) = s
  | y :: t, 0, hs, _ => by
    obtain ⟨h1, h2⟩ := List.pairwise_cons.1 hs
    have h0 : t.countP (fun z => decide (z < y)) = 0 := List.countP_eq_zero.2 fun z hz => by have := h1 z hz; simp; omega
    show (y :: t).countP (fun z => decide (z < y)) = 0
    rw [List.countP_cons, h0, if_neg (by simp)]
  | y :: t, s + 1, hs, hl => by
    obtain ⟨h1, h2⟩ := List.pairwise_cons.1 hs
    rw [List.length_cons] at hl
    show (y :: t).countP (fun z => decide (z < geti t s)) = s + 1
    have h3 := h1 (geti t s) (geti_mem (by omega))
    rw [List.countP_cons, sorted_count h2 (by omega), if_pos (by simpa using h3)]
theorem tab_wtN : ∀ {t left : List Int}, left.Pairwise (· < ·) → okT t = true → t.length = left.length → tabL (wtN t left) = t
  | [], _, _, _, _ => rfl
  | s :: r, left, hs, hk, hl => by
    unfold okT at hk
    simp only [Bool.and_eq_true, decide_eq_true_eq] at hk
    rw [List.length_cons] at hl
    have h1 : s.toNat < left.length := by omega
    have h2 := sorted_count hs h1
    have hp := erase_perm h1
    rw [← geti_eq h1] at hp
    rw [← hp.countP_eq, List.countP_cons, if_neg (by simp), Nat.add_zero] at h2
    have h3 := wtN_perm r (left.eraseIdx s.toNat) hk.2 (by rw [erase_len h1]; omega)
    unfold wtN
    rw [tabL_cons, h3.countP_eq, h2, tab_wtN (hs.sublist (List.eraseIdx_sublist ..)) hk.2 (by rw [erase_len h1]; omega)]
    congr 1
    omega
theorem tab_mdL {t : List Int} (h : okT t = true) : tabL (mdL t) = t := tab_wtN (asc_sorted _) h (asc_len _).symm
end Go.Proofs.Ytheblebfeinjjaa
