/- An order and its reverse; the last order. Plain mathematics. -/
import Derived.Test.YtheblebfeinjjaaPL
namespace Go.Proofs.Ytheblebfeinjjaa
open Go.RowKit
set_option maxRecDepth 100000
theorem sS_first (f : Nat → Nat) (n : Nat) : sS f (n + 1) = f 0 + sS (fun i => f (i + 1)) n := by
  unfold sS
  rw [List.range_succ_eq_map, List.map_cons, List.sum_cons, List.map_map]
  rfl
theorem sS_rev (f : Nat → Nat) : ∀ n, sS f n = sS (fun i => f (n - 1 - i)) n
  | 0 => rfl
  | n + 1 => by
    rw [sS_succ, sS_first, sS_rev f n, Nat.add_comm]
    congr 1
    exact sS_ext fun i hi => by rw [show n + 1 - 1 - (i + 1) = n - 1 - i by omega]
theorem sS_below (k : Nat) : ∀ n, sS (fun i => if i < k then 1 else 0) n = min n k
  | 0 => by rw [sS_zero]; omega
  | n + 1 => by
    rw [sS_succ, sS_below k n]
    split <;> omega
theorem sS_id : ∀ n, 2 * sS (fun k => k) n = n * (n - 1)
  | 0 => rfl
  | n + 1 => by
    rw [sS_succ, Nat.mul_add, sS_id n]
    cases n with
    | zero => rfl
    | succ n =>
      show (n + 1) * n + 2 * (n + 1) = (n + 1 + 1) * (n + 1)
      rw [Nat.mul_comm (n + 1 + 1), Nat.mul_comm 2, ← Nat.mul_add]
theorem geti_rev {l : List Int} {i : Nat} (h : i < l.length) : geti l.reverse i = geti l (l.length - 1 - i) := by
  rw [geti_eq (by rw [List.length_reverse]; exact h), geti_eq (by omega), List.getElem_reverse]
theorem IsO.rev {l : List Int} (h : IsO l) : IsO l.reverse :=
  IsO.of_perm (n := l.length) (by rw [List.length_reverse]; exact h.le) ((List.reverse_perm l).trans h.perm)
theorem inv_rev {l : List Int} (h : IsO l) : 2 * (sumN (tabL l) l.length + sumN (tabL l.reverse) l.length) = (l.length : Int) * ((l.length : Int) - 1) := by
  have hl : l.reverse.length = l.length := List.length_reverse
  rw [sumN_sS l _ (Nat.le_refl _), sumN_sS l.reverse l.length (by omega), hl]
  have e : sS (fun i => smN l i l.length) l.length + sS (fun i => smN l.reverse i l.length) l.length = sS (fun k => k) l.length := by
    rw [sS_ext (fun i _ => smN_sS l i l.length), sS_ext (fun i _ => smN_sS l.reverse i l.length)]
    rw [sS_rev (fun i => sS (fun k => if i ≤ k ∧ geti l.reverse k < geti l.reverse i then 1 else 0) l.length), sS_ext (fun i _ => sS_rev (fun k => if l.length - 1 - i ≤ k ∧ geti l.reverse k < geti l.reverse (l.length - 1 - i) then 1 else 0) l.length)]
    rw [sS_swap (fun i k => if l.length - 1 - i ≤ l.length - 1 - k ∧ geti l.reverse (l.length - 1 - k) < geti l.reverse (l.length - 1 - i) then 1 else 0), ← sS_add]
    have e2 : ∀ i, i < l.length → sS (fun k => if i ≤ k ∧ geti l k < geti l i then 1 else 0) l.length + sS (fun k => if l.length - 1 - k ≤ l.length - 1 - i ∧ geti l.reverse (l.length - 1 - i) < geti l.reverse (l.length - 1 - k) then 1 else 0) l.length = sS (fun k => if i < k then 1 else 0) l.length := fun i hi => by
      rw [← sS_add]
      refine sS_ext fun k hk => ?_
      rw [geti_rev (by omega), geti_rev (by omega), show l.length - 1 - (l.length - 1 - i) = i by omega, show l.length - 1 - (l.length - 1 - k) = k by omega]
      by_cases hik : i < k
      · have hne := h.ne k i hk hik
        by_cases hc : geti l k < geti l i
        · rw [if_pos ⟨by omega, hc⟩, if_neg (by omega), if_pos hik]
        · rw [if_neg (by omega), if_pos ⟨by omega, by omega⟩, if_pos hik]
      · by_cases e : i = k
        · subst e
          rw [if_neg (by omega), if_neg (by omega), if_neg (by omega)]
        · rw [if_neg (by omega), if_neg (by omega), if_neg hik]
    rw [sS_ext e2, sS_swap (fun i k => if i < k then 1 else 0)]
    exact sS_ext fun k hk => by rw [sS_below]; omega
  rw [← Int.natCast_add, e]
  have h2 := sS_id l.length
  have h3 : ((2 * sS (fun k => k) l.length : Nat) : Int) = ((l.length * (l.length - 1) : Nat) : Int) := congrArg Nat.cast h2
  rw [Int.natCast_mul, Int.natCast_mul] at h3
  by_cases h0 : l.length = 0
  · rw [h0]; rfl
  · rw [show ((l.length - 1 : Nat) : Int) = (l.length : Int) - 1 by omega] at h3
    exact h3
theorem cntN_sS (f : Nat → Bool) : ∀ n, cntN f n = sS (fun i => if f i then 1 else 0) n
  | 0 => rfl
  | n + 1 => by
    rw [sS_succ, ← cntN_sS f n]
    rfl
theorem sS_ones : ∀ n, sS (fun _ => 1) n = n
  | 0 => rfl
  | n + 1 => by rw [sS_succ, sS_ones n]
theorem des_rev {l : List Int} (h : IsO l) : cntN (isDb l) l.length + cntN (isDb l.reverse) l.length = l.length - 1 := by
  rw [cntN_sS, cntN_sS]
  by_cases h0 : l.length = 0
  · rw [h0]; rfl
  · obtain ⟨n, hn⟩ : ∃ n, l.length = n + 1 := ⟨l.length - 1, by omega⟩
    have g := fun (i : Nat) (hi : i < l.length) => geti_rev hi
    rw [hn] at g ⊢
    rw [sS_first, sS_first, sS_rev (fun i => if isDb l.reverse (i + 1) then 1 else 0) n]
    have z : ∀ l : List Int, isDb l 0 = false := fun l => by simp [isDb]
    rw [z, z]
    simp only [Bool.false_eq_true, if_false, Nat.zero_add]
    rw [← sS_add, Nat.add_sub_cancel]
    refine Eq.trans (sS_ext fun i hi => ?_) (sS_ones n)
    have hne := h.ne (i + 1) i (by omega) (by omega)
    have e1 : isDb l (i + 1) = decide (geti l (i + 1) < geti l i) := by simp [isDb]
    have e2 : isDb l.reverse (n - 1 - i + 1) = decide (geti l i < geti l (i + 1)) := by
      simp only [isDb, Nat.zero_lt_succ, decide_true, Bool.true_and, Nat.add_sub_cancel]
      rw [g _ (by omega), g _ (by omega), show n + 1 - 1 - (n - 1 - i + 1) = i by omega, show n + 1 - 1 - (n - 1 - i) = i + 1 by omega]
    rw [e1, e2]
    by_cases hc : geti l (i + 1) < geti l i
    · rw [decide_eq_true hc, decide_eq_false (by omega)]; rfl
    · rw [decide_eq_false hc, decide_eq_true (by omega)]; rfl
theorem sumN_cons (x : Int) (t : List Int) : ∀ k, sumN (x :: t) (k + 1) = x + sumN t k
  | 0 => by
    show 0 + x = x + 0
    omega
  | k + 1 => by
    show sumN (x :: t) (k + 1) + geti t k = x + (sumN t k + geti t k)
    rw [sumN_cons x t k]
    omega
theorem dgL_last : ∀ n, 2 * sumN (dgL (facN n - 1) n) n = (n : Int) * ((n : Int) - 1)
  | 0 => rfl
  | a + 1 => by
    have hp := facN_pos a
    have ef : facN (a + 1) - 1 = facN a * a + (facN a - 1) := by
      show (a + 1) * facN a - 1 = _
      rw [Nat.succ_mul, Nat.mul_comm a]
      omega
    have e0 : dgL (facN (a + 1) - 1) (a + 1) = ((dgQ (facN (a + 1) - 1) a % (a + 1) : Nat) : Int) :: dgL (facN (a + 1) - 1) a := rfl
    have e1 : dgQ (facN (a + 1) - 1) a % (a + 1) = a := by
      rw [dgQ_eq, ef, Nat.mul_add_div hp, Nat.div_eq_of_lt (by omega), Nat.add_zero, Nat.mod_eq_of_lt (by omega)]
    have e2 : dgL (facN (a + 1) - 1) a = dgL (facN a - 1) a := by
      rw [← dgL_mod _ a a (Nat.le_refl _), ef, Nat.mul_add_mod, Nat.mod_eq_of_lt (by omega)]
    rw [e0, e1, e2, sumN_cons, Int.mul_add, dgL_last a]
    rw [Int.natCast_add, show ((1 : Nat) : Int) = 1 from rfl, show ((a : Int) + 1 - 1) = a by omega, Int.mul_sub, Int.add_mul]
    omega
end Go.Proofs.Ytheblebfeinjjaa
