/- An order and its inverse have as many inversions. -/
import Derived.Test.YtheblebfeinjjaaPE
namespace Go.Proofs.Ytheblebfeinjjaa
open Go.RowKit
set_option maxRecDepth 100000
/-- The sum of the first so many. -/
def sS (f : Nat → Nat) (n : Nat) : Nat := ((List.range n).map f).sum
theorem sS_succ (f : Nat → Nat) (n : Nat) : sS f (n + 1) = sS f n + f n := by
  unfold sS
  rw [List.range_succ, List.map_append, List.sum_append]
  simp
theorem sS_zero (f : Nat → Nat) : sS f 0 = 0 := rfl
theorem sS_ext {f g : Nat → Nat} {n : Nat} (h : ∀ i, i < n → f i = g i) : sS f n = sS g n := by
  unfold sS
  congr 1
  exact List.map_congr_left fun i hi => h i (List.mem_range.1 hi)
theorem sS_add (f g : Nat → Nat) : ∀ n, sS (fun i => f i + g i) n = sS f n + sS g n
  | 0 => rfl
  | n + 1 => by
    rw [sS_succ, sS_succ, sS_succ, sS_add f g n]
    omega
theorem sS_none : ∀ n, sS (fun _ => 0) n = 0
  | 0 => rfl
  | n + 1 => by rw [sS_succ, sS_none n]
theorem sS_swap (f : Nat → Nat → Nat) (n : Nat) : ∀ m, sS (fun i => sS (f i) n) m = sS (fun k => sS (fun i => f i k) m) n
  | 0 => by
    rw [sS_zero]
    exact (sS_none n).symm
  | m + 1 => by
    rw [sS_succ, sS_swap f n m, ← sS_add]
    exact sS_ext fun k _ => (sS_succ _ _).symm
theorem sS_perm {l : List Int} (h : IsO l) (g : Nat → Nat) : sS g l.length = sS (fun i => g ((geti l i).toNat - 1)) l.length := by
  have h1 := h.perm.map fun x : Int => x.toNat - 1
  have e1 : (asc l.length).map (fun x : Int => x.toNat - 1) = List.range l.length := by
    unfold asc
    rw [List.map_map]
    refine (List.map_congr_left fun i _ => ?_).trans (List.map_id _)
    show ((i : Int) + 1).toNat - 1 = i
    omega
  have e2 : l.map (fun x : Int => x.toNat - 1) = (List.range l.length).map fun i => (geti l i).toNat - 1 := by
    refine List.ext_getElem (by simp) fun i h1 h2 => ?_
    rw [List.getElem_map, List.getElem_map, List.getElem_range, geti_eq (by simpa using h1)]
  rw [e1, e2] at h1
  have h2 := (h1.map g).sum_nat
  rw [List.map_map] at h2
  exact h2.symm
theorem smN_sS (l : List Int) (i : Nat) : ∀ n, smN l i n = sS (fun k => if i ≤ k ∧ geti l k < geti l i then 1 else 0) n
  | 0 => rfl
  | n + 1 => by
    rw [sS_succ, ← smN_sS l i n]
    rfl
theorem sumN_sS (l : List Int) : ∀ k, k ≤ l.length → sumN (tabL l) k = (sS (fun i => smN l i l.length) k : Nat)
  | 0, _ => rfl
  | k + 1, h => by
    rw [sS_succ, Int.natCast_add, ← sumN_sS l k (by omega), ← tabL_at (by omega : k < l.length)]
    rfl
theorem invL_sum {l : List Int} (h : IsO l) : sumN (tabL (invL l)) l.length = sumN (tabL l) l.length := by
  have hl := invL_len l
  rw [sumN_sS l _ (Nat.le_refl _), sumN_sS (invL l) l.length (by omega), hl]
  congr 1
  rw [sS_ext (fun i _ => smN_sS l i l.length), sS_ext (fun i _ => smN_sS (invL l) i l.length), sS_perm h]
  rw [sS_ext (fun k _ => sS_perm h _), sS_swap]
  refine sS_ext fun i hi => sS_ext fun k hk => ?_
  rw [invL_at h hi, invL_at h hk]
  have a1 := h.lo i hi
  have a2 := h.lo k hk
  by_cases e : i = k
  · subst e
    rw [if_neg (by omega), if_neg (by omega)]
  · have hne : geti l i ≠ geti l k := by
      by_cases hik : i < k
      · exact h.ne k i hk hik
      · exact fun e2 => h.ne i k hi (by omega) e2.symm
    by_cases hc : i ≤ k ∧ geti l k < geti l i
    · rw [if_pos hc, if_pos (by omega)]
    · rw [if_neg hc, if_neg (by omega)]
end Go.Proofs.Ytheblebfeinjjaa
