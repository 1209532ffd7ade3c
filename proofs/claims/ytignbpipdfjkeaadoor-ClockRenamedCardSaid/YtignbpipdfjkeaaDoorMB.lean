/- Machines as lists and as tables; sets bit by bit. -/
import Derived.Test.YtignbpipdfjkeaaDoorMA
import Derived.Test.YtignbpipdfjkeaaDoorAD
namespace Go.Proofs.YtignbpipdfjkeaaDoor
open Go.RowKit
set_option maxHeartbeats 1000000
set_option maxRecDepth 100000
/-- The table of a machine. -/
def tabN (L : List (List Int)) : Tab := L.map fun l => l.map Int.toNat
theorem ld_gat (L : List (List Int)) (b q : Nat) : ld (tabN L) b q = (gat L b q).toNat := by
  unfold ld tabN gat geti getl
  rw [List.getD_eq_getElem?_getD, List.getD_eq_getElem?_getD, List.getD_eq_getElem?_getD, List.getD_eq_getElem?_getD, List.getElem?_map]
  cases L[b]? with
  | none => rfl
  | some l =>
    simp only [Option.map_some, Option.getD_some, List.getElem?_map]
    cases l[q]? <;> rfl
theorem tabN_row (L : List (List Int)) (b : Nat) : ((tabN L).getD b []).length = (getl L b).length := by
  unfold tabN getl
  rw [List.getD_eq_getElem?_getD, List.getD_eq_getElem?_getD, List.getElem?_map]
  cases L[b]? <;> simp
theorem IsMI.isM {L : List (List Int)} (h : IsMI L) : IsM (tabN L) L.length (nS L) where
  len := by simp [tabN]
  k1 := h.k1
  k4 := h.k4
  n1 := h.n1
  n9 := h.n9
  row := fun b hb => by rw [tabN_row, h.row b hb]
  lt := fun b q hb hq => by
    rw [ld_gat]
    have h1 := h.lo b q hb hq; have h2 := h.hi b q hb hq; omega
theorem IsMI.ld {L : List (List Int)} (h : IsMI L) (b q : Nat) : gat L b q = (ld (tabN L) b q : Int) ∧ Go.Proofs.YtignbpipdfjkeaaDoor.ld (tabN L) b q < 9 := by
  have := h.bd b q
  rw [ld_gat]; omega
theorem bits_stepD : ((List.range 511).all fun s => bitsS (s + 1) == tzS (s + 1) :: bitsS ((s + 1) &&& s) && decide (tzS (s + 1) < 9)) = true := by decide +kernel
theorem bits_step {s : Nat} (h0 : s ≠ 0) (h : s < 512) : bitsS s = tzS s :: bitsS (s &&& (s - 1)) ∧ tzS s < 9 := by
  have := List.all_eq_true.1 bits_stepD (s - 1) (List.mem_range.2 (by omega))
  rw [show s - 1 + 1 = s by omega, Bool.and_eq_true, beq_iff_eq, decide_eq_true_eq] at this
  exact this
theorem bits_zero : bitsS 0 = [] := by decide
theorem and_pred {s : Nat} (h0 : s ≠ 0) : (s &&& (s - 1)) < s := Nat.lt_of_le_of_lt Nat.and_le_right (by omega)
theorem or_lt {a b : Nat} (ha : a < 512) (hb : b < 9) : (a ||| 2 ^ b) < 512 := Nat.or_lt_two_pow (n := 9) ha (Nat.pow_lt_pow_right (by decide) hb)
theorem pc_szD : ((List.range 512).all fun s => pc 16 s == szS s) = true := by decide +kernel
theorem pc_sz {s : Nat} (h : s < 512) : pc 16 s = szS s := by
  have := List.all_eq_true.1 pc_szD s (List.mem_range.2 h)
  exact beq_iff_eq.1 this
theorem set512 {n s : Nat} (hn : n ≤ 9) (h : IsS n s) : s < 512 := Nat.lt_of_lt_of_le h (Nat.pow_le_pow_right (show 0 < 2 by decide) hn)
theorem sz_le (s : Nat) : szS s ≤ 9 := by unfold szS bitsS; have := List.length_filter_le (fun q => s.testBit q) (List.range 9); simpa using this
end Go.Proofs.YtignbpipdfjkeaaDoor
