/- MarksPowers: what it asks. -/
import Derived.Test.YtoklnpiehbnalaaCF
import Derived.Test.YtoklnpiehbnalaaCG
import Derived.Test.YtoklnpiehbnalaaCE
import Derived.Test.YtoklnpiehbnalaaBQ
namespace Go.Proofs.Ytoklnpiehbnalaa
open Go.RowKit Go.PlainAid
set_option maxHeartbeats 2000000
set_option maxRecDepth 100000
theorem ltK_three {x : List Nat} (h : okW x) : ltK 3 (wS x) = !x.contains 3 := by
  by_cases h3 : 3 ∈ x
  · rw [List.contains_iff_mem.2 h3]
    rw [Bool.not_true, Bool.eq_false_iff]
    intro hl
    rw [ltK_iff] at hl
    obtain ⟨i, hi, e⟩ := List.getElem_of_mem h3
    have h1 := hl i (by rw [wS_len]; exact hi)
    rw [bt_wS h hi, List.getD_eq_getElem?_getD, List.getElem?_eq_getElem hi, e] at h1
    simp at h1
  · have : x.contains 3 = false := by
      rw [Bool.eq_false_iff]; intro hc; exact h3 (List.contains_iff_mem.1 hc)
    rw [this, Bool.not_false]
    refine lettersK (fun b hb => ?_) (by decide)
    have := h b hb
    rcases Nat.lt_or_ge b 3 with h1 | h1
    · exact h1
    · have e : b = 3 := by omega
      subst e; exact absurd hb h3
theorem letters_three {a b c : List Nat} (ha : okW a) (hb : okW b) (hc : okW c) : ltK 3 (wS a ++ wS b ++ wS c) = !hasD [a, b, c] := by
  rw [wS_app, wS_app, ltK_three (okW_app (okW_app ha hb) hc)]
  congr 1
  unfold hasD
  simp only [List.contains_eq_any_beq, List.any_append, List.any_cons, List.any_nil, Bool.or_false, Bool.or_assoc]
theorem iMs_len (ss : List ByteArray) : (iMs ss).length ≤ 4 := by unfold iMs; rw [iP_len]; omega
theorem iM_size (s : ByteArray) : (iM s).size ≤ 13 := by unfold iM; rw [ByteArray.size_extract]; omega
theorem iMs_size (ss : List ByteArray) (i : Nat) : (gets (iMs ss) i).size ≤ 100000 := by
  unfold gets
  rw [List.getD_eq_getElem?_getD]
  cases hh : (iMs ss)[i]? with
  | none => exact Nat.zero_le _
  | some s =>
    have hm := List.mem_of_getElem? hh
    unfold iMs iP at hm
    obtain ⟨j, _, rfl⟩ := List.mem_map.1 hm
    have := iM_size (gets ss j)
    show (iM (gets ss j)).size ≤ _
    omega
end Go.Proofs.Ytoklnpiehbnalaa
