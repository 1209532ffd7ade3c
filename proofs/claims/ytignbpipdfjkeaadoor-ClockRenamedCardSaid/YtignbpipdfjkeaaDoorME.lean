/- The first smallest image: mathematics. -/
import Derived.Test.YtignbpipdfjkeaaDoorAP
namespace Go.Proofs.YtignbpipdfjkeaaDoor
set_option maxHeartbeats 1000000
set_option maxRecDepth 100000
/-- The place of the first smallest set among the first i. -/
def bsI (R : Met) : Nat → Nat
  | 0 => 0
  | i + 1 => if szS (elS R i).1 < szS (elS R (bsI R i)).1 then i else bsI R i
theorem bsI_le (R : Met) : ∀ i, bsI R i ≤ i
  | 0 => Nat.le_refl _
  | i + 1 => by unfold bsI; split; · omega
                · have := bsI_le R i; omega
theorem bsI_lt {R : Met} (h : 0 < R.length) : ∀ i, i ≤ R.length → bsI R i < R.length
  | 0, _ => h
  | i + 1, hi => by unfold bsI; split; · omega
                    · exact bsI_lt h i (by omega)
theorem bsI_min (R : Met) : ∀ i j, j < i → szS (elS R (bsI R i)).1 ≤ szS (elS R j).1
  | 0, j, h => absurd h (Nat.not_lt_zero j)
  | i + 1, j, h => by
    unfold bsI
    by_cases e : j = i
    · subst e; split <;> omega
    · have := bsI_min R i j (by omega)
      split <;> omega
theorem bsI_first (R : Met) : ∀ i j, j < bsI R i → szS (elS R (bsI R i)).1 < szS (elS R j).1
  | 0, j, h => absurd h (Nat.not_lt_zero j)
  | i + 1, j, h => by
    unfold bsI at h ⊢
    split
    · rename_i h1
      rw [if_pos h1] at h
      have := bsI_min R i j h
      omega
    · rename_i h1
      rw [if_neg h1] at h
      exact bsI_first R i j h
/-- The first smallest image of a set, with its word. -/
def shE (T : Tab) (k s : Nat) : Nat × List Nat := elS (reach T k s) (bsI (reach T k s) (reach T k s).length)
theorem find_el {R : Met} {g : Nat → Bool} {i : Nat} (hi : i < R.length) (hg : g (elS R i).1 = true) (hn : ∀ j, j < i → g (elS R j).1 = false) : R.find? (fun e => g e.1) = some (elS R i) := by
  rw [List.find?_eq_some_iff_getElem]
  refine ⟨hg, i, hi, ?_, fun j hj => ?_⟩
  · unfold elS; rw [List.getD_eq_getElem?_getD, List.getElem?_eq_getElem hi]; rfl
  · have := hn j hj
    unfold elS at this
    rw [List.getD_eq_getElem?_getD, List.getElem?_eq_getElem (show j < R.length by omega)] at this
    simp at this
    simp [this]
variable {T : Tab} {k n s : Nat}
theorem reach_pos (hM : IsM T k n) (hs : IsS n s) : 0 < (reach T k s).length ∧ elS (reach T k s) 0 = (s, []) := by
  obtain ⟨U, hU⟩ := (reach_met hM hs).head
  rw [hU]; exact ⟨by simp, rfl⟩
theorem seek_at (hM : IsM T k n) (hs : IsS n s) : seek T k s (few (szS (shE T k s).1)) = some (shE T k s) := by
  have hp := (reach_pos hM hs).1
  refine find_el (bsI_lt hp _ (Nat.le_refl _)) (decide_eq_true (Nat.le_refl _)) (fun j hj => decide_eq_false ?_)
  have := bsI_first _ _ j hj
  unfold shE
  omega
theorem sh_min (_hM : IsM T k n) (_hs : IsS n s) {t : Nat} {x : List Nat} (h : (t, x) ∈ reach T k s) : szS (shE T k s).1 ≤ szS t := by
  obtain ⟨j, hj, e⟩ := List.getElem_of_mem h
  have := bsI_min (reach T k s) (reach T k s).length j hj
  have ej : elS (reach T k s) j = (t, x) := by unfold elS; rw [List.getD_eq_getElem?_getD, List.getElem?_eq_getElem hj, e]; rfl
  rw [ej] at this
  exact this
theorem seek_below (hM : IsM T k n) (hs : IsS n s) {m : Nat} (h : m < szS (shE T k s).1) : seek T k s (few m) = none := by
  unfold seek
  rw [List.find?_eq_none]
  rintro ⟨t, x⟩ hx
  have := sh_min hM hs hx
  unfold few
  simp
  omega
theorem sh_mem (hM : IsM T k n) (hs : IsS n s) : shE T k s ∈ reach T k s := elS_mem (bsI_lt (reach_pos hM hs).1 _ (Nat.le_refl _))
theorem sh_im (hM : IsM T k n) (hs : IsS n s) : okW k (shE T k s).2 ∧ img T s (shE T k s).2 = (shE T k s).1 := (reach_met hM hs).im _ _ (sh_mem hM hs)
theorem sz_pos {n t : Nat} (hn : n ≤ 9) (ht : IsS n t) (h : t ≠ 0) : 1 ≤ szS t := by
  have := bits_ne hn ht h
  unfold szS
  rcases e : bitsS t with _ | ⟨a, l⟩
  · exact absurd e this
  · simp
theorem sh_set (hM : IsM T k n) (hs : IsS n s) (h0 : s ≠ 0) : IsS n (shE T k s).1 ∧ (shE T k s).1 ≠ 0 ∧ 1 ≤ szS (shE T k s).1 := by
  obtain ⟨h1, h2⟩ := sh_im hM hs
  have h3 := img_set hM hs h1
  have h4 := img_ne hM hs h0 h1
  rw [h2] at h3 h4
  exact ⟨h3, h4, sz_pos hM.n9 h3 h4⟩
theorem seek_one (hM : IsM T k n) (hs : IsS n s) (h0 : s ≠ 0) : seek T k s (few 1) = if szS (shE T k s).1 = 1 then some (shE T k s) else none := by
  by_cases h : szS (shE T k s).1 = 1
  · rw [if_pos h, ← h]; exact seek_at hM hs
  · rw [if_neg h]
    have := (sh_set hM hs h0).2.2
    exact seek_below hM hs (by omega)
theorem sz_allD : ((List.range 10).all fun n => szS (2 ^ n - 1) == n) = true := by decide +kernel
theorem sz_all {n : Nat} (hn : n ≤ 9) : szS (2 ^ n - 1) = n := by
  have := List.all_eq_true.1 sz_allD n (List.mem_range.2 (by omega))
  exact beq_iff_eq.1 this
theorem rkL_eq (hM : IsM T k n) (hs : IsS n s) : ∀ (c m : Nat), m ≤ szS (shE T k s).1 → rkL T k s c m = if szS (shE T k s).1 < m + c then (szS (shE T k s).1, (shE T k s).2) else (m + c, [])
  | 0, m, h => by rw [if_neg (by omega)]; rfl
  | c + 1, m, h => by
    unfold rkL
    by_cases e : m = szS (shE T k s).1
    · rw [e, seek_at hM hs, if_pos (by omega)]
    · rw [seek_below hM hs (by omega)]
      show rkL T k s c (m + 1) = _
      rw [rkL_eq hM hs c (m + 1) (by omega), show m + 1 + c = m + (c + 1) by omega]
theorem rk_eq (hM : IsM T k n) : rkL T k (2 ^ n - 1) (n - 1) 1 = (szS (shE T k (2 ^ n - 1)).1, (shE T k (2 ^ n - 1)).2) := by
  have hp := Nat.two_pow_pos n
  have hs : IsS n (2 ^ n - 1) := by unfold IsS; omega
  have h0 : 2 ^ n - 1 ≠ 0 := by
    have : 2 ^ 1 ≤ 2 ^ n := Nat.pow_le_pow_right (by decide) hM.n1
    omega
  have h1 := (sh_set hM hs h0).2.2
  obtain ⟨hR, h2⟩ := reach_pos hM hs
  have h3 := bsI_min (reach T k (2 ^ n - 1)) (reach T k (2 ^ n - 1)).length 0 hR
  rw [h2, sz_all hM.n9] at h3
  rw [rkL_eq hM hs (n - 1) 1 h1]
  have hn1 := hM.n1
  by_cases e : szS (shE T k (2 ^ n - 1)).1 < 1 + (n - 1)
  · rw [if_pos e]
  · rw [if_neg e]
    have e2 : szS (shE T k (2 ^ n - 1)).1 = n := by unfold shE at *; omega
    have e3 : bsI (reach T k (2 ^ n - 1)) (reach T k (2 ^ n - 1)).length = 0 := by
      rcases Nat.eq_zero_or_pos (bsI (reach T k (2 ^ n - 1)) (reach T k (2 ^ n - 1)).length) with h | h
      · exact h
      · have := bsI_first _ _ 0 h
        rw [h2, sz_all hM.n9] at this
        unfold shE at e2
        omega
    have e4 : (shE T k (2 ^ n - 1)).2 = [] := by unfold shE; rw [e3, h2]
    rw [e2, e4, show 1 + (n - 1) = n by omega]
end Go.Proofs.YtignbpipdfjkeaaDoor
