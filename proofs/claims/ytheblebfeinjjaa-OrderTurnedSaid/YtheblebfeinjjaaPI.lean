/- An order's table makes the order again, and its place the table. -/
import Derived.Test.YtheblebfeinjjaaPC
import Derived.Test.YtheblebfeinjjaaOJ
namespace Go.Proofs.Ytheblebfeinjjaa
open Go.RowKit
set_option maxRecDepth 100000
theorem smN_shift (x : Int) (r : List Int) (i : Nat) : ∀ k, smN (x :: r) (i + 1) (k + 1) = smN r i k
  | 0 => by simp [smN]
  | k + 1 => by
    have e1 : smN (x :: r) (i + 1) (k + 2) = smN (x :: r) (i + 1) (k + 1) + if i + 1 ≤ k + 1 ∧ geti (x :: r) (k + 1) < geti (x :: r) (i + 1) then 1 else 0 := rfl
    have e2 : smN r i (k + 1) = smN r i k + if i ≤ k ∧ geti r k < geti r i then 1 else 0 := rfl
    rw [e1, e2, smN_shift x r i k]
    have e3 : ∀ j, geti (x :: r) (j + 1) = geti r j := fun j => rfl
    rw [e3, e3]
    congr 1
    by_cases h : i ≤ k ∧ geti r k < geti r i
    · rw [if_pos h, if_pos ⟨by omega, h.2⟩]
    · rw [if_neg h, if_neg (fun h2 => h ⟨by omega, h2.2⟩)]
theorem smN_head (x : Int) : ∀ (r : List Int) (k : Nat), k ≤ r.length → smN (x :: r) 0 (k + 1) = (r.take k).countP (fun y => decide (y < x))
  | r, 0, _ => by
    have e1 : smN (x :: r) 0 1 = smN (x :: r) 0 0 + if 0 ≤ 0 ∧ x < x then 1 else 0 := rfl
    rw [e1, if_neg (by omega)]
    rfl
  | r, k + 1, h => by
    have e1 : smN (x :: r) 0 (k + 2) = smN (x :: r) 0 (k + 1) + if 0 ≤ k + 1 ∧ geti r k < x then 1 else 0 := rfl
    rw [e1, smN_head x r k (by omega), List.take_succ_eq_append_getElem (by omega), List.countP_append, ← geti_eq (by omega : k < r.length)]
    congr 1
    by_cases h2 : geti r k < x
    · simp [h2]
    · simp [h2]
theorem tabL_cons (x : Int) (r : List Int) : tabL (x :: r) = ((r.countP (fun y => decide (y < x)) : Nat) : Int) :: tabL r := by
  have h := smN_head x r r.length (Nat.le_refl _)
  rw [List.take_length] at h
  unfold tabL
  rw [List.length_cons, List.range_succ_eq_map, List.map_cons, h, List.map_map]
  congr 1
  exact List.map_congr_left fun i _ => congrArg Nat.cast (smN_shift x r i r.length)
theorem sorted_at {x : Int} : ∀ {left : List Int}, left.Pairwise (· < ·) → x ∈ left → left.countP (fun y => decide (y < x)) < left.length ∧ geti left (left.countP fun y => decide (y < x)) = x
  | y :: t, hs, hx => by
    obtain ⟨h1, h2⟩ := List.pairwise_cons.1 hs
    rw [List.countP_cons]
    rcases List.mem_cons.1 hx with rfl | hx
    · have h0 : t.countP (fun y => decide (y < x)) = 0 := List.countP_eq_zero.2 fun z hz => by have := h1 z hz; simp; omega
      rw [h0, if_neg (by simp)]
      exact ⟨by simp, rfl⟩
    · have h3 := h1 x hx
      obtain ⟨h4, h5⟩ := sorted_at h2 hx
      rw [if_pos (by simpa using h3)]
      exact ⟨by rw [List.length_cons]; omega, h5⟩
theorem wtN_tab : ∀ (r left : List Int), left.Pairwise (· < ·) → r.Perm left → wtN (tabL r) left = r
  | [], _, _, _ => rfl
  | x :: r, left, hs, hp => by
    have hx : x ∈ left := hp.mem_iff.1 (List.mem_cons_self ..)
    have hc : left.countP (fun y => decide (y < x)) = r.countP (fun y => decide (y < x)) := by
      rw [← hp.countP_eq, List.countP_cons, if_neg (by simp)]
      rfl
    obtain ⟨h1, h2⟩ := sorted_at hs hx
    rw [hc] at h1 h2
    rw [tabL_cons]
    show geti left (((r.countP (fun y => decide (y < x)) : Nat) : Int)).toNat :: wtN (tabL r) (left.eraseIdx (((r.countP (fun y => decide (y < x)) : Nat) : Int)).toNat) = _
    rw [Int.toNat_natCast, h2]
    congr 1
    refine wtN_tab r _ (hs.sublist (List.eraseIdx_sublist ..)) ?_
    have h3 := erase_perm h1
    rw [← geti_eq h1, h2] at h3
    exact (List.perm_cons x).1 (hp.trans h3.symm)
theorem mdL_tab {l : List Int} (h : IsO l) : mdL (tabL l) = l := by
  unfold mdL
  rw [tabL_len]
  exact wtN_tab l _ (asc_sorted _) h.perm
theorem tabL_isT {l : List Int} (h : IsO l) : isT (tabL l) = true := by
  unfold isT
  rw [Bool.and_eq_true, decide_eq_true_eq, tabL_len]
  refine ⟨h.le, okT_at.2 fun i hi => ?_⟩
  rw [tabL_len] at hi
  have h1 := tabN_ok l i hi
  rw [tabN_at hi] at h1
  rw [tabL_at hi, tabL_len]
  omega
theorem plN_dgQ {t : List Nat} {n : Nat} (h : DigOk t n) : ∀ a, a ≤ n → dgQ (plN t n n) a = plN t n (n - a)
  | 0, _ => rfl
  | a + 1, ha => by
    show dgQ (plN t n n) a / (a + 1) = _
    rw [plN_dgQ h a (by omega)]
    obtain ⟨j, hj⟩ : ∃ j, n - a = j + 1 := ⟨n - a - 1, by omega⟩
    have hd := h j (by omega)
    have e : plN t n (j + 1) = plN t n j * (n - j) + getn t j := rfl
    rw [hj, e, show n - (a + 1) = j by omega, show n - j = a + 1 by omega, Nat.mul_comm, Nat.mul_add_div (by omega), Nat.div_eq_of_lt (by omega), Nat.add_zero]
theorem plN_dgL {t : List Nat} (h : DigOk t t.length) : ∀ a, a ≤ t.length → dgL (plN t t.length t.length) a = (natI t).drop (t.length - a)
  | 0, _ => by
    rw [Nat.sub_zero, List.drop_eq_nil_of_le (by rw [natI_len]; omega)]
    rfl
  | a + 1, ha => by
    have e : dgL (plN t t.length t.length) (a + 1) = ((dgQ (plN t t.length t.length) a % (a + 1) : Nat) : Int) :: dgL (plN t t.length t.length) a := rfl
    rw [e, plN_dgL h a (by omega), plN_dgQ h a (by omega)]
    obtain ⟨j, hj⟩ : ∃ j, t.length - a = j + 1 := ⟨t.length - a - 1, by omega⟩
    have hd := h j (by omega)
    have e2 : plN t t.length (j + 1) = plN t t.length j * (t.length - j) + getn t j := rfl
    rw [hj, e2, show t.length - (a + 1) = j by omega, show t.length - j = a + 1 by omega, Nat.mul_comm, Nat.mul_add_mod, Nat.mod_eq_of_lt (by omega), drop_cons (show j < (natI t).length by rw [natI_len]; omega), geti_natI]
theorem place_max {l : List Int} (h : IsO l) : plN (tabN l) l.length l.length < facN l.length ∧ plN (tabN l) l.length l.length ≤ 479001600 := by
  have h1 := plN_lt (tabN_ok l) l.length (Nat.le_refl _)
  rw [Nat.sub_self, show facN 0 = 1 from rfl, Nat.mul_one] at h1
  have h3 : facN l.length ≤ 479001600 := by
    have : ∀ n, n < 13 → facN n ≤ 479001600 := by decide
    exact this _ (by have := h.le; omega)
  omega
theorem place_Q {l : List Int} (h : IsO l) : dgQ (plN (tabN l) l.length l.length) l.length = 0 := by
  rw [dgQ_eq, Nat.div_eq_of_lt (place_max h).1]
theorem place_L (l : List Int) : dgL (plN (tabN l) l.length l.length) l.length = tabL l := by
  have h := plN_dgL (t := tabN l) (by rw [tabN_len]; exact tabN_ok l) l.length (by rw [tabN_len]; omega)
  rw [tabN_len, Nat.sub_self, List.drop_zero, tabN_I] at h
  exact h
end Go.Proofs.Ytheblebfeinjjaa
