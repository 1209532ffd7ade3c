/- Items ascend; how many there may be. -/
import Derived.Test.YtnnaaoobdofooaaSX
import Derived.Test.YtnnaaoobdofooaaTM
namespace Go.Proofs.Ytnnaaoobdofooaa
open Go.RowKit
set_option maxHeartbeats 1000000
set_option maxRecDepth 100000
theorem pk_ge {L : List (List Int)} {r s c' : Nat} {k' : Int} : ∀ (d c : Nat) (k : Int), c + d = L.length → pk L r s ((List.range L.length).drop c) k = some (c', k') → c ≤ c'
  | 0, c, k, hc, h => by
    rw [List.drop_of_length_le (by rw [List.length_range]; omega)] at h
    cases h
  | d + 1, c, k, hc, h => by
    rw [range_drop (by omega)] at h
    cases ho : okC L r s c
    · rw [pk_skip ho] at h
      have := pk_ge d (c + 1) k (by omega) h
      omega
    · by_cases hlt : k < chN L (sWithout s c)
      · rw [pk_take ho hlt] at h
        injection h with h
        injection h with h
        omega
      · rw [pk_next ho hlt] at h
        have := pk_ge d (c + 1) _ (by omega) h
        omega
theorem pk_lt {L : List (List Int)} {r s c1 c2 : Nat} {j' k' : Int} : ∀ (d c : Nat) (j k : Int), c + d = L.length → j < k → pk L r s ((List.range L.length).drop c) j = some (c1, j') → pk L r s ((List.range L.length).drop c) k = some (c2, k') → c1 < c2 ∨ (c1 = c2 ∧ j' < k')
  | 0, c, j, k, hc, _, h, _ => by
    rw [List.drop_of_length_le (by rw [List.length_range]; omega)] at h
    cases h
  | d + 1, c, j, k, hc, hjk, h, h2 => by
    rw [range_drop (by omega)] at h h2
    cases ho : okC L r s c
    · rw [pk_skip ho] at h h2
      exact pk_lt d (c + 1) j k (by omega) hjk h h2
    · by_cases hlt : j < chN L (sWithout s c)
      · rw [pk_take ho hlt] at h
        injection h with h
        injection h with e1 e2
        by_cases hlt2 : k < chN L (sWithout s c)
        · rw [pk_take ho hlt2] at h2
          injection h2 with h2
          injection h2 with e3 e4
          right
          omega
        · rw [pk_next ho hlt2] at h2
          have := pk_ge d (c + 1) _ (by omega) h2
          left
          omega
      · rw [pk_next ho hlt] at h
        rw [pk_next ho (by omega)] at h2
        exact pk_lt d (c + 1) _ _ (by omega) (by omega) h h2
/-- One list comes before another. -/
def Bfr (a b : List Int) : Prop := ∃ i, i < a.length ∧ i < b.length ∧ (∀ j, j < i → geti a j = geti b j) ∧ geti a i < geti b i
theorem itm_lt {L : List (List Int)} (h : IsT L) : ∀ (m s : Nat) (j k : Int), m ≤ L.length → s < 2^L.length → pc 16 s = m → 0 ≤ j → j < k → k < chN L s → Bfr (itm L m s j) (itm L m s k)
  | 0, s, j, k, _, _, hp, h0, hjk, hk => by
    have e : chN L s = 1 := by
      show pr (onesL L) (pc 16 s) s = 1
      rw [hp]; rfl
    omega
  | m + 1, s, j, k, hm, hs, hp, h0, hjk, hk => by
    have hl := pow_le10 h.le
    have hle := h.le
    have hsum := chN_sum h (r := L.length - (m + 1)) (s := s) (by omega) hs (by omega)
    have hb0 : bfN L (L.length - (m + 1)) s 0 = 0 := rfl
    obtain ⟨c1, j', hpj, hc1, ho1, a1, a2⟩ := pk_ex h (r := L.length - (m + 1)) hs L.length 0 j (by omega) h0 (by omega)
    obtain ⟨c2, k', hpk, hc2, ho2, b1, b2⟩ := pk_ex h (r := L.length - (m + 1)) hs L.length 0 k (by omega) (by omega) (by omega)
    have hc := pk_lt L.length 0 j k (by omega) hjk hpj hpk
    rw [List.drop_zero] at hpj hpk
    rw [itm_some hpj, itm_some hpk]
    rcases hc with hc | ⟨rfl, hc⟩
    · exact ⟨0, by simp, by simp, fun i hi => absurd hi (by omega), by show (c1 : Int) < (c2 : Int); omega⟩
    · have ho3 := ho1
      unfold okC at ho3
      simp only [Bool.and_eq_true, Bool.not_eq_true', decide_eq_false_iff_not] at ho3
      have hpw := pc_without (s := s) (v := c1) (by omega) (by omega) ho3.1
      obtain ⟨i, i1, i2, i3, i4⟩ := itm_lt h m (sWithout s c1) j' k' (by omega) (Nat.lt_of_le_of_lt (without_le s c1) hs) (by omega) a1 hc b2
      refine ⟨i + 1, by rw [List.length_cons]; omega, by rw [List.length_cons]; omega, fun q hq => ?_, by rw [geti_cons, geti_cons]; exact i4⟩
      cases q with
      | zero => rfl
      | succ q => rw [geti_cons, geti_cons]; exact i3 q (by omega)
def facI : Nat → Int
  | 0 => 1
  | m + 1 => (m + 1 : Int) * facI m
theorem facI_pos : ∀ m, 0 < facI m
  | 0 => by decide
  | m + 1 => Int.mul_pos (by omega) (facI_pos m)
theorem chN_fac {L : List (List Int)} (h : IsT L) : ∀ (m s : Nat), m ≤ L.length → s < 2^L.length → pc 16 s = m → chN L s ≤ facI m
  | 0, s, _, _, hp => by
    show pr (onesL L) (pc 16 s) s ≤ 1
    rw [hp]; exact Int.le_refl 1
  | m + 1, s, hm, hs, hp => by
    have hl := pow_le10 h.le
    have hle := h.le
    have hsum := chN_sum h (r := L.length - (m + 1)) (s := s) (by omega) hs (by omega)
    have hf := facI_pos m
    have key : ∀ c, c ≤ L.length → bfN L (L.length - (m + 1)) s c ≤ (pc c s : Int) * facI m := fun c => by
      induction c with
      | zero => intro _; show (0 : Int) ≤ _; simp [pc]
      | succ c ih =>
        intro hc
        have h1 := ih (by omega)
        have hst := bfN_step h (L.length - (m + 1)) s c
        rw [hst, pc_succ]
        cases ho : okC L (L.length - (m + 1)) s c
        · simp only [Bool.false_eq_true, if_false]
          have h2 : (pc c s : Int) * facI m ≤ ((pc c s + if s.testBit c = true then 1 else 0 : Nat) : Int) * facI m := Int.mul_le_mul_of_nonneg_right (by omega) (by omega)
          omega
        · have ho3 := ho
          unfold okC at ho3
          simp only [Bool.and_eq_true, Bool.not_eq_true', decide_eq_false_iff_not] at ho3
          have hpw := pc_without (s := s) (v := c) (by omega) (by omega) ho3.1
          have h2 := chN_fac h m (sWithout s c) (by omega) (Nat.lt_of_le_of_lt (without_le s c) hs) (by omega)
          rw [ho3.1]
          simp only [if_true]
          rw [show ((pc c s + 1 : Nat) : Int) = (pc c s : Int) + 1 from rfl, Int.add_mul, Int.one_mul]
          omega
    have h3 := key L.length (Nat.le_refl _)
    have h4 : pc L.length s ≤ m + 1 := by
      have := pc_top (s := s) (n := L.length) (fun c hc => Nat.testBit_lt_two_pow (Nat.lt_of_lt_of_le hs (Nat.pow_le_pow_right (n := 2) (by omega) hc))) (16 - L.length)
      rw [show L.length + (16 - L.length) = 16 by omega] at this
      omega
    have h5 : (pc L.length s : Int) * facI m ≤ ((m + 1 : Nat) : Int) * facI m := Int.mul_le_mul_of_nonneg_right (by omega) (by omega)
    show chN L s ≤ (m + 1 : Int) * facI m
    rw [show ((m : Int) + 1) = ((m + 1 : Nat) : Int) from rfl]
    omega
theorem chN_120 {L : List (List Int)} (h : IsT L) (hn : L.length ≤ 5) : chN L (sAll L.length) ≤ 120 := by
  have hs : sAll L.length < 2^L.length := by unfold sAll; have := Nat.two_pow_pos L.length; omega
  have := chN_fac h L.length (sAll L.length) (Nat.le_refl _) hs (pc_all (by omega))
  have hf : ∀ m, m ≤ 5 → facI m ≤ 120 := fun m hm => by
    have : m = 0 ∨ m = 1 ∨ m = 2 ∨ m = 3 ∨ m = 4 ∨ m = 5 := by omega
    rcases this with rfl | rfl | rfl | rfl | rfl | rfl <;> decide
  have := hf L.length hn
  omega
theorem itm_bfr {L : List (List Int)} (h : IsT L) {j k : Int} (h0 : 0 ≤ j) (hjk : j < k) (hk : k < chN L (sAll L.length)) : Bfr (itm L L.length (sAll L.length) j) (itm L L.length (sAll L.length) k) := by
  have hs : sAll L.length < 2^L.length := by unfold sAll; have := Nat.two_pow_pos L.length; omega
  exact itm_lt h L.length (sAll L.length) j k (Nat.le_refl _) hs (pc_all (by have := h.le; omega)) h0 hjk hk
/-- The table with 1 in the place of each positive number, built number by number. -/
structure OnAt (T K : List (List Int)) (n i k : Nat) : Prop where
  len : K.length = n
  row : ∀ a, a < n → (getl K a).length = n
  at' : ∀ a b, a < n → b < n → gat K a b = if a < i ∨ (a = i ∧ b < k) then min (gat T a b) 1 else gat T a b
theorem OnAt.start {T : List (List Int)} {n : Nat} (hl : T.length = n) (h : ∀ a, a < n → (getl T a).length = n) : OnAt T T n 0 0 := ⟨hl, h, fun a b _ _ => by rw [if_neg (by omega)]⟩
theorem OnAt.next {T K : List (List Int)} {n i k : Nat} (h : OnAt T K n i k) (hi : i < n) (hk : k < n) : OnAt T (setT K i k (min (gat T i k) 1)) n i (k + 1) := by
  have hl := h.len
  refine ⟨by rw [setT_len, hl], fun a ha => ?_, fun a b ha hb => ?_⟩
  · rw [getl_setT (by omega)]
    split
    · rw [List.length_set]; exact h.row i hi
    · exact h.row a ha
  · rw [gat_setT (by omega) (by rw [h.row i hi]; exact hk)]
    by_cases e : i = a ∧ k = b
    · obtain ⟨rfl, rfl⟩ := e
      rw [if_pos ⟨rfl, rfl⟩, if_pos (by omega)]
    · rw [if_neg e, h.at' a b ha hb]
      by_cases e2 : a < i ∨ (a = i ∧ b < k)
      · rw [if_pos e2, if_pos (by omega)]
      · rw [if_neg e2, if_neg (by omega)]
theorem OnAt.row_end {T K : List (List Int)} {n i : Nat} (h : OnAt T K n i n) : OnAt T K n (i + 1) 0 := ⟨h.len, h.row, fun a b ha hb => by
  rw [h.at' a b ha hb]
  by_cases e : a < i ∨ (a = i ∧ b < n)
  · rw [if_pos e, if_pos (by omega)]
  · rw [if_neg e, if_neg (by omega)]⟩
theorem OnAt.cell {T K : List (List Int)} {n i k : Nat} (h : OnAt T K n i k) (hi : i < n) (hk : k < n) : gat K i k = gat T i k := by
  rw [h.at' i k hi hk, if_neg (by omega)]
theorem OnAt.all {T K : List (List Int)} {n : Nat} (h : OnAt T K n n 0) (hT : T.length = n) (hr : ∀ a, a < n → (getl T a).length = n) : K = onesL T := by
  refine List.ext_getElem (by rw [onesL_len, h.len, hT]) (fun a h1 h2 => ?_)
  have ha : a < n := by rw [← h.len]; exact h1
  have e1 : K[a] = getl K a := by unfold getl; rw [List.getD_eq_getElem?_getD, List.getElem?_eq_getElem h1]; rfl
  have e2 : (onesL T)[a] = getl (onesL T) a := by unfold getl; rw [List.getD_eq_getElem?_getD, List.getElem?_eq_getElem h2]; rfl
  rw [e1, e2]
  refine ext_geti (by rw [h.row a ha, onesL_row, List.length_map, hr a ha]) (fun b hb => ?_)
  rw [h.row a ha] at hb
  have := h.at' a b ha hb
  rw [if_pos (by omega)] at this
  rw [show geti (getl K a) b = gat K a b from rfl, this, show geti (getl (onesL T) a) b = gat (onesL T) a b from rfl, onesL_at]
end Go.Proofs.Ytnnaaoobdofooaa
