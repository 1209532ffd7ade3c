/- The reference's sums: mathematics. -/
import Derived.Test.YtnnaaoobdofooaaRP
namespace Go.Proofs.Ytnnaaoobdofooaa
open Go.RowKit
set_option maxHeartbeats 1000000
set_option maxRecDepth 100000
/-- The sums from a row on. -/
def sm (T : List (List Int)) (i s : Nat) : Int := if pc 16 s + i = T.length then prm T s else 0
/-- What has been added for a set when the loops stand at a set and a column. -/
def nx (T : List (List Int)) (i s c t : Nat) : Nat → Int
  | 0 => 0
  | k + 1 => nx T i s c t k + if t.testBit k = true ∧ (sWithout t k < s ∨ (sWithout t k = s ∧ k < c)) then gat T i k * sm T (i + 1) (sWithout t k) else 0
def nxL (T : List (List Int)) (i s c : Nat) : List Int := (List.range (2^T.length)).map fun t => nx T i s c t T.length
def smL (T : List (List Int)) (i : Nat) : List Int := (List.range (2^T.length)).map fun t => sm T i t
theorem nxL_len (T : List (List Int)) (i s c : Nat) : (nxL T i s c).length = 2^T.length := by simp [nxL]
theorem smL_len (T : List (List Int)) (i : Nat) : (smL T i).length = 2^T.length := by simp [smL]
theorem nxL_at (T : List (List Int)) (i s c : Nat) {t : Nat} (h : t < 2^T.length) : geti (nxL T i s c) t = nx T i s c t T.length := geti_map h
theorem smL_at (T : List (List Int)) (i : Nat) {t : Nat} (h : t < 2^T.length) : geti (smL T i) t = sm T i t := geti_map h
theorem pow_le10 {n : Nat} (h : n ≤ 10) : 2^n ≤ 1024 := Nat.pow_le_pow_right (n := 2) (j := 10) (by omega) h
theorem sm_bd {T : List (List Int)} (h : IsT T) {i s : Nat} (hs : s < 1024) : 0 ≤ sm T i s ∧ sm T i s ≤ 12652843234348800 := by
  have := prm_bd h hs
  unfold sm
  split <;> omega
theorem nx_bd {T : List (List Int)} (h : IsT T) {i s c t : Nat} (ht : t < 1024) : ∀ k : Nat, 0 ≤ nx T i s c t k ∧ nx T i s c t k ≤ (k : Int) * (9 * 12652843234348800)
  | 0 => by simp [nx]
  | k + 1 => by
    have ih := nx_bd h (i := i) (s := s) (c := c) ht k
    have h1 := sm_bd h (i := i + 1) (s := sWithout t k) (Nat.lt_of_le_of_lt (without_le _ _) ht)
    obtain ⟨h3, h4⟩ := h.bd i k
    have h5 : 0 ≤ gat T i k * sm T (i + 1) (sWithout t k) := Int.mul_nonneg h3 h1.1
    have h6 : gat T i k * sm T (i + 1) (sWithout t k) ≤ 9 * 12652843234348800 := Int.mul_le_mul h4 h1.2 h1.1 (by omega)
    unfold nx
    split <;> omega
theorem with_add {s c : Nat} (h : s.testBit c = false) : s + 2^c = sWith s c := by
  unfold sWith
  have h1 := Nat.two_pow_add_eq_or_of_lt (i := c) (b := s % 2^c) (Nat.mod_lt _ (Nat.two_pow_pos c)) (s / 2^c)
  apply Nat.eq_of_testBit_eq
  intro j
  have hd : (s + 2^c) = 2^c * (s / 2^c + 1) + s % 2^c := by
    have := Nat.div_add_mod s (2^c)
    rw [Nat.mul_add, Nat.mul_one]; omega
  rw [Nat.testBit_or, Nat.testBit_two_pow]
  have hs : s = 2^c * (s / 2^c) + s % 2^c := (Nat.div_add_mod s (2^c)).symm
  have he : (s / 2^c) % 2 = 0 := by
    rw [Nat.testBit_eq_decide_div_mod_eq] at h
    simp at h; omega
  rw [hd, Nat.testBit_two_pow_mul_add _ (Nat.mod_lt _ (Nat.two_pow_pos c))]
  by_cases hj : j < c
  · rw [if_pos hj, Nat.testBit_mod_two_pow]
    simp [hj]; omega
  · rw [if_neg hj]
    have e1 : s.testBit j = (s / 2^c).testBit (j - c) := by rw [Nat.testBit_div_two_pow]; congr 1; omega
    rw [e1]
    generalize s / 2^c = q at *
    by_cases hj2 : j = c
    · subst hj2
      simp only [Nat.sub_self, Nat.testBit_zero]
      simp; omega
    · obtain ⟨d, hd2⟩ : ∃ d, j - c = d + 1 := ⟨j - c - 1, by omega⟩
      rw [hd2, Nat.testBit_succ, Nat.testBit_succ, show (q + 1) / 2 = q / 2 by omega]
      simp; omega
theorem with_without {t k s : Nat} (ht : t < 65536) (hk : k < 16) (hb : t.testBit k = true) (h : sWithout t k = s) : t = sWith s k := by
  subst h
  apply Nat.eq_of_testBit_eq
  intro j
  rw [with_bit, without_bit t k j ht hk]
  by_cases e : k = j
  · subst e; simp [hb]
  · simp [e]
theorem nx_same {T : List (List Int)} {i s c c' s' t : Nat} : ∀ {K : Nat}, (∀ k, k < K → t.testBit k = true → ((sWithout t k < s ∨ (sWithout t k = s ∧ k < c)) ↔ (sWithout t k < s' ∨ (sWithout t k = s' ∧ k < c')))) → nx T i s c t K = nx T i s' c' t K
  | 0, _ => rfl
  | K + 1, h => by
    unfold nx
    rw [nx_same (fun k hk => h k (by omega))]
    congr 1
    by_cases hb : t.testBit K = true
    · simp only [h K (by omega) hb]
    · rw [if_neg (fun h => hb h.1), if_neg (fun h => hb h.1)]
theorem nx_zero {T : List (List Int)} {i t : Nat} : ∀ K, nx T i 0 0 t K = 0
  | 0 => rfl
  | K + 1 => by
    unfold nx
    rw [nx_zero K, if_neg (fun h => by omega)]; rfl
theorem nxL_zero (T : List (List Int)) (i : Nat) : nxL T i 0 0 = List.replicate (2^T.length) 0 := by
  refine ext_geti (by rw [nxL_len]; simp) (fun k hk => ?_)
  rw [nxL_len] at hk
  rw [nxL_at T i 0 0 hk, nx_zero]
  unfold geti; rw [List.getD_eq_getElem?_getD, List.getElem?_replicate, if_pos hk]; rfl
theorem nxL_row (T : List (List Int)) (i s : Nat) : nxL T i s T.length = nxL T i (s + 1) 0 := by
  refine ext_geti (by rw [nxL_len, nxL_len]) (fun t ht => ?_)
  rw [nxL_len] at ht
  rw [nxL_at _ _ _ _ ht, nxL_at _ _ _ _ ht]
  exact nx_same (fun k hk _ => by omega)
theorem nxL_skip {T : List (List Int)} {i s c : Nat} (hl : T.length ≤ 10) (hb : s.testBit c = true) : nxL T i s c = nxL T i s (c + 1) := by
  refine ext_geti (by rw [nxL_len, nxL_len]) (fun t ht => ?_)
  rw [nxL_len] at ht
  have hp := pow_le10 hl
  rw [nxL_at _ _ _ _ ht, nxL_at _ _ _ _ ht]
  refine nx_same (fun k hk _ => ?_)
  have : sWithout t k = s → k ≠ c := fun e e2 => by
    subst e2 e
    rw [without_bit t k k (by omega) (by omega)] at hb
    simp at hb
  constructor
  · rintro (h | ⟨h, h2⟩)
    · exact .inl h
    · exact .inr ⟨h, by omega⟩
  · rintro (h | ⟨h, h2⟩)
    · exact .inl h
    · exact .inr ⟨h, by have := this h; omega⟩
theorem nx_add {T : List (List Int)} {i s c : Nat} (hs : s < 65536) (hc : c < 16) (hb : s.testBit c = false) : ∀ K, K ≤ 16 → nx T i s (c + 1) (sWith s c) K = nx T i s c (sWith s c) K + if c < K then gat T i c * sm T (i + 1) s else 0
  | 0, _ => by simp [nx]
  | K + 1, hK => by
    unfold nx
    rw [nx_add hs hc hb K (by omega)]
    have hw := with_lt hs hc
    by_cases e : K = c
    · subst e
      have e1 : sWithout (sWith s K) K = s := without_with hs hc hb
      have i1 : ¬ K < K := Nat.lt_irrefl K
      have i2 : (sWith s K).testBit K = true ∧ (sWithout (sWith s K) K < s ∨ (sWithout (sWith s K) K = s ∧ K < K + 1)) := ⟨by rw [with_bit]; simp, .inr ⟨e1, Nat.lt_succ_self K⟩⟩
      have i3 : ¬ ((sWith s K).testBit K = true ∧ (sWithout (sWith s K) K < s ∨ (sWithout (sWith s K) K = s ∧ K < K))) := fun h => by
        rcases h.2 with h | h
        · rw [e1] at h; exact Nat.lt_irrefl _ h
        · exact i1 h.2
      rw [if_neg i1, if_pos i2, if_neg i3, if_pos (Nat.lt_succ_self K), e1, Int.add_zero]
    · have hne : sWithout (sWith s c) K ≠ s := fun h => by
        have h2 : (sWithout (sWith s c) K).testBit c = true := by
          rw [without_bit _ _ _ hw (by omega), with_bit]; simp [e]
        rw [h, hb] at h2; cases h2
      have e2 : (if c < K + 1 then gat T i c * sm T (i + 1) s else 0) = if c < K then gat T i c * sm T (i + 1) s else 0 := by
        by_cases h : c < K
        · rw [if_pos h, if_pos (by omega)]
        · rw [if_neg h, if_neg (by omega)]
      have e3 : ((sWithout (sWith s c) K < s ∨ (sWithout (sWith s c) K = s ∧ K < c + 1)) ↔ (sWithout (sWith s c) K < s ∨ (sWithout (sWith s c) K = s ∧ K < c))) := by
        exact ⟨fun h => h.elim .inl (fun h => absurd h.1 hne), fun h => h.elim .inl (fun h => absurd h.1 hne)⟩
      rw [e2]
      simp only [e3]
      omega
theorem nxL_step {T : List (List Int)} {i s c : Nat} (hl : T.length ≤ 10) (hs : s < 2^T.length) (hc : c < T.length) (hb : s.testBit c = false) :
    (nxL T i s c).set (s + 2^c) (geti (nxL T i s c) (s + 2^c) + gat T i c * sm T (i + 1) s) = nxL T i s (c + 1) := by
  have hp := pow_le10 hl
  rw [with_add hb]
  have hw : sWith s c < 2^T.length := Nat.or_lt_two_pow hs (Nat.pow_lt_pow_right (by omega) hc)
  refine ext_geti (by rw [List.length_set, nxL_len, nxL_len]) (fun t ht => ?_)
  rw [List.length_set, nxL_len] at ht
  rw [geti_set (by rw [nxL_len]; exact hw), nxL_at _ _ _ _ ht, nxL_at _ _ _ _ ht, nxL_at _ _ _ _ hw]
  by_cases e : sWith s c = t
  · subst e
    rw [if_pos rfl, nx_add (by omega) (by omega) hb _ (by omega), if_pos hc]
  · rw [if_neg e]
    refine nx_same (fun k hk hb2 => ?_)
    have : sWithout t k = s → k ≠ c := fun h h2 => by
      subst h2
      exact e (with_without (by omega) (by omega) hb2 h).symm
    constructor
    · rintro (h | ⟨h, h2⟩)
      · exact .inl h
      · exact .inr ⟨h, by omega⟩
    · rintro (h | ⟨h, h2⟩)
      · exact .inl h
      · exact .inr ⟨h, by have := this h; omega⟩
theorem nx_all {T : List (List Int)} {i t : Nat} (ht : t < 2^T.length) : ∀ K, nx T i (2^T.length) 0 t K = prS (sm T (i + 1)) T i t K
  | 0 => rfl
  | K + 1 => by
    unfold nx prS
    rw [nx_all ht K]
    congr 1
    by_cases hb : t.testBit K = true
    · rw [if_pos hb, if_pos ⟨hb, .inl (Nat.lt_of_le_of_lt (without_le _ _) ht)⟩]
    · rw [if_neg hb, if_neg (fun h => hb h.1)]
theorem prS_nil {f : Nat → Int} {L : List (List Int)} {r s : Nat} : ∀ {c : Nat}, (∀ j, j < c → s.testBit j = true → f (sWithout s j) = 0) → prS f L r s c = 0
  | 0, _ => rfl
  | c + 1, h => by
    unfold prS
    rw [prS_nil (fun j hj => h j (by omega))]
    by_cases hb : s.testBit c = true
    · rw [if_pos hb, h c (by omega) hb]; simp
    · rw [if_neg hb]; rfl
theorem nxL_end {T : List (List Int)} (h : IsT T) {i : Nat} (hi : i < T.length) : nxL T i (2^T.length) 0 = smL T i := by
  have hl := h.le
  have hp := pow_le10 hl
  refine ext_geti (by rw [nxL_len, smL_len]) (fun t ht => ?_)
  rw [nxL_len] at ht
  rw [nxL_at _ _ _ _ ht, smL_at _ _ ht, nx_all ht]
  have hpw : ∀ j, j < T.length → t.testBit j = true → pc 16 (sWithout t j) + 1 = pc 16 t := fun j hj hb => pc_without (by omega) (by omega) hb
  unfold sm
  by_cases e : pc 16 t + i = T.length
  · rw [if_pos e]
    have ht0 : t ≠ 0 := fun h0 => by subst h0; rw [pc_zero] at e; omega
    have h10 := prS_top (f := prm T) (L := T) (r := i) (s := t) (n := T.length) ht (10 - T.length)
    rw [show T.length + (10 - T.length) = 10 by omega] at h10
    rw [prm_step T (by omega) ht0, show T.length - pc 16 t = i by omega, h10]
    refine prS_congr (fun j hj hb => ?_)
    have := hpw j hj hb
    rw [if_pos (by omega)]
  · rw [if_neg e]
    refine prS_nil (fun j hj hb => ?_)
    have := hpw j hj hb
    rw [if_neg (by omega)]
theorem smL_top {T : List (List Int)} (h : IsT T) : (List.replicate (2^T.length) 0).set 0 1 = smL T T.length := by
  have hl := h.le
  have hp := pow_le10 hl
  have hp0 := Nat.two_pow_pos T.length
  refine ext_geti (by rw [List.length_set, smL_len]; simp) (fun t ht => ?_)
  rw [List.length_set, List.length_replicate] at ht
  rw [geti_set (by simpa using hp0), smL_at _ _ ht]
  unfold sm
  by_cases e : 0 = t
  · subst e; rw [if_pos rfl, pc_zero, if_pos (by omega), prm_zero]
  · have := pc_pos (s := t) (by omega) (fun h => e h.symm)
    rw [if_neg e, if_neg (by omega)]
    unfold geti; rw [List.getD_eq_getElem?_getD, List.getElem?_replicate, if_pos ht]; rfl
theorem sm_all {T : List (List Int)} (h : IsT T) : sm T 0 (2^T.length - 1) = perm T := by
  have hl := h.le
  unfold sm perm
  have := pc_all (m := T.length) (by omega)
  unfold sAll at this ⊢
  rw [this, if_pos (by omega)]
end Go.Proofs.Ytnnaaoobdofooaa
