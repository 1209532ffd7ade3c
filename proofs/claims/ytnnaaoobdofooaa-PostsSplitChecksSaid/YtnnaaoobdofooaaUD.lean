/- Permanents of turned tables, of tables with rows exchanged, and of sums of rows: mathematics. -/
import Derived.Test.YtnnaaoobdofooaaTN
import Derived.Test.YtnnaaoobdofooaaSL
import Derived.Test.YtnnaaoobdofooaaST
namespace Go.Proofs.Ytnnaaoobdofooaa
open Go.RowKit
set_option maxHeartbeats 1000000
set_option maxRecDepth 100000
theorem sumN_head (g : Nat → Int) : ∀ k, sumN g (k + 1) = g 0 + sumN (fun i => g (i + 1)) k
  | 0 => by show (0 : Int) + g 0 = g 0 + 0; omega
  | k + 1 => by
    show sumN g (k + 1) + g (k + 1) = g 0 + (sumN (fun i => g (i + 1)) k + g (k + 1))
    rw [sumN_head g k]; omega
theorem one_bit {S c : Nat} (hS : S < 65536) (hc : c < 16) (hb : S.testBit c = true) (hp : pc 16 S = 1) (a : Nat) (ha : a ≠ c) : S.testBit a = false := by
  cases h : S.testBit a
  · rfl
  · have ha16 : a < 16 := by
      apply Classical.byContradiction
      intro hno
      have : S.testBit a = false := Nat.testBit_lt_two_pow (Nat.lt_of_lt_of_le hS (by have := Nat.pow_le_pow_right (n := 2) (by omega) (show 16 ≤ a by omega); omega))
      rw [h] at this; cases this
    have h1 := pc_without hS hc hb
    have h2 : (sWithout S c).testBit a = true := by rw [without_bit S c a hS hc, h, decide_eq_false (Ne.symm ha)]; rfl
    have h3 := pc_without (without_lt hS) ha16 h2
    omega
/-- Expanding along a column. -/
theorem pmF_colx : ∀ (m : Nat) (F : Nat → Nat → Int) (S c : Nat), S < 65536 → c < 10 → S.testBit c = true → pc 16 S = m + 1 →
    pmF (m + 1) F S = sumN (fun r => F r c * pmF m (fun i => F (skip r i)) (sWithout S c)) (m + 1)
  | 0, F, S, c, hS, hc, hb, hp => by
    show sumN (fun a => if S.testBit a = true then F 0 a * 1 else 0) 10 = 0 + F 0 c * 1
    have := sumN_upd (g := fun _ => 0) (h := fun a => if S.testBit a = true then F 0 a * 1 else 0) (c := c) (d := F 0 c * 1) (by rw [if_pos hb]; omega) (fun j hj => by
      rw [one_bit hS (by omega) hb hp j hj]; rfl) (n := 10) hc
    rw [this, sumN_zero]
  | m + 1, F, S, c, hS, hc, hb, hp => by
    let P : Nat → Nat → Int := fun r a => pmF m (fun i => F (skip r i + 1)) (sWithout (sWithout S c) a)
    let A' : Nat → Int := fun a => if (sWithout S c).testBit a = true then F 0 a * sumN (fun r => F (r + 1) c * P r a) (m + 1) else 0
    let B0 : Int := F 0 c * pmF (m + 1) (fun i => F (i + 1)) (sWithout S c)
    have hL : pmF (m + 1 + 1) F S = sumN A' 10 + B0 := by
      show sumN (fun a => if S.testBit a = true then F 0 a * pmF (m + 1) (fun i => F (i + 1)) (sWithout S a) else 0) 10 = _
      refine sumN_upd (g := A') (c := c) (d := B0) ?_ (fun j hj => ?_) hc
      · rw [if_pos hb]
        show B0 = (if (sWithout S c).testBit c = true then _ else 0) + B0
        rw [if_neg (by rw [without_bit S c c hS (by omega)]; simp)]; omega
      · show _ = if (sWithout S c).testBit j = true then _ else 0
        by_cases hj16 : j < 16
        · rw [without_bit S c j hS (by omega), decide_eq_false (Ne.symm hj)]
          cases hbj : S.testBit j
          · simp
          · simp only [if_true, Bool.not_false, Bool.and_true]
            congr 1
            have hpj := pc_without hS hj16 hbj
            rw [pmF_colx m (fun i => F (i + 1)) (sWithout S j) c (without_lt hS) hc (by rw [without_bit S j c hS hj16, hb, decide_eq_false hj]; rfl) (by omega)]
            refine sumN_congr (fun r _ => ?_)
            show F (r + 1) c * pmF m (fun i => F (skip r i + 1)) (sWithout (sWithout S j) c) = F (r + 1) c * pmF m (fun i => F (skip r i + 1)) (sWithout (sWithout S c) j)
            rw [without_comm S j c]
        · have hlow : 65536 ≤ 2 ^ j := by have := Nat.pow_le_pow_right (n := 2) (by omega) (show 16 ≤ j by omega); omega
          rw [Nat.testBit_lt_two_pow (Nat.lt_of_lt_of_le hS hlow), Nat.testBit_lt_two_pow (Nat.lt_of_lt_of_le (without_lt hS) hlow)]
          simp
    have hR : sumN (fun r => F r c * pmF (m + 1) (fun i => F (skip r i)) (sWithout S c)) (m + 1 + 1) = B0 + sumN A' 10 := by
      rw [sumN_head]
      have e00 : (fun i => F (skip 0 i)) = fun i => F (i + 1) := funext fun i => by rw [skip_zero]
      rw [e00]
      show B0 + _ = _
      congr 1
      · have h1 : sumN (fun r => F (r + 1) c * pmF (m + 1) (fun i => F (skip (r + 1) i)) (sWithout S c)) (m + 1) = sumN (fun r => sumN (fun a => if (sWithout S c).testBit a = true then F 0 a * (F (r + 1) c * P r a) else 0) 10) (m + 1) := by
          refine sumN_congr (fun r _ => ?_)
          show F (r + 1) c * sumN (fun a => if (sWithout S c).testBit a = true then F (skip (r + 1) 0) a * pmF m (fun i => F (skip (r + 1) (i + 1))) (sWithout (sWithout S c) a) else 0) 10 = _
          rw [sumN_mul]
          refine sumN_congr (fun a _ => ?_)
          have e0 : (fun i => F (skip (r + 1) (i + 1))) = fun i => F (skip r i + 1) := funext fun i => by rw [skip_succ]
          rw [e0, skip_first]
          split
          · rw [Int.mul_left_comm]
          · rw [Int.mul_zero]
        rw [h1, sumN_swap]
        refine sumN_congr (fun a _ => ?_)
        show sumN (fun r => if (sWithout S c).testBit a = true then F 0 a * (F (r + 1) c * P r a) else 0) (m + 1) = if (sWithout S c).testBit a = true then F 0 a * sumN (fun r => F (r + 1) c * P r a) (m + 1) else 0
        split
        · rw [sumN_mul]
        · rw [sumN_zero]
    rw [hL, hR]; omega
theorem wo_pmF {L : List (List Int)} (h : IsT L) {r c m : Nat} (hr : r < L.length) (hc : c < L.length) (hm : L.length = m + 1) : perm (wo L r c) = pmF m (fun i k => gat L (skip r i) k) (sWithout (sAll L.length) c) := by
  have hl := h.le
  have hS : sAll L.length < 1024 := by
    have : 2^L.length ≤ 2^10 := Nat.pow_le_pow_right (by omega) hl
    have h1 := Nat.two_pow_pos L.length
    unfold sAll; omega
  rw [perm_pmF (wo_isT h hr hc), wo_len c hr, show L.length - 1 = m by omega]
  rw [pmF_col (c := c) (by omega) m (fun i c => gat L (skip r i) c) (sWithout (sAll L.length) c) (sAll m) (Nat.lt_of_le_of_lt (without_le _ _) hS) (by
    have : 2^m ≤ 2^10 := Nat.pow_le_pow_right (by omega) (by omega)
    have h1 := Nat.two_pow_pos m
    unfold sAll; omega) (by rw [without_bit _ _ _ (by omega) (by omega)]; simp) (fun k => by
    by_cases hk : k < 15
    · have hs : skip c k < 16 := by unfold skip; split <;> omega
      rw [without_bit _ _ _ (by omega) (by omega), all_bit, all_bit, Bool.eq_iff_iff]
      simp only [Bool.and_eq_true, Bool.not_eq_true', decide_eq_true_eq, decide_eq_false_iff_not]
      unfold skip
      split <;> omega
    · rw [without_bit _ _ _ (by omega) (by omega), all_bit, all_bit, decide_eq_false (by omega), decide_eq_false (by unfold skip; split <;> omega)]; rfl)]
  exact pmF_congr m (fun i k hi _ => wo_gat h hr hc (by omega) k)
theorem perm_col0 {L : List (List Int)} (h : IsT L) (h0 : 0 < L.length) : perm L = sumN (fun r => gat L r 0 * perm (wo L r 0)) L.length := by
  have hl := h.le
  obtain ⟨m, hm⟩ : ∃ m, L.length = m + 1 := ⟨L.length - 1, by omega⟩
  rw [perm_pmF h, hm, pmF_colx m _ (sAll (m + 1)) 0 (all_lt (by omega)) (by omega) (by rw [all_bit]; simp) (pc_all (by omega))]
  refine sumN_congr (fun r hr => ?_)
  try dsimp only
  rw [wo_pmF h (by omega) (by omega) hm, hm]
theorem isT_ext {A B : List (List Int)} (hA : IsT A) (hB : IsT B) (hl : A.length = B.length) (h : ∀ i k, i < A.length → k < A.length → gat A i k = gat B i k) : A = B := by
  refine List.ext_getElem hl (fun a h1 h2 => ?_)
  have e1 : A[a] = getl A a := by unfold getl; rw [List.getD_eq_getElem?_getD, List.getElem?_eq_getElem h1]; rfl
  have e2 : B[a] = getl B a := by unfold getl; rw [List.getD_eq_getElem?_getD, List.getElem?_eq_getElem h2]; rfl
  rw [e1, e2]
  refine ext_geti (by rw [hA.row a h1, hB.row a h2, hl]) (fun b hb => ?_)
  rw [hA.row a h1] at hb
  exact h a b h1 hb
/-- Exchanging rows with columns does not change the permanent. -/
theorem perm_turn : ∀ (n : Nat) (T : List (List Int)), IsT T → T.length = n → perm (trL T) = perm T
  | 0, T, _, hn => by
    obtain rfl : T = [] := List.eq_nil_of_length_eq_zero hn
    rfl
  | n + 1, T, h, hn => by
    have ht := trL_isT h
    have hl : (trL T).length = T.length := trP_len T T.length
    rw [perm_row ht (r := 0) (by omega), perm_col0 h (by omega), hl]
    refine sumN_congr (fun c hc => ?_)
    try dsimp only
    rw [trL_gat (by omega) hc]
    congr 1
    have hw := wo_isT h (r := c) (c := 0) hc (by omega)
    have hwl := wo_len (L := T) (r := c) 0 hc
    have e : wo (trL T) 0 c = trL (wo T c 0) := by
      refine isT_ext (wo_isT ht (by omega) (by omega)) (trL_isT hw) (by rw [wo_len c (by omega), hl, trP_len, hwl]) (fun i k hi hk => ?_)
      rw [wo_len c (by omega), hl] at hi hk
      have hs1 : skip c k < T.length := by unfold skip; split <;> omega
      have hs2 : skip 0 i < T.length := by unfold skip; split <;> omega
      rw [wo_gat ht (by omega) (by omega) (by omega), trL_gat hs2 hs1, trL_gat (by omega) (by omega), wo_gat h hc (by omega) (by omega)]
    rw [e]
    exact perm_turn n (wo T c 0) hw (by omega)
/-- Expanding along two rows. -/
theorem pmF_two {i k m : Nat} (F : Nat → Nat → Int) (S : Nat) (hik : i < k) (hk : k ≤ m + 1) (hS : S < 65536) :
    pmF (m + 1 + 1) F S = sumN (fun a => sumN (fun b => if S.testBit a = true ∧ S.testBit b = true ∧ a ≠ b then F i a * (F k b * pmF m (fun q => F (skip i (skip (k - 1) q))) (sWithout (sWithout S a) b)) else 0) 10) 10 := by
  rw [pmF_row i (m + 1) F S (by omega) hS]
  refine sumN_congr (fun a ha => ?_)
  try dsimp only
  by_cases hb : S.testBit a = true
  · rw [if_pos hb, pmF_row (k - 1) m (fun q => F (skip i q)) (sWithout S a) (by omega) (without_lt hS), sumN_mul]
    refine sumN_congr (fun b hb2 => ?_)
    try dsimp only
    have hw := without_bit S a b hS (by omega)
    have e : skip i (k - 1) = k := by unfold skip; rw [if_neg (by omega)]; omega
    rw [e]
    by_cases h2 : S.testBit b = true ∧ a ≠ b
    · rw [if_pos (by rw [hw, h2.1, decide_eq_false h2.2]; rfl), if_pos ⟨hb, h2.1, h2.2⟩]
    · rw [if_neg (fun h3 => h2 (by
        rw [hw] at h3
        simp only [Bool.and_eq_true, Bool.not_eq_true', decide_eq_false_iff_not] at h3
        exact h3)), if_neg (fun h3 => h2 h3.2), Int.mul_zero]
  · rw [if_neg hb]
    rw [sumN_congr (h := fun _ => 0) (fun b _ => by rw [if_neg (fun h3 => hb h3.1)]), sumN_zero]
theorem pmF_swap {i k m : Nat} {F G : Nat → Nat → Int} {S : Nat} (hik : i < k) (hk : k ≤ m + 1) (hS : S < 65536) (h1 : ∀ c, G i c = F k c) (h2 : ∀ c, G k c = F i c) (h3 : ∀ q, q ≠ i → q ≠ k → G q = F q) : pmF (m + 1 + 1) G S = pmF (m + 1 + 1) F S := by
  rw [pmF_two G S hik hk hS, pmF_two F S hik hk hS, sumN_swap]
  refine sumN_congr (fun b _ => sumN_congr (fun a _ => ?_))
  try dsimp only
  have e : (fun q => G (skip i (skip (k - 1) q))) = fun q => F (skip i (skip (k - 1) q)) := funext fun q => by
    refine h3 _ ?_ ?_ <;> (unfold skip; split <;> split <;> omega)
  rw [e, h1, h2, without_comm S a b]
  by_cases hx : S.testBit a = true ∧ S.testBit b = true ∧ a ≠ b
  · rw [if_pos hx, if_pos ⟨hx.2.1, hx.1, hx.2.2.symm⟩, Int.mul_left_comm]
  · rw [if_neg hx, if_neg (fun h => hx ⟨h.2.1, h.1, h.2.2.symm⟩)]
theorem perm_swap {T Y : List (List Int)} (hT : IsT T) (hY : IsT Y) (hl : Y.length = T.length) {i k : Nat} (hi : i < T.length) (hk : k < T.length) (hne : i ≠ k)
    (h1 : ∀ c, c < T.length → gat Y i c = gat T k c) (h2 : ∀ c, c < T.length → gat Y k c = gat T i c) (h3 : ∀ q c, q < T.length → c < T.length → q ≠ i → q ≠ k → gat Y q c = gat T q c) : perm Y = perm T := by
  have hle := hT.le
  obtain ⟨m, hm⟩ : ∃ m, T.length = m + 1 + 1 := ⟨T.length - 2, by omega⟩
  have ex : ∀ a b, (b < T.length → gat Y a b = gat T (if a = i then k else if a = k then i else a) b) → gat Y a b = gat T (if a = i then k else if a = k then i else a) b := fun a b h => by
    by_cases hb : b < T.length
    · exact h hb
    · rw [hY.zero (Or.inr (by omega)), hT.zero (Or.inr (by omega))]
  have all : ∀ a b, gat Y a b = gat T (if a = i then k else if a = k then i else a) b := fun a b => ex a b (fun hb => by
    by_cases e1 : a = i
    · subst e1; rw [if_pos rfl]; exact h1 b hb
    · rw [if_neg e1]
      by_cases e2 : a = k
      · subst e2; rw [if_pos rfl]; exact h2 b hb
      · rw [if_neg e2]
        by_cases ha : a < T.length
        · exact h3 a b ha hb e1 e2
        · rw [hY.zero (Or.inl (by omega)), hT.zero (Or.inl (by omega))])
  rw [perm_pmF hY, perm_pmF hT, hl, hm]
  have hS := all_lt (m := m + 1 + 1) (by omega)
  rcases Nat.lt_or_gt_of_ne hne with e | e
  · exact pmF_swap e (by omega) hS (fun c => by rw [all, if_pos rfl]) (fun c => by rw [all, if_neg (by omega), if_pos rfl]) (fun q e1 e2 => funext fun c => by rw [all, if_neg e1, if_neg e2])
  · exact pmF_swap e (by omega) hS (fun c => by rw [all, if_neg (by omega), if_pos rfl]) (fun c => by rw [all, if_pos rfl]) (fun q e1 e2 => funext fun c => by rw [all, if_neg e2, if_neg e1])
theorem perm_add {T A E : List (List Int)} (hT : IsT T) (hA : IsT A) (hE : IsT E) (hla : A.length = T.length) (hle : E.length = T.length) {i : Nat} (hi : i < T.length)
    (h1 : ∀ c, gat A i c = gat T i c + gat E i c) (h2 : ∀ q c, q ≠ i → gat A q c = gat T q c) (h3 : ∀ q c, q ≠ i → gat E q c = gat T q c) : perm A = perm T + perm E := by
  have hl := hT.le
  obtain ⟨m, hm⟩ : ∃ m, T.length = m + 1 := ⟨T.length - 1, by omega⟩
  have hS := all_lt (m := m + 1) (by omega)
  rw [perm_pmF hA, perm_pmF hT, perm_pmF hE, hla, hle, hm, pmF_row i m _ _ (by omega) hS, pmF_row i m (fun i c => gat T i c) _ (by omega) hS, pmF_row i m (fun i c => gat E i c) _ (by omega) hS, ← sumN_add]
  refine sumN_congr (fun c _ => ?_)
  have hne : ∀ q, skip i q ≠ i := fun q => by unfold skip; split <;> omega
  have e1 : (fun q c => gat A (skip i q) c) = fun q c => gat T (skip i q) c := funext fun q => funext fun c => h2 _ _ (hne q)
  have e2 : (fun q c => gat E (skip i q) c) = fun q c => gat T (skip i q) c := funext fun q => funext fun c => h3 _ _ (hne q)
  have e1' : (fun q => (fun i c => gat A i c) (skip i q)) = fun q => (fun i c => gat T i c) (skip i q) := e1
  have e2' : (fun q => (fun i c => gat E i c) (skip i q)) = fun q => (fun i c => gat T i c) (skip i q) := e2
  dsimp only at e1' e2' ⊢
  rw [e1', e2', h1]
  split
  · rw [Int.add_mul]
  · rfl
end Go.Proofs.Ytnnaaoobdofooaa
