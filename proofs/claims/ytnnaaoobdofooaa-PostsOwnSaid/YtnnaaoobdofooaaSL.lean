/- A permanent is the sum over a row: mathematics. -/
import Derived.Test.YtnnaaoobdofooaaRU
namespace Go.Proofs.Ytnnaaoobdofooaa
open Go.RowKit
set_option maxHeartbeats 1000000
set_option maxRecDepth 100000
def sumN (g : Nat → Int) : Nat → Int
  | 0 => 0
  | k + 1 => sumN g k + g k
/-- All numbers but one. -/
def skip (r i : Nat) : Nat := if i < r then i else i + 1
/-- The permanent of so many rows and a set of columns. -/
def pmF : Nat → (Nat → Nat → Int) → Nat → Int
  | 0, _, _ => 1
  | m + 1, F, S => sumN (fun c => if S.testBit c = true then F 0 c * pmF m (fun i => F (i + 1)) (sWithout S c) else 0) 10
theorem sumN_congr {g h : Nat → Int} : ∀ {k : Nat}, (∀ c, c < k → g c = h c) → sumN g k = sumN h k
  | 0, _ => rfl
  | k + 1, e => by
    show sumN g k + g k = sumN h k + h k
    rw [sumN_congr (fun c hc => e c (by omega)), e k (by omega)]
theorem sumN_mul (a : Int) (g : Nat → Int) : ∀ k, a * sumN g k = sumN (fun c => a * g c) k
  | 0 => by simp [sumN]
  | k + 1 => by
    show a * (sumN g k + g k) = sumN (fun c => a * g c) k + a * g k
    rw [Int.mul_add, sumN_mul a g k]
theorem sumN_add (g h : Nat → Int) : ∀ k, sumN (fun c => g c + h c) k = sumN g k + sumN h k
  | 0 => rfl
  | k + 1 => by
    show sumN (fun c => g c + h c) k + (g k + h k) = (sumN g k + g k) + (sumN h k + h k)
    rw [sumN_add g h k]; omega
theorem sumN_zero : ∀ k, sumN (fun _ => 0) k = 0
  | 0 => rfl
  | k + 1 => by
    show sumN (fun _ => 0) k + 0 = 0
    rw [sumN_zero k]; rfl
theorem sumN_swap (t : Nat → Nat → Int) (n : Nat) : ∀ k, sumN (fun a => sumN (fun b => t a b) n) k = sumN (fun b => sumN (fun a => t a b) k) n
  | 0 => (sumN_zero n).symm
  | k + 1 => by
    show sumN (fun a => sumN (fun b => t a b) n) k + sumN (fun b => t k b) n = sumN (fun b => sumN (fun a => t a b) k + t k b) n
    rw [sumN_swap t n k, sumN_add]
theorem sumN_skip {g : Nat → Int} {c : Nat} (hg : g c = 0) : ∀ {m : Nat}, c ≤ m → sumN g (m + 1) = sumN (fun k => g (skip c k)) m
  | 0, h => by
    obtain rfl : c = 0 := by omega
    show 0 + g 0 = 0
    rw [hg]; rfl
  | m + 1, h => by
    by_cases e : c = m + 1
    · subst e
      show sumN g (m + 1) + g (m + 1) = _
      rw [hg, Int.add_zero]
      exact sumN_congr (fun k hk => by unfold skip; rw [if_pos hk])
    · show sumN g (m + 1) + g (m + 1) = sumN (fun k => g (skip c k)) m + g (skip c m)
      rw [sumN_skip hg (show c ≤ m by omega)]
      congr 2
      unfold skip; rw [if_neg (by omega)]
theorem without_comm (S a b : Nat) : sWithout (sWithout S a) b = sWithout (sWithout S b) a := by
  unfold sWithout
  rw [Nat.and_assoc, Nat.and_assoc, Nat.and_comm (65535 - 2^a)]
theorem pmF_congr : ∀ (m : Nat) {F G : Nat → Nat → Int} {S : Nat}, (∀ i c, i < m → c < 10 → F i c = G i c) → pmF m F S = pmF m G S
  | 0, _, _, _, _ => rfl
  | m + 1, F, G, S, h => by
    unfold pmF
    refine sumN_congr (fun c hc => ?_)
    rw [h 0 c (by omega) hc, pmF_congr m (S := sWithout S c) (fun i c hi hc => h (i + 1) c (by omega) hc)]
theorem skip_zero (i : Nat) : skip 0 i = i + 1 := by unfold skip; rw [if_neg (by omega)]
theorem skip_succ (r i : Nat) : skip (r + 1) (i + 1) = skip r i + 1 := by
  unfold skip
  by_cases h : i < r
  · rw [if_pos h, if_pos (by omega)]
  · rw [if_neg h, if_neg (by omega)]
theorem skip_first (r : Nat) : skip (r + 1) 0 = 0 := by unfold skip; rw [if_pos (by omega)]
/-- Expanding along any row. -/
theorem pmF_row : ∀ (r m : Nat) (F : Nat → Nat → Int) (S : Nat), r ≤ m → S < 65536 →
    pmF (m + 1) F S = sumN (fun c => if S.testBit c = true then F r c * pmF m (fun i => F (skip r i)) (sWithout S c) else 0) 10
  | 0, m, F, S, _, _ => by
    show sumN _ 10 = _
    refine sumN_congr (fun c _ => ?_)
    have e : (fun i => F (skip 0 i)) = fun i => F (i + 1) := funext fun i => by rw [skip_zero]
    rw [e]
  | r + 1, 0, _, _, h, _ => absurd h (by omega)
  | r + 1, m + 1, F, S, h, hS => by
    let t : Nat → Nat → Int := fun a b => if S.testBit a = true ∧ S.testBit b = true ∧ a ≠ b then F 0 a * (F (r + 1) b * pmF m (fun i => F (skip r i + 1)) (sWithout (sWithout S a) b)) else 0
    have hl : pmF (m + 1 + 1) F S = sumN (fun a => sumN (fun b => t a b) 10) 10 := by
      show sumN (fun c => if S.testBit c = true then F 0 c * pmF (m + 1) (fun i => F (i + 1)) (sWithout S c) else 0) 10 = _
      refine sumN_congr (fun a ha => ?_)
      by_cases hb : S.testBit a = true
      · rw [if_pos hb, pmF_row r m (fun i => F (i + 1)) (sWithout S a) (by omega) (without_lt hS), sumN_mul]
        refine sumN_congr (fun b hb2 => ?_)
        show F 0 a * (if (sWithout S a).testBit b = true then F (r + 1) b * pmF m (fun i => F (skip r i + 1)) (sWithout (sWithout S a) b) else 0) = t a b
        have hw := without_bit S a b hS (by omega)
        by_cases h2 : S.testBit b = true ∧ a ≠ b
        · have e1 : (sWithout S a).testBit b = true := by rw [hw, h2.1, decide_eq_false h2.2]; rfl
          rw [if_pos e1]
          show _ = if _ then _ else _
          rw [if_pos ⟨hb, h2.1, h2.2⟩]
        · have e1 : ¬ (sWithout S a).testBit b = true := fun h3 => h2 (by
            rw [hw] at h3
            simp only [Bool.and_eq_true, Bool.not_eq_true', decide_eq_false_iff_not] at h3
            exact h3)
          rw [if_neg e1, Int.mul_zero]
          show _ = if _ then _ else _
          rw [if_neg (fun h3 => h2 h3.2)]
      · rw [if_neg hb]
        rw [sumN_congr (h := fun _ => 0) (fun b _ => by show (if _ then _ else _) = _; rw [if_neg (fun h3 => hb h3.1)]), sumN_zero]
    have hr : sumN (fun c => if S.testBit c = true then F (r + 1) c * pmF (m + 1) (fun i => F (skip (r + 1) i)) (sWithout S c) else 0) 10 = sumN (fun b => sumN (fun a => t a b) 10) 10 := by
      refine sumN_congr (fun b hb1 => ?_)
      by_cases hb : S.testBit b = true
      · rw [if_pos hb]
        show F (r + 1) b * sumN (fun c => if (sWithout S b).testBit c = true then F (skip (r + 1) 0) c * pmF m (fun i => F (skip (r + 1) (i + 1))) (sWithout (sWithout S b) c) else 0) 10 = _
        rw [sumN_mul]
        refine sumN_congr (fun a ha => ?_)
        have e0 : (fun i => F (skip (r + 1) (i + 1))) = fun i => F (skip r i + 1) := funext fun i => by rw [skip_succ]
        rw [e0, skip_first]
        have hw := without_bit S b a hS (by omega)
        by_cases h2 : S.testBit a = true ∧ a ≠ b
        · have e1 : (sWithout S b).testBit a = true := by rw [hw, h2.1, decide_eq_false (fun h => h2.2 h.symm)]; rfl
          rw [if_pos e1]
          show _ = if _ then _ else _
          rw [if_pos ⟨h2.1, hb, h2.2⟩, without_comm S b a, Int.mul_left_comm]
        · have e1 : ¬ (sWithout S b).testBit a = true := fun h3 => h2 (by
            rw [hw] at h3
            simp only [Bool.and_eq_true, Bool.not_eq_true', decide_eq_false_iff_not] at h3
            exact ⟨h3.1, fun h => h3.2 h.symm⟩)
          rw [if_neg e1, Int.mul_zero]
          show _ = if _ then _ else _
          rw [if_neg (fun h3 => h2 ⟨h3.1, h3.2.2⟩)]
      · rw [if_neg hb]
        rw [sumN_congr (h := fun _ => 0) (fun a _ => by show (if _ then _ else _) = _; rw [if_neg (fun h3 => hb h3.2.1)]), sumN_zero]
    rw [hl, hr, sumN_swap]
/-- A column that no set has may be left out. -/
theorem pmF_col {c : Nat} (hc : c ≤ 9) : ∀ (m : Nat) (F : Nat → Nat → Int) (S T : Nat), S < 1024 → T < 1024 → S.testBit c = false → (∀ k, T.testBit k = S.testBit (skip c k)) →
    pmF m F S = pmF m (fun i k => F i (skip c k)) T
  | 0, _, _, _, _, _, _, _ => rfl
  | m + 1, F, S, T, hS, hT, hb, h => by
    show sumN _ 10 = sumN _ 10
    rw [show (10 : Nat) = 9 + 1 from rfl, sumN_skip (c := c) (by rw [if_neg (by rw [hb]; simp)]) hc]
    show _ = sumN _ 9 + (if T.testBit 9 = true then _ else _)
    have h10 : T.testBit 9 = false := by
      rw [h 9]
      have : skip c 9 = 10 := by unfold skip; rw [if_neg (by omega)]
      rw [this]
      exact Nat.testBit_lt_two_pow (show S < 2^10 from hS)
    rw [if_neg (by rw [h10]; simp), Int.add_zero]
    refine sumN_congr (fun k hk => ?_)
    dsimp only
    rw [← h k]
    by_cases hk2 : T.testBit k = true
    · rw [if_pos hk2, if_pos hk2]
      congr 1
      have hs10 : skip c k < 16 := by unfold skip; split <;> omega
      refine pmF_col hc m (fun i => F (i + 1)) _ _ (Nat.lt_of_le_of_lt (without_le _ _) hS) (Nat.lt_of_le_of_lt (without_le _ _) hT) ?_ ?_
      · rw [without_bit S _ _ (by omega) hs10, hb]; rfl
      · intro j
        rw [without_bit T _ _ (by omega) (by omega), without_bit S _ _ (by omega) hs10, h j]
        congr 2
        rw [Bool.eq_iff_iff]
        simp only [decide_eq_true_eq]
        unfold skip
        split <;> split <;> omega
    · rw [if_neg hk2, if_neg hk2]
theorem prS_sum (f : Nat → Int) (L : List (List Int)) (r s : Nat) : ∀ c, prS f L r s c = sumN (fun c => if s.testBit c = true then gat L r c * f (sWithout s c) else 0) c
  | 0 => rfl
  | c + 1 => by
    show prS f L r s c + _ = sumN _ c + _
    rw [prS_sum f L r s c]
theorem pr_pmF (L : List (List Int)) : ∀ (k s : Nat), k ≤ L.length → pr L k s = pmF k (fun i c => gat L (L.length - k + i) c) s
  | 0, _, _ => rfl
  | k + 1, s, hk => by
    show prS (pr L k) L (L.length - (k + 1)) s 10 = sumN _ 10
    rw [prS_sum]
    refine sumN_congr (fun c _ => ?_)
    rw [pr_pmF L k (sWithout s c) (by omega)]
    have e : (fun i c => gat L (L.length - (k + 1) + (i + 1)) c) = fun i c => gat L (L.length - k + i) c := funext fun i => by rw [show L.length - (k + 1) + (i + 1) = L.length - k + i by omega]
    dsimp only
    rw [e]
    rfl
theorem perm_pmF {L : List (List Int)} (h : IsT L) : perm L = pmF L.length (fun i c => gat L i c) (sAll L.length) := by
  have hl := h.le
  unfold perm prm
  rw [pc_all (by omega), pr_pmF L _ _ (Nat.le_refl _)]
  have e : (fun i c => gat L (L.length - L.length + i) c) = fun i c => gat L i c := funext fun i => by rw [Nat.sub_self, Nat.zero_add]
  rw [e]
theorem flt_low (r : Nat) : ∀ k, k ≤ r → (List.range k).filter (fun i => decide (i ≠ r)) = (List.range k).map (skip r)
  | 0, _ => rfl
  | k + 1, h => by
    have h1 : decide (k ≠ r) = true := decide_eq_true (by omega)
    have h2 : skip r k = k := by unfold skip; rw [if_pos (by omega)]
    rw [List.range_succ, List.filter_append, flt_low r k (by omega), List.map_append]
    congr 1
    rw [List.filter_cons_of_pos (p := fun i => decide (i ≠ r)) h1, List.filter_nil, List.map_cons, List.map_nil, h2]
theorem flt_skip (r : Nat) : ∀ d, (List.range (r + 1 + d)).filter (fun i => decide (i ≠ r)) = (List.range (r + d)).map (skip r)
  | 0 => by
    rw [Nat.add_zero, Nat.add_zero, List.range_succ, List.filter_append, flt_low r r (Nat.le_refl r)]
    simp
  | d + 1 => by
    have h1 : decide (r + 1 + d ≠ r) = true := decide_eq_true (by omega)
    have h2 : skip r (r + d) = r + 1 + d := by unfold skip; rw [if_neg (by omega)]; omega
    rw [← Nat.add_assoc, ← Nat.add_assoc, List.range_succ, List.filter_append, flt_skip r d, List.range_succ, List.map_append]
    congr 1
    rw [List.filter_cons_of_pos (p := fun i => decide (i ≠ r)) h1, List.filter_nil, List.map_cons, List.map_nil, h2]
theorem wo_eq {L : List (List Int)} {r : Nat} (c : Nat) (hr : r < L.length) : wo L r c = (List.range (L.length - 1)).map fun i => woR (getl L (skip r i)) c := by
  show woL L r c L.length = _
  unfold woL
  have := flt_skip r (L.length - (r + 1))
  rw [show r + 1 + (L.length - (r + 1)) = L.length by omega, show r + (L.length - (r + 1)) = L.length - 1 by omega] at this
  rw [this, List.map_map]; rfl
theorem wo_len {L : List (List Int)} {r : Nat} (c : Nat) (hr : r < L.length) : (wo L r c).length = L.length - 1 := by rw [wo_eq c hr]; simp
theorem wo_row {L : List (List Int)} {r : Nat} (c : Nat) (hr : r < L.length) {i : Nat} (hi : i < L.length - 1) : getl (wo L r c) i = woR (getl L (skip r i)) c := by
  rw [wo_eq c hr]
  unfold getl
  rw [List.getD_eq_getElem?_getD, List.getElem?_map, List.getElem?_range hi]; rfl
theorem woR_len {l : List Int} {c : Nat} (h : c < l.length) : (woR l c).length = l.length - 1 := by
  unfold woR; rw [List.length_append, List.length_take, List.length_drop]; omega
theorem woR_at {l : List Int} {c : Nat} (h : c < l.length) (k : Nat) : geti (woR l c) k = geti l (skip c k) := by
  unfold geti woR skip
  rw [List.getD_eq_getElem?_getD, List.getD_eq_getElem?_getD, List.getElem?_append]
  by_cases h1 : k < c
  · rw [if_pos (by rw [List.length_take]; omega), if_pos h1, List.getElem?_take, if_pos h1]
  · rw [if_neg (by rw [List.length_take]; omega), if_neg h1, List.getElem?_drop, List.length_take]
    congr 2
    omega
theorem wo_gat {L : List (List Int)} (h : IsT L) {r c : Nat} (hr : r < L.length) (hc : c < L.length) {i : Nat} (hi : i < L.length - 1) (k : Nat) : gat (wo L r c) i k = gat L (skip r i) (skip c k) := by
  have hs : skip r i < L.length := by unfold skip; split <;> omega
  unfold gat
  rw [wo_row c hr hi, woR_at (by rw [h.row _ hs]; exact hc)]
theorem wo_isT {L : List (List Int)} (h : IsT L) {r c : Nat} (hr : r < L.length) (hc : c < L.length) : IsT (wo L r c) := okT_iff.1 (okT_all (by rw [wo_len c hr]; have := h.le; omega) (fun i hi => by
  rw [wo_len c hr] at hi ⊢
  have hs : skip r i < L.length := by unfold skip; split <;> omega
  refine ⟨by rw [wo_row c hr hi, woR_len (by rw [h.row _ hs]; exact hc), h.row _ hs], fun k hk => ?_⟩
  rw [wo_gat h hr hc hi]
  exact h.bd _ _))
/-- The permanent is the sum over any row. -/
theorem perm_row {L : List (List Int)} (h : IsT L) {r : Nat} (hr : r < L.length) : perm L = sumN (fun c => gat L r c * perm (wo L r c)) L.length := by
  have hl := h.le
  obtain ⟨m, hm⟩ : ∃ m, L.length = m + 1 := ⟨L.length - 1, by omega⟩
  have hS : sAll L.length < 1024 := by
    have : 2^L.length ≤ 2^10 := Nat.pow_le_pow_right (by omega) hl
    have h1 := Nat.two_pow_pos L.length
    unfold sAll; omega
  rw [perm_pmF h, hm, pmF_row r m _ _ (by omega) (by rw [← hm]; omega), ← hm]
  have htop : ∀ d, sumN (fun c => if (sAll L.length).testBit c = true then gat L r c * pmF m (fun i c => gat L (skip r i) c) (sWithout (sAll L.length) c) else 0) (L.length + d) = sumN (fun c => gat L r c * perm (wo L r c)) L.length := fun d => by
    induction d with
    | zero =>
      refine sumN_congr (fun c hc => ?_)
      rw [if_pos (by rw [all_bit]; exact decide_eq_true hc)]
      congr 1
      rw [perm_pmF (wo_isT h hr hc), wo_len c hr, show L.length - 1 = m by omega]
      rw [pmF_col (c := c) (by omega) m (fun i c => gat L (skip r i) c) (sWithout (sAll L.length) c) (sAll m) (Nat.lt_of_le_of_lt (without_le _ _) hS) (by
        have : 2^m ≤ 2^10 := Nat.pow_le_pow_right (by omega) (by omega)
        have h1 := Nat.two_pow_pos m
        unfold sAll; omega) (by rw [without_bit _ _ _ (by omega) (by omega)]; simp) (fun k => by
        by_cases hk : k < 15
        · have hs : skip c k < 16 := by unfold skip; split <;> omega
          rw [without_bit _ _ _ (by omega) (by omega), all_bit, all_bit, Bool.eq_iff_iff]
          simp only [Bool.and_eq_true, Bool.not_eq_true', decide_eq_true_eq, decide_eq_false_iff_not]
          unfold skip
          split <;> omega
        · rw [without_bit _ _ _ (by omega) (by omega), all_bit, all_bit, decide_eq_false (by omega), decide_eq_false (by unfold skip; split <;> omega)]; rfl)]
      exact (pmF_congr m (fun i k hi _ => wo_gat h hr hc (by omega) k)).symm
    | succ d ih =>
      rw [← Nat.add_assoc]
      show sumN _ (L.length + d) + (if (sAll L.length).testBit (L.length + d) = true then _ else _) = _
      rw [ih, if_neg (by rw [all_bit]; simp), Int.add_zero]
  have := htop (10 - L.length)
  rwa [show L.length + (10 - L.length) = 10 by omega] at this
end Go.Proofs.Ytnnaaoobdofooaa
