/- The counts of orders add up, and are the same from both ends. -/
import Derived.Test.YtheblebfeinjjaaNT
namespace Go.Proofs.Ytheblebfeinjjaa
open Go.RowKit
set_option maxRecDepth 100000
theorem sum_zero : ∀ {Z : List Nat}, (∀ x ∈ Z, x = 0) → Z.sum = 0
  | [], _ => rfl
  | x :: t, h => by
    rw [List.sum_cons, h x (List.mem_cons_self ..), sum_zero (fun y hy => h y (List.mem_cons_of_mem _ hy))]
theorem take_all {Z : List Nat} {s : Nat} (hS : Sup Z s) {K : Nat} (hK : s < K) : (Z.take K).sum = Z.sum := by
  have h : (Z.take K ++ Z.drop K).sum = Z.sum := by rw [List.take_append_drop]
  have h0 : (Z.drop K).sum = 0 := by
    refine sum_zero (fun x hx => ?_)
    obtain ⟨i, hi, rfl⟩ := List.getElem_of_mem hx
    rw [List.getElem_drop]
    rw [List.length_drop] at hi
    have := hS (K + i) (by omega)
    rwa [getn_eq (by omega)] at this
  rw [List.sum_append] at h
  omega
/-- A test of all rows, one after the other. -/
def chk (m : Nat → Nat → Nat) (P : Nat → List Nat → Bool) : Nat → Nat → List Nat → Bool
  | 0, n, Z => P n Z
  | f + 1, n, Z => P n Z && chk m P f (n + 1) (lon m n Z)
theorem chk_all {m : Nat → Nat → Nat} {P : Nat → List Nat → Bool} : ∀ (f n : Nat), chk m P f n (rowN m n) = true → ∀ i, i ≤ f → P (n + i) (rowN m (n + i)) = true
  | 0, n, h, i, hi => by obtain rfl : i = 0 := by omega
                         exact h
  | f + 1, n, h, i, hi => by
    unfold chk at h
    rw [Bool.and_eq_true] at h
    cases i with
    | zero => exact h.1
    | succ i =>
      have := chk_all f (n + 1) h.2 i (by omega)
      rwa [show n + 1 + i = n + (i + 1) by omega] at this
def symI (n : Nat) (Z : List Nat) : Bool := (List.range (tri n + 1)).all fun k => getn Z k == getn Z (tri n - k)
def symD (n : Nat) (Z : List Nat) : Bool := (List.range n).all fun k => getn Z k == getn Z (n - 1 - k)
theorem chkD : chk mD symD 18 0 (1 :: List.replicate 153 0) = true := by decide +kernel
/-- The sum of so many. -/
def sumTo (f : Nat → Nat) : Nat → Nat
  | 0 => 0
  | n + 1 => sumTo f n + f n
theorem sumTo_congr {f g : Nat → Nat} : ∀ {n : Nat}, (∀ k, k < n → f k = g k) → sumTo f n = sumTo g n
  | 0, _ => rfl
  | n + 1, h => by
    unfold sumTo
    rw [sumTo_congr (n := n) (fun k hk => h k (by omega)), h n (by omega)]
theorem sumTo_front (f : Nat → Nat) : ∀ n, sumTo f (n + 1) = f 0 + sumTo (fun k => f (k + 1)) n
  | 0 => by simp [sumTo]
  | n + 1 => by
    rw [show sumTo f (n + 1 + 1) = sumTo f (n + 1) + f (n + 1) from rfl, sumTo_front f n]
    show _ = f 0 + (sumTo (fun k => f (k + 1)) n + f (n + 1))
    omega
theorem sumTo_rev : ∀ (n : Nat) (f : Nat → Nat), sumTo f (n + 1) = sumTo (fun k => f (n - k)) (n + 1)
  | 0, f => rfl
  | n + 1, f => by
    rw [sumTo_front, sumTo_rev n (fun k => f (k + 1))]
    show _ = sumTo (fun k => f (n + 1 - k)) (n + 1) + f (n + 1 - (n + 1))
    rw [Nat.sub_self, Nat.add_comm]
    congr 1
    refine sumTo_congr (fun k hk => ?_)
    show f (n - k + 1) = f (n + 1 - k)
    congr 1
    omega
theorem sumTo_cut {f : Nat → Nat} {t : Nat} (h : ∀ k, t < k → f k = 0) : ∀ n, sumTo f (t + 1 + n) = sumTo f (t + 1)
  | 0 => rfl
  | n + 1 => by
    rw [← Nat.add_assoc]
    show sumTo f (t + 1 + n) + f (t + 1 + n) = _
    rw [h _ (by omega), sumTo_cut h n]; rfl
/-- How often a place is met. -/
def hit (m : Nat → Nat → Nat) (k j : Nat) : Nat → Nat
  | 0 => 0
  | p + 1 => hit m k j p + if k + m k p = j then 1 else 0
theorem inN_get {m : Nat → Nat → Nat} {Z N : List Nat} {k j : Nat} (hN : N.length = 154) (hj : j < 154) : ∀ P, (inN m Z k P N).length = 154 ∧ getn (inN m Z k P N) j = getn N j + getn Z k * hit m k j P
  | 0 => ⟨hN, by simp [inN, hit]⟩
  | P + 1 => by
    obtain ⟨h1, h2⟩ := inN_get (m := m) (Z := Z) (k := k) hN hj P
    have e : inN m Z k (P + 1) N = stN m Z k P (inN m Z k P N) := rfl
    rw [e]
    unfold stN
    refine ⟨by rw [List.length_set, h1], ?_⟩
    have eh : hit m k j (P + 1) = hit m k j P + if k + m k P = j then 1 else 0 := rfl
    rw [eh, Nat.mul_add]
    by_cases hi : k + m k P < 154
    · rw [getn_set (by omega)]
      by_cases ej : k + m k P = j
      · rw [if_pos ej, if_pos ej, ej, h2]; omega
      · rw [if_neg ej, if_neg ej, h2]; omega
    · rw [List.set_eq_of_length_le (by omega), if_neg (by omega), h2]; omega
theorem outN_get {m : Nat → Nat → Nat} {Z : List Nat} {n j : Nat} (hj : j < 154) : ∀ K, (outN m n Z K).length = 154 ∧ getn (outN m n Z K) j = sumTo (fun k => getn Z k * hit m k j (n + 1)) K
  | 0 => ⟨by simp [outN], by
      unfold outN getn
      rw [List.getD_eq_getElem?_getD, List.getElem?_replicate, if_pos hj]; rfl⟩
  | K + 1 => by
    obtain ⟨h1, h2⟩ := outN_get (m := m) (Z := Z) (n := n) hj K
    have es : sumTo (fun k => getn Z k * hit m k j (n + 1)) (K + 1) = sumTo (fun k => getn Z k * hit m k j (n + 1)) K + getn Z K * hit m K j (n + 1) := rfl
    rw [es]
    unfold outN
    by_cases h0 : getn Z K = 0
    · rw [if_pos h0]
      exact ⟨h1, by rw [h2, h0, Nat.zero_mul]; rfl⟩
    · rw [if_neg h0]
      obtain ⟨h3, h4⟩ := inN_get (m := m) (Z := Z) (k := K) h1 hj (n + 1)
      exact ⟨h3, by rw [h4, h2]⟩
theorem hitI (k j : Nat) : ∀ P, hit mI k j P = if k ≤ j ∧ j < k + P then 1 else 0
  | 0 => by rw [if_neg (by omega)]; rfl
  | P + 1 => by
    have e : hit mI k j (P + 1) = hit mI k j P + if k + P = j then 1 else 0 := rfl
    rw [e, hitI k j P]
    by_cases h1 : k + P = j
    · rw [if_pos h1, if_neg (by omega), if_pos (by omega)]
    · rw [if_neg h1]
      by_cases h2 : k ≤ j ∧ j < k + P
      · rw [if_pos h2, if_pos (by omega)]
      · rw [if_neg h2, if_neg (by omega)]
theorem symI_step {n t : Nat} {Z : List Nat} (ht : t + n ≤ 153) (hS : Sup Z t) (hs : ∀ k, k ≤ t → getn Z k = getn Z (t - k)) {j : Nat} (hj : j ≤ t + n) : getn (lon mI n Z) j = getn (lon mI n Z) (t + n - j) := by
  have h1 := (outN_get (m := mI) (Z := Z) (n := n) (j := j) (by omega) 154).2
  have h2 := (outN_get (m := mI) (Z := Z) (n := n) (j := t + n - j) (by omega) 154).2
  unfold lon
  rw [h1, h2, show 154 = t + 1 + (153 - t) by omega, sumTo_cut (fun k hk => by rw [hS k hk, Nat.zero_mul]), sumTo_cut (fun k hk => by rw [hS k hk, Nat.zero_mul]), sumTo_rev]
  refine sumTo_congr (fun k hk => ?_)
  show getn Z (t - k) * _ = _
  rw [← hs k (by omega), hitI, hitI]
  congr 1
  by_cases h : k ≤ t + n - j ∧ t + n - j < k + (n + 1)
  · rw [if_pos h, if_pos (by omega)]
  · rw [if_neg h, if_neg (by omega)]
theorem rowI_sym : ∀ n, n ≤ 18 → ∀ k, k ≤ tri n → getn (rowN mI n) k = getn (rowN mI n) (tri n - k)
  | 0, _, k, hk => by
    have : k = 0 := by simpa [tri] using hk
    subst this; rfl
  | n + 1, hn, k, hk => by
    have ht : tri (n + 1) ≤ 153 := tri_le hn
    exact symI_step ht (rowN_facts growI rfl n (by omega)).sup (rowI_sym n (by omega)) hk
theorem rowD_sym {n k : Nat} (hn : n ≤ 18) (hk : k < n) : getn (rowN mD n) k = getn (rowN mD n) (n - 1 - k) := by
  have h := chk_all 18 0 chkD n hn
  rw [Nat.zero_add] at h
  unfold symD at h
  rw [List.all_eq_true] at h
  have := h k (List.mem_range.2 hk)
  exact eq_of_beq this
end Go.Proofs.Ytheblebfeinjjaa
