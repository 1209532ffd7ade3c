/- Counts of orders: plain mathematics. -/
import Derived.Test.YtheblebfeinjjaaNB
namespace Go.Proofs.Ytheblebfeinjjaa
open Go.RowKit
set_option maxRecDepth 100000
/-- The number at a place of an order of k goes in at place p: the statistic grows so. -/
def mI (_ p : Nat) : Nat := p
def mD (k p : Nat) : Nat := if k < p then 1 else 0
def mC (_ p : Nat) : Nat := if p = 0 then 1 else 0
def stN (m : Nat → Nat → Nat) (Z : List Nat) (k p : Nat) (N : List Nat) : List Nat := N.set (k + m k p) (getn N (k + m k p) + getn Z k)
def inN (m : Nat → Nat → Nat) (Z : List Nat) (k : Nat) : Nat → List Nat → List Nat
  | 0, N => N
  | p + 1, N => stN m Z k p (inN m Z k p N)
def outN (m : Nat → Nat → Nat) (len : Nat) (Z : List Nat) : Nat → List Nat
  | 0 => List.replicate 154 0
  | k + 1 => if getn Z k = 0 then outN m len Z k else inN m Z k (len + 1) (outN m len Z k)
def lon (m : Nat → Nat → Nat) (len : Nat) (Z : List Nat) : List Nat := outN m len Z 154
def rowN (m : Nat → Nat → Nat) : Nat → List Nat
  | 0 => 1 :: List.replicate 153 0
  | n + 1 => lon m n (rowN m n)
def tri : Nat → Nat
  | 0 => 0
  | n + 1 => tri n + n
def facN : Nat → Nat
  | 0 => 1
  | n + 1 => (n + 1) * facN n
theorem tri_le {n : Nat} (h : n ≤ 18) : tri n ≤ 153 := by
  have : ∀ n, n < 19 → tri n ≤ 153 := by decide
  exact this n (by omega)
theorem facN_le {n : Nat} (h : n ≤ 18) : facN n ≤ 6402373705728000 := by
  have : ∀ n, n < 19 → facN n ≤ 6402373705728000 := by decide +kernel
  exact this n (by omega)
def Sup (N : List Nat) (s : Nat) : Prop := ∀ j, s < j → getn N j = 0
theorem getn_set' {xs : List Nat} {i x j : Nat} (h : i < xs.length) : getn (xs.set i x) j = if i = j then x else getn xs j := getn_set h
theorem sum_set : ∀ {N : List Nat} {i z : Nat}, i < N.length → (N.set i (getn N i + z)).sum = N.sum + z
  | x :: t, 0, z, _ => by
    rw [List.set_cons_zero, List.sum_cons, List.sum_cons]
    have e : getn (x :: t) 0 = x := rfl
    rw [e]; omega
  | x :: t, i + 1, z, h => by
    rw [List.set_cons_succ, List.sum_cons, List.sum_cons]
    have e : getn (x :: t) (i + 1) = getn t i := rfl
    rw [e, sum_set (by simpa using h)]; omega
theorem getn_le_sum : ∀ {N : List Nat} {i : Nat}, getn N i ≤ N.sum
  | [], i => by simp [getn]
  | x :: t, 0 => by rw [List.sum_cons]; exact Nat.le_add_right _ _
  | x :: t, i + 1 => by
    rw [List.sum_cons]
    have : getn (x :: t) (i + 1) = getn t i := rfl
    rw [this]
    have := getn_le_sum (N := t) (i := i)
    omega
theorem sum_take {Z : List Nat} : ∀ {k : Nat}, k < Z.length → (Z.take (k + 1)).sum = (Z.take k).sum + getn Z k := by
  intro k h
  rw [List.take_add_one, List.getElem?_eq_getElem h, getn_eq h, List.sum_append]
  simp
theorem sum_take_le {Z : List Nat} : ∀ {k : Nat}, (Z.take k).sum ≤ Z.sum := by
  intro k
  have h : (Z.take k ++ Z.drop k).sum = Z.sum := by rw [List.take_append_drop]
  rw [List.sum_append] at h
  omega
/-- What is kept while the orders of one number more are counted. -/
structure InF (s : Nat) (N : List Nat) (tot : Nat) : Prop where
  len : N.length = 154
  sup : Sup N s
  sum : N.sum = tot
/-- How far the statistic may grow: the orders of n numbers have none greater than S n. -/
structure GrowM (m : Nat → Nat → Nat) (S : Nat → Nat) : Prop where
  step : ∀ k p n, k ≤ S n → p ≤ n → k + m k p ≤ S (n + 1)
  top : ∀ n, n ≤ 18 → S n ≤ 153
theorem growI : GrowM mI tri := ⟨fun k p n h1 h2 => by unfold mI tri; omega, fun n h => tri_le h⟩
theorem growD : GrowM mD tri := ⟨fun k p n h1 h2 => by
  unfold mD tri
  split <;> omega, fun n h => tri_le h⟩
theorem growC : GrowM mC (fun n => n) := ⟨fun k p n h1 h2 => by
  unfold mC
  split <;> omega, fun n h => by omega⟩
theorem InF.step {m : Nat → Nat → Nat} {Z N : List Nat} {s k p tot : Nat} (h : InF s N tot) (hs : s ≤ 153) (hi : k + m k p ≤ s) : InF s (stN m Z k p N) (tot + getn Z k) := by
  obtain ⟨h1, h2, h3⟩ := h
  refine ⟨by unfold stN; rw [List.length_set, h1], fun j hj => ?_, ?_⟩
  · unfold stN
    rw [getn_set (by omega), if_neg (by omega)]
    exact h2 j hj
  · unfold stN
    rw [sum_set (by omega), h3]
theorem InF.inner {m : Nat → Nat → Nat} {Z N : List Nat} {len s k tot : Nat} (h : InF s N tot) (hs : s ≤ 153) (hi : ∀ p, p ≤ len → k + m k p ≤ s) : ∀ p, p ≤ len + 1 → InF s (inN m Z k p N) (tot + p * getn Z k)
  | 0, _ => by simpa [inN] using h
  | p + 1, hp => by
    have h2 := (InF.inner (Z := Z) h hs hi p (by omega)).step (Z := Z) (p := p) hs (hi p (by omega))
    rw [show tot + (p + 1) * getn Z k = tot + p * getn Z k + getn Z k by rw [Nat.succ_mul]; omega]
    exact h2
theorem sup_le {Z : List Nat} {s k : Nat} (h : Sup Z s) (h0 : getn Z k ≠ 0) : k ≤ s := by
  by_cases e : k ≤ s
  · exact e
  · exact absurd (h k (by omega)) h0
theorem outN_facts {m : Nat → Nat → Nat} {S : Nat → Nat} (hm : GrowM m S) {Z : List Nat} {n : Nat} (hn : n < 18) (hZ : Z.length = 154) (hS : Sup Z (S n)) : ∀ k, k ≤ 154 → InF (S (n + 1)) (outN m n Z k) ((n + 1) * (Z.take k).sum)
  | 0, _ => ⟨by simp [outN], fun j _ => by
      unfold outN getn
      rw [List.getD_eq_getElem?_getD, List.getElem?_replicate]
      split <;> rfl, by simp [outN]⟩
  | k + 1, hk => by
    have h := outN_facts hm hn hZ hS k (by omega)
    have h2 := sum_take (Z := Z) (k := k) (by omega)
    unfold outN
    by_cases h0 : getn Z k = 0
    · rw [if_pos h0, h2, h0, Nat.add_zero]; exact h
    · rw [if_neg h0, h2, Nat.mul_add]
      exact h.inner (hm.top _ (by omega)) (fun p hp => hm.step k p n (sup_le hS h0) hp) (n + 1) (Nat.le_refl _)
/-- The counts of the orders of n numbers. -/
theorem rowN_facts {m : Nat → Nat → Nat} {S : Nat → Nat} (hm : GrowM m S) (h0 : S 0 = 0) : ∀ n, n ≤ 18 → InF (S n) (rowN m n) (facN n)
  | 0, _ => ⟨by simp [rowN], fun j hj => by
      obtain ⟨i, rfl⟩ : ∃ i, j = i + 1 := ⟨j - 1, by omega⟩
      unfold rowN getn
      rw [List.getD_eq_getElem?_getD, List.getElem?_cons_succ, List.getElem?_replicate]
      split <;> rfl, by simp [rowN, facN]⟩
  | n + 1, hn => by
    obtain ⟨h1, h2, h3⟩ := rowN_facts hm h0 n (by omega)
    have h := outN_facts hm (by omega) h1 h2 154 (Nat.le_refl _)
    rw [List.take_of_length_le (by omega), h3] at h
    exact h
/-- A round's step: where the cell lies, and that it does not grow too great. -/
theorem round_facts {m : Nat → Nat → Nat} {S : Nat → Nat} (hm : GrowM m S) {Z : List Nat} {n k p : Nat} (hn : n < 18) (hZ : InF (S n) Z (facN n)) (hk : k < 154) (h0 : getn Z k ≠ 0) (hp : p ≤ n) :
    k + m k p < 154 ∧ (inN m Z k p (outN m n Z k)).length = 154 ∧ getn (inN m Z k p (outN m n Z k)) (k + m k p) + getn Z k ≤ 1000000000000000000 := by
  have hks := sup_le hZ.sup h0
  have h1 := hm.step k p n hks hp
  have h2 := hm.top (n + 1) (by omega)
  have h3 := outN_facts hm hn hZ.len hZ.sup k (by omega)
  have h4 := h3.inner (Z := Z) (k := k) (m := m) (len := n) h2 (fun p hp => hm.step k p n hks hp) p (by omega)
  refine ⟨by omega, h4.len, ?_⟩
  have h5 := getn_le_sum (N := inN m Z k p (outN m n Z k)) (i := k + m k p)
  rw [h4.sum] at h5
  have h6 := sum_take (Z := Z) (k := k) (by rw [hZ.len]; exact hk)
  have h7 := sum_take_le (Z := Z) (k := k + 1)
  rw [hZ.sum] at h7
  have h8 := facN_le (n := n) (by omega)
  have h9 : (n + 1) * (Z.take k).sum ≤ 18 * (Z.take k).sum := Nat.mul_le_mul_right _ (by omega)
  have h10 : p * getn Z k ≤ 18 * getn Z k := Nat.mul_le_mul_right _ (by omega)
  omega
end Go.Proofs.Ytheblebfeinjjaa
