/- Sets of columns; permanents of sets of columns: plain mathematics. -/
import Derived.Test.YtnnaaoobdofooaaRE
namespace Go.Proofs.Ytnnaaoobdofooaa
open Go.RowKit
set_option maxHeartbeats 1000000
set_option maxRecDepth 100000
theorem lt16_bits {s v : Nat} (h : s < 65536) (hv : s.testBit v = true) : v < 16 := by
  rcases Nat.lt_or_ge v 16 with h1 | h1
  · exact h1
  · have : s.testBit v = false := Nat.testBit_lt_two_pow (Nat.lt_of_lt_of_le h (Nat.pow_le_pow_right (n := 2) (by omega) h1))
    rw [this] at hv; cases hv
theorem not_bit (x j : Nat) (hx : x < 65536) : (65535 - x).testBit j = (decide (j < 16) && !x.testBit j) := by
  have e : 65535 - x = 2^16 - (x + 1) := by omega
  rw [e]; exact Nat.testBit_two_pow_sub_succ hx j
theorem andNot_bit (s t j : Nat) (hs : s < 65536) (ht : t < 65536) : (sAndNot s t).testBit j = (s.testBit j && !t.testBit j) := by
  unfold sAndNot
  rw [Nat.testBit_and, not_bit _ _ ht]
  by_cases hj : j < 16
  · simp [hj]
  · have : s.testBit j = false := Nat.testBit_lt_two_pow (Nat.lt_of_lt_of_le hs (Nat.pow_le_pow_right (n := 2) (i := 16) (by omega) (by omega)))
    rw [this]; rfl
theorem without_bit (s v j : Nat) (hs : s < 65536) (hv : v < 16) : (sWithout s v).testBit j = (s.testBit j && !decide (v = j)) := by
  have := andNot_bit s (2^v) j hs (pow_lt16 hv)
  unfold sAndNot at this
  unfold sWithout
  rw [this, Nat.testBit_two_pow]
theorem with_bit (s v j : Nat) : (sWith s v).testBit j = (s.testBit j || decide (v = j)) := by
  unfold sWith; rw [Nat.testBit_or, Nat.testBit_two_pow]
theorem without_lt {s v : Nat} (h : s < 65536) : sWithout s v < 65536 := Nat.lt_of_le_of_lt Nat.and_le_left h
theorem without_le (s v : Nat) : sWithout s v ≤ s := Nat.and_le_left
theorem without_less {s v : Nat} (hs : s < 65536) (hv : v < 16) (h : s.testBit v = true) : sWithout s v < s := by
  rcases Nat.lt_or_ge (sWithout s v) s with h1 | h1
  · exact h1
  · have e : sWithout s v = s := Nat.le_antisymm (without_le s v) h1
    have := without_bit s v v hs hv
    rw [e, h] at this
    simp at this
theorem pc_without {s v : Nat} (hs : s < 65536) (hv : v < 16) (h : s.testBit v = true) : pc 16 (sWithout s v) + 1 = pc 16 s := by
  unfold pc
  have e : ((List.range 16).filter fun j => (sWithout s v).testBit j) = ((List.range 16).filter fun j => s.testBit j).filter fun j => !decide (v = j) := by
    rw [List.filter_filter]; apply List.filter_congr; intro j _; rw [without_bit s v j hs hv, Bool.and_comm]
  rw [e]
  have hnd : ((List.range 16).filter fun j => s.testBit j).Nodup := List.Pairwise.filter _ List.nodup_range
  have hm : v ∈ (List.range 16).filter fun j => s.testBit j := by simp [hv]; exact h
  generalize (List.range 16).filter (fun j => s.testBit j) = L at *
  have e2 : (L.filter fun j => !decide (v = j)) = L.erase v := by
    rw [hnd.erase_eq_filter]
    apply List.filter_congr; intro j _
    by_cases hj : v = j
    · subst hj; simp
    · have : j ≠ v := fun e => hj e.symm
      simp [hj, this]
  rw [e2, List.length_erase_of_mem hm]
  have : 0 < L.length := List.length_pos_of_mem hm
  omega
theorem pc_pos {s : Nat} (hs : s < 65536) (h0 : s ≠ 0) : 0 < pc 16 s := by
  obtain ⟨i, hi⟩ := Nat.exists_testBit_of_ne_zero h0
  unfold pc
  exact List.length_pos_of_mem (a := i) (by simp [lt16_bits hs hi, hi])
theorem pc_zero : pc 16 0 = 0 := by decide
theorem all_bit (m v : Nat) : (sAll m).testBit v = decide (v < m) := by unfold sAll; exact Nat.testBit_two_pow_sub_one m v
theorem all_lt {m : Nat} (hm : m ≤ 16) : sAll m < 65536 := by
  unfold sAll; have := Nat.pow_le_pow_right (n := 2) (by omega) hm; have := Nat.one_le_two_pow (n := m); omega
theorem pc_all {m : Nat} (hm : m ≤ 16) : pc 16 (sAll m) = m := by
  unfold pc
  simp only [all_bit]
  have : ∀ m, m ≤ 16 → ((List.range 16).filter fun v => decide (v < m)).length = m := by decide
  exact this m hm
theorem with_lt {s v : Nat} (h : s < 65536) (hv : v < 16) : sWith s v < 65536 := by
  unfold sWith
  exact Nat.or_lt_two_pow (n := 16) h (Nat.lt_of_lt_of_le (Nat.pow_lt_pow_right (by omega) hv) (by omega))
theorem without_with {s v : Nat} (hs : s < 65536) (hv : v < 16) (h : s.testBit v = false) : sWithout (sWith s v) v = s := by
  apply Nat.eq_of_testBit_eq; intro i
  rw [without_bit _ _ _ (with_lt hs hv) hv, with_bit]
  by_cases e : v = i
  · subst e; simp [h]
  · simp [e]
theorem pc_with {s v : Nat} (hs : s < 65536) (hv : v < 16) (h : s.testBit v = false) : pc 16 (sWith s v) = pc 16 s + 1 := by
  have := pc_without (with_lt hs hv) hv (s := sWith s v) (by rw [with_bit]; simp)
  rw [without_with hs hv h] at this; exact this.symm
theorem pc_succ (c s : Nat) : pc (c + 1) s = pc c s + if s.testBit c then 1 else 0 := by
  unfold pc
  rw [List.range_succ, List.filter_append, List.length_append]
  congr 1
  cases h : s.testBit c <;> simp [h]
theorem pc_up (s : Nat) {c : Nat} : ∀ {d : Nat}, c ≤ d → pc c s ≤ pc d s
  | 0, h => by rw [show c = 0 by omega]; exact Nat.le_refl _
  | d + 1, h => by
    by_cases e : c = d + 1
    · subst e; exact Nat.le_refl _
    · have := pc_up s (show c ≤ d by omega)
      rw [pc_succ]; omega
/-- The sum, over the first columns that are in a set, of the numbers of a row times what the rest of the set has. -/
def prS (f : Nat → Int) (L : List (List Int)) (r s : Nat) : Nat → Int
  | 0 => 0
  | c + 1 => prS f L r s c + if s.testBit c then gat L r c * f (sWithout s c) else 0
/-- The permanent of so many last rows and a set of as many columns. -/
def pr (L : List (List Int)) : Nat → Nat → Int
  | 0, _ => 1
  | k + 1, s => prS (pr L k) L (L.length - (k + 1)) s 10
def prm (L : List (List Int)) (s : Nat) : Int := pr L (pc 16 s) s
def bd : Nat → Nat
  | 0 => 1
  | k + 1 => (k + 1) * (9 * bd k)
theorem prS_congr {f g : Nat → Int} {L : List (List Int)} {r s : Nat} : ∀ {c : Nat}, (∀ j, j < c → s.testBit j = true → f (sWithout s j) = g (sWithout s j)) → prS f L r s c = prS g L r s c
  | 0, _ => rfl
  | c + 1, h => by
    unfold prS
    rw [prS_congr (fun j hj => h j (by omega))]
    congr 1
    cases hb : s.testBit c
    · rfl
    · rw [if_pos rfl, if_pos rfl, h c (by omega) hb]
theorem prS_bd {f : Nat → Int} {L : List (List Int)} {r s B : Nat} (h : IsT L) : ∀ {c : Nat}, (∀ j, j < c → s.testBit j = true → 0 ≤ f (sWithout s j) ∧ f (sWithout s j) ≤ B) → 0 ≤ prS f L r s c ∧ prS f L r s c ≤ ((pc c s * (9 * B) : Nat) : Int)
  | 0, _ => by simp [prS, pc]
  | c + 1, hf => by
    have ih := prS_bd (r := r) h (c := c) (fun j hj => hf j (by omega))
    unfold prS
    rw [pc_succ]
    cases hb : s.testBit c
    · simpa using ih
    · obtain ⟨h1, h2⟩ := hf c (by omega) hb
      obtain ⟨h3, h4⟩ := h.bd r c
      have h5 : 0 ≤ gat L r c * f (sWithout s c) := Int.mul_nonneg h3 h1
      have h6 : gat L r c * f (sWithout s c) ≤ 9 * (B : Int) := Int.mul_le_mul h4 h2 h1 (by omega)
      simp only [if_true]
      rw [Nat.add_mul, Nat.one_mul]
      omega
theorem pr_bd {L : List (List Int)} (h : IsT L) : ∀ (k s : Nat), s < 65536 → pc 16 s = k → 0 ≤ pr L k s ∧ pr L k s ≤ (bd k : Int)
  | 0, _, _, _ => by simp [pr, bd]
  | k + 1, s, hs, hk => by
    unfold pr
    have h1 := prS_bd (f := pr L k) (r := L.length - (k + 1)) (s := s) (B := bd k) h (c := 10) (fun j hj hb => pr_bd h k _ (without_lt hs) (by have := pc_without hs (by omega) hb; omega))
    have h2 := pc_up s (show 10 ≤ 16 by omega)
    rw [hk] at h2
    have h3 : pc 10 s * (9 * bd k) ≤ (k + 1) * (9 * bd k) := Nat.mul_le_mul_right _ h2
    unfold bd
    omega
theorem bd_mono {a : Nat} : ∀ {b : Nat}, a ≤ b → bd a ≤ bd b
  | 0, h => by rw [show a = 0 by omega]; exact Nat.le_refl _
  | b + 1, h => by
    by_cases e : a = b + 1
    · subst e; exact Nat.le_refl _
    · have := bd_mono (show a ≤ b by omega)
      have e2 : bd (b + 1) = (b + 1) * (9 * bd b) := rfl
      rw [e2]
      have h2 : bd b ≤ (b + 1) * (9 * bd b) := by
        calc bd b ≤ 9 * bd b := by omega
          _ = 1 * (9 * bd b) := (Nat.one_mul _).symm
          _ ≤ _ := Nat.mul_le_mul_right _ (by omega)
      omega
theorem bd10 : bd 10 = 12652843234348800 := by decide
theorem prm_bd {L : List (List Int)} (h : IsT L) {s : Nat} (hs : s < 1024) : 0 ≤ prm L s ∧ prm L s ≤ 12652843234348800 := by
  have h1 := pr_bd h (pc 16 s) s (by omega) rfl
  have h2 : pc 16 s ≤ 10 := by
    have e : ∀ d, d ≤ 6 → pc (10 + d) s = pc 10 s := fun d => by
      induction d with
      | zero => intro _; rfl
      | succ d ih =>
        intro hd
        rw [← Nat.add_assoc, pc_succ, ih (by omega), Nat.testBit_lt_two_pow (Nat.lt_of_lt_of_le hs (Nat.pow_le_pow_right (n := 2) (i := 10) (by omega) (by omega)))]; rfl
    have h3 := e 6 (by omega)
    have h4 := pc_le 10 s
    rw [show 16 = 10 + 6 from rfl, h3]; exact h4
  have h3 := bd_mono h2
  rw [bd10] at h3
  unfold prm
  omega
theorem prm_zero (L : List (List Int)) : prm L 0 = 1 := by unfold prm; rw [pc_zero]; rfl
theorem prm_step (L : List (List Int)) {s : Nat} (hs : s < 65536) (h0 : s ≠ 0) : prm L s = prS (prm L) L (L.length - pc 16 s) s 10 := by
  have hp := pc_pos hs h0
  obtain ⟨k, hk⟩ : ∃ k, pc 16 s = k + 1 := ⟨pc 16 s - 1, by omega⟩
  unfold prm
  rw [hk]
  show prS (pr L k) L (L.length - (k + 1)) s 10 = _
  refine prS_congr (fun j hj hb => ?_)
  have := pc_without hs (show j < 16 by omega) hb
  show _ = pr L (pc 16 (sWithout s j)) _
  rw [show pc 16 (sWithout s j) = k by omega]
/-- While the sum grows, it and each of its parts stay small. -/
theorem prm_part {L : List (List Int)} (h : IsT L) {s : Nat} (hs : s < 1024) {r c : Nat} (hc : c ≤ 10) : 0 ≤ prS (prm L) L r s c ∧ prS (prm L) L r s c ≤ 10 * (9 * 12652843234348800) := by
  have h1 := prS_bd (f := prm L) (r := r) (s := s) (B := 12652843234348800) h (c := c) (fun j hj _ => by
    have := prm_bd h (s := sWithout s j) (Nat.lt_of_le_of_lt (without_le s j) hs)
    omega)
  have h2 := pc_le c s
  have h3 : pc c s * (9 * 12652843234348800) ≤ 10 * (9 * 12652843234348800) := Nat.mul_le_mul_right _ (by omega)
  omega
end Go.Proofs.Ytnnaaoobdofooaa
