/- The greatest exponent: mathematics. -/
import Derived.Test.YtoklnpiehbnalaaBD
namespace Go.Proofs.Ytoklnpiehbnalaa
set_option maxHeartbeats 1000000
set_option maxRecDepth 100000
theorem perP_iff {x : List Nat} {p : Nat} (hp : p ≤ x.length) : perP x p = true ↔ ∀ i, i + p < x.length → x[p + i]? = x[i]? := by
  unfold perP
  rw [decide_eq_true_eq, sub_eq_iff (by omega) (by omega)]
  constructor
  · intro h i hi
    have := h i (by omega)
    rwa [Nat.zero_add] at this
  · intro h i hi
    rw [Nat.zero_add]
    exact h i (by omega)
/-- A period of a word is one of its beginnings. -/
theorem per_part {x : List Nat} {a n q : Nat} (h : a + (n + 1) ≤ x.length) (hq : q ≤ n) (hp : perP (sub x a (n + 1)) q = true) : perP (sub x a n) q = true := by
  have l1 : (sub x a (n + 1)).length = n + 1 := by rw [sub_len]; omega
  have l2 : (sub x a n).length = n := by rw [sub_len]; omega
  rw [perP_iff (by omega)] at hp ⊢
  intro i hi
  have := hp i (by omega)
  rw [sub_get (by omega), sub_get (by omega)] at this ⊢
  exact this
theorem mper_from {x : List Nat} {p : Nat} (h1 : 1 ≤ p) (h2 : p ≤ x.length) (h3 : ∀ q, 1 ≤ q → q < p → perP x q = false) : mper x p = mper x 1 := by
  obtain ⟨a1, a2, a3⟩ := mper_le (x := x) (p := p) h2
  refine (mper_eq (by omega) a2 (fun r hr1 hr2 => ?_) a3).symm
  rcases Nat.lt_or_ge r p with h | h
  · exact h3 r hr1 h
  · exact mper_min h hr2
theorem rowP_min (x : List Nat) (a : Nat) : ∀ n, 1 ≤ n → a + n ≤ x.length → rowP x a n = mper (sub x a n) 1 := by
  intro n hn
  obtain ⟨n, rfl⟩ : ∃ m, n = m + 1 := ⟨n - 1, by omega⟩
  clear hn
  induction n with
  | zero => intro _; rfl
  | succ n ih =>
    intro h
    have e : rowP x a (n + 1 + 1) = mper (sub x a (n + 1 + 1)) (rowP x a (n + 1)) := rfl
    have hr := rowP_le x a (n + 1) (by omega)
    have l1 : (sub x a (n + 1 + 1)).length = n + 1 + 1 := by rw [sub_len]; omega
    rw [e]
    refine mper_from hr.1 (by omega) (fun q h1 h2 => ?_)
    cases hb : perP (sub x a (n + 1 + 1)) q
    · rfl
    · have := per_part (x := x) (a := a) (n := n + 1) (by omega) (by omega) hb
      rw [ih (by omega)] at h2
      rw [mper_min h1 h2] at this
      cases this
/-- One exponent is at most another one. -/
def leX (n d m e : Nat) : Prop := n * e ≤ m * d
theorem leX_refl (n d : Nat) : leX n d n d := Nat.le_refl _
theorem leX_trans {n d m e k f : Nat} (he : 1 ≤ e) (h : leX n d m e) (h2 : leX m e k f) : leX n d k f := by
  unfold leX at *
  have h3 := Nat.mul_le_mul_right f h
  have h4 := Nat.mul_le_mul_right d h2
  have e1 : n * e * f = e * (n * f) := by rw [Nat.mul_comm n e, Nat.mul_assoc]
  have e2 : m * d * f = m * f * d := by rw [Nat.mul_right_comm]
  have e3 : k * e * d = e * (k * d) := by rw [Nat.mul_comm k e, Nat.mul_assoc]
  rw [e1, e2] at h3
  rw [e3] at h4
  exact Nat.le_of_mul_le_mul_left (Nat.le_trans h3 h4) he
theorem bst_ge (b : Nat × Nat × Nat) (n p a : Nat) : leX b.1 b.2.1 (bst b n p a).1 (bst b n p a).2.1 ∧ leX n p (bst b n p a).1 (bst b n p a).2.1 := by
  unfold bst leX
  split
  · exact ⟨by dsimp only; omega, by dsimp only; omega⟩
  · exact ⟨Nat.le_refl _, by omega⟩
theorem bstR_ge {x : List Nat} {a : Nat} {b : Nat × Nat × Nat} (hb : FitB b 1000000) (hx : x.length ≤ 1000000) : ∀ n, a + n ≤ x.length → leX b.1 b.2.1 (bstR x a b n).1 (bstR x a b n).2.1 ∧ ∀ m, 1 ≤ m → m ≤ n → leX m (rowP x a m) (bstR x a b n).1 (bstR x a b n).2.1
  | 0, _ => ⟨leX_refl _ _, fun m h1 h2 => by omega⟩
  | n + 1, h => by
    obtain ⟨h1, h2⟩ := bstR_ge (a := a) hb hx n (by omega)
    have hf := bstR_fit (x := x) (a := a) hb hx n (by omega)
    obtain ⟨g1, g2⟩ := bst_ge (bstR x a b n) (n + 1) (rowP x a (n + 1)) a
    refine ⟨leX_trans hf.2.1 h1 g1, fun m hm1 hm2 => ?_⟩
    rcases Nat.lt_or_ge n m with h3 | h3
    · obtain rfl : m = n + 1 := by omega
      exact g2
    · exact leX_trans hf.2.1 (h2 m hm1 h3) g1
theorem bstA_ge {x : List Nat} {b : Nat × Nat × Nat} (hb : FitB b 1000000) (hx : x.length ≤ 1000000) : ∀ A, A ≤ x.length → ∀ a n, a < A → 1 ≤ n → a + n ≤ x.length → leX n (rowP x a n) (bstA x b A).1 (bstA x b A).2.1
  | 0, _, _, _, h, _, _ => absurd h (by omega)
  | A + 1, hA, a, n, h1, h2, h3 => by
    have hf := bstA_fit (x := x) hb hx A (by omega)
    obtain ⟨g1, g2⟩ := bstR_ge (x := x) (a := A) hf hx (x.length - A) (by omega)
    rcases Nat.lt_or_ge a A with h | h
    · exact leX_trans hf.2.1 (bstA_ge hb hx A (by omega) a n h h2 h3) g1
    · obtain rfl : a = A := by omega
      exact g2 n h2 (by omega)
/-- No part has a greater exponent. -/
theorem grT_max {x : List Nat} (hx : x.length ≤ 1000000) (_hx1 : 1 ≤ x.length) {a n : Nat} (h1 : 1 ≤ n) (h2 : a + n ≤ x.length) : leX n (mper (sub x a n) 1) (grT x).1 (grT x).2.1 := by
  rw [← rowP_min x a n h1 h2]
  exact bstA_ge ⟨by decide, by decide, by decide, by decide⟩ hx _ (Nat.le_refl _) a n (by omega) h1 h2
/-- What is found is a part with its smallest period. -/
def PartB (x : List Nat) (b : Nat × Nat × Nat) : Prop := b.1 = 0 ∨ (1 ≤ b.1 ∧ b.2.2 + b.1 ≤ x.length ∧ b.2.1 = mper (sub x b.2.2 b.1) 1)
theorem bstR_part {x : List Nat} {a : Nat} {b : Nat × Nat × Nat} (hb : PartB x b) : ∀ n, a + n ≤ x.length → PartB x (bstR x a b n)
  | 0, _ => hb
  | n + 1, h => by
    show PartB x (bst (bstR x a b n) (n + 1) (rowP x a (n + 1)) a)
    unfold bst
    split
    · exact .inr ⟨by dsimp only; omega, h, rowP_min x a (n + 1) (by omega) h⟩
    · exact bstR_part hb n (by omega)
theorem bstA_part {x : List Nat} {b : Nat × Nat × Nat} (hb : PartB x b) : ∀ a, a ≤ x.length → PartB x (bstA x b a)
  | 0, _ => hb
  | a + 1, h => bstR_part (bstA_part hb a (by omega)) _ (by omega)
theorem grT_part {x : List Nat} (hx1 : 1 ≤ x.length) : 1 ≤ (grT x).1 ∧ (grT x).2.2 + (grT x).1 ≤ x.length ∧ (grT x).2.1 = mper (sub x (grT x).2.2 (grT x).1) 1 := by
  rcases bstA_part (x := x) (b := (0, 1, 0)) (.inl rfl) x.length (Nat.le_refl _) with h | h
  · have := grT_num hx1
    unfold grT at this
    omega
  · exact h
/-- A square is a part of an exponent of at least 2. -/
theorem free_grT {x : List Nat} (hx : x.length ≤ 1000000) (hx1 : 1 ≤ x.length) : free x = true ↔ (grT x).1 < 2 * (grT x).2.1 := by
  rw [free_iff]
  obtain ⟨h1, h2, h3⟩ := grT_part hx1
  constructor
  · intro h
    rcases Nat.lt_or_ge (grT x).1 (2 * (grT x).2.1) with hlt | hge
    · exact hlt
    · exfalso
      have hl : (sub x (grT x).2.2 (grT x).1).length = (grT x).1 := by rw [sub_len]; omega
      obtain ⟨m1, m2, m3⟩ := mper_le (x := sub x (grT x).2.2 (grT x).1) (p := 1) (by omega)
      rw [← h3] at m1 m2 m3
      rw [perP_iff m2, hl] at m3
      refine h (grT x).2.2 (grT x).2.1 m1 (by omega) ?_
      rw [sub_eq_iff (by omega) (by omega)]
      intro i hi
      have := m3 i (by omega)
      rw [sub_get (by omega), sub_get (by omega)] at this
      rw [← this, Nat.add_assoc]
  · intro h a p hp hl e
    have hg := grT_max hx hx1 (a := a) (n := 2 * p) (by omega) hl
    have hsl : (sub x a (2 * p)).length = 2 * p := by rw [sub_len]; omega
    have hper : perP (sub x a (2 * p)) p = true := by
      rw [perP_iff (by omega), hsl]
      intro i hi
      rw [sub_get (by omega), sub_get (by omega)]
      rw [sub_eq_iff (by omega) (by omega)] at e
      rw [e i (by omega), Nat.add_assoc]
    have hm : mper (sub x a (2 * p)) 1 ≤ p := by
      rcases Nat.lt_or_ge p (mper (sub x a (2 * p)) 1) with h4 | h4
      · rw [mper_min hp h4] at hper; cases hper
      · exact h4
    unfold leX at hg
    have h5 := Nat.mul_le_mul_left (grT x).1 hm
    have h6 : p * (2 * (grT x).2.1) ≤ p * (grT x).1 := by
      have e1 : 2 * p * (grT x).2.1 = p * (2 * (grT x).2.1) := by rw [Nat.mul_comm 2 p, Nat.mul_assoc]
      have e2 : (grT x).1 * p = p * (grT x).1 := Nat.mul_comm _ _
      omega
    have := Nat.le_of_mul_le_mul_left h6 hp
    omega
/-- The reversed word. -/
theorem rev_get {x : List Nat} {i : Nat} (h : i < x.length) : x.reverse[i]? = x[x.length - 1 - i]? := List.getElem?_reverse h
theorem free_rev (x : List Nat) : free x.reverse = free x := by
  have key : ∀ y : List Nat, free y = true → free y.reverse = true := by
    intro y h
    rw [free_iff] at h ⊢
    intro a p hp hl e
    rw [List.length_reverse] at hl
    rw [sub_eq_iff (by rw [List.length_reverse]; omega) (by rw [List.length_reverse]; omega)] at e
    refine h (y.length - (a + 2 * p)) p hp (by omega) ?_
    rw [sub_eq_iff (by omega) (by omega)]
    intro i hi
    have := e (p - 1 - i) (by omega)
    rw [rev_get (by omega), rev_get (by omega)] at this
    rw [show y.length - (a + 2 * p) + i = y.length - 1 - (a + p + (p - 1 - i)) by omega, show y.length - (a + 2 * p) + p + i = y.length - 1 - (a + (p - 1 - i)) by omega]
    exact this.symm
  rw [Bool.eq_iff_iff]
  exact ⟨fun h => by have := key _ h; rwa [List.reverse_reverse] at this, key x⟩
/-- A square is an abelian one. -/
theorem ab_before {x : List Nat} {a i : Nat} (h : sqS x = some (a, i)) : ∃ b j, abS x = some (b, j) ∧ b ≤ a := by
  obtain ⟨h1, h2, h3, -, -⟩ := srch_some h
  have h4 : abP x a i = true := by
    unfold sqP at h3
    unfold abP
    rw [of_decide_eq_true h3]
    exact decide_eq_true rfl
  cases hh : abS x with
  | none =>
    have := srch_none hh a i h1 h2
    rw [h4] at this; cases this
  | some y =>
    obtain ⟨b, j⟩ := y
    refine ⟨b, j, rfl, ?_⟩
    obtain ⟨g1, g2, g3, g4, g5⟩ := srch_some hh
    rcases Nat.lt_or_ge a b with h5 | h5
    · have := g4 a i h5 h2
      rw [h4] at this; cases this
    · exact h5
theorem sqS_pos {x : List Nat} {a i : Nat} (h : sqS x = some (a, i)) : a < x.length ∧ a + 2 * (i + 1) ≤ x.length := by
  obtain ⟨h1, h2, -⟩ := srch_some h
  unfold hlf at h2
  omega
/-- Fractions in lowest terms. -/
theorem frc_facts {n d : Nat} (hn : 1 ≤ n) (hd : 1 ≤ d) : 1 ≤ d / Nat.gcd n d ∧ d / Nat.gcd n d ≤ d ∧ 1 ≤ n / Nat.gcd n d ∧ n / Nat.gcd n d ≤ n ∧ n = Nat.gcd n d * (n / Nat.gcd n d) ∧ d = Nat.gcd n d * (d / Nat.gcd n d) ∧ 1 ≤ Nat.gcd n d := by
  have h1 := gcd_pos (d := d) hn
  have h2 := Nat.gcd_dvd_left n d
  have h3 := Nat.gcd_dvd_right n d
  have e1 := Nat.mul_div_cancel' h2
  have e2 := Nat.mul_div_cancel' h3
  refine ⟨?_, Nat.div_le_self _ _, ?_, Nat.div_le_self _ _, e1.symm, e2.symm, h1⟩
  · rcases Nat.eq_zero_or_pos (d / Nat.gcd n d) with h | h
    · rw [h] at e2; omega
    · exact h
  · rcases Nat.eq_zero_or_pos (n / Nat.gcd n d) with h | h
    · rw [h] at e1; omega
    · exact h
theorem frc_le {n d m e : Nat} (hn : 1 ≤ n) (hd : 1 ≤ d) (hm : 1 ≤ m) (he : 1 ≤ e) (h : leX n d m e) : (n / Nat.gcd n d) * (e / Nat.gcd m e) ≤ (m / Nat.gcd m e) * (d / Nat.gcd n d) := by
  obtain ⟨-, -, -, -, e1, e2, g1⟩ := frc_facts hn hd
  obtain ⟨-, -, -, -, e3, e4, g2⟩ := frc_facts hm he
  unfold leX at h
  generalize Nat.gcd n d = g at *
  generalize Nat.gcd m e = k at *
  generalize n / g = n1 at *
  generalize d / g = d1 at *
  generalize m / k = m1 at *
  generalize e / k = e5 at *
  subst e1 e2 e3 e4
  have h1 : g * k * (n1 * e5) ≤ g * k * (m1 * d1) := by
    have a1 : g * n1 * (k * e5) = g * k * (n1 * e5) := by rw [Nat.mul_assoc, Nat.mul_assoc, Nat.mul_left_comm n1]
    have a2 : k * m1 * (g * d1) = g * k * (m1 * d1) := by rw [Nat.mul_assoc, Nat.mul_left_comm m1, ← Nat.mul_assoc, Nat.mul_comm k g]
    omega
  exact Nat.le_of_mul_le_mul_left h1 (Nat.mul_pos g1 g2)
theorem frc_two {n d : Nat} (hn : 1 ≤ n) (hd : 1 ≤ d) : 2 * (d / Nat.gcd n d) ≤ n / Nat.gcd n d ↔ 2 * d ≤ n := by
  obtain ⟨-, -, -, -, e1, e2, g1⟩ := frc_facts hn hd
  generalize Nat.gcd n d = g at *
  generalize n / g = n1 at *
  generalize d / g = d1 at *
  subst e1 e2
  rw [Nat.mul_left_comm 2 g]
  exact ⟨fun h => Nat.mul_le_mul_left g h, fun h => Nat.le_of_mul_le_mul_left h g1⟩
end Go.Proofs.Ytoklnpiehbnalaa
