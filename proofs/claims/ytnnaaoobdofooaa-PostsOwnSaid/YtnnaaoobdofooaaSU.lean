/- Joined rows; a block where a row is left. -/
import Derived.Test.YtnnaaoobdofooaaST
import Derived.Test.YtnnaaoobdofooaaSD
namespace Go.Proofs.Ytnnaaoobdofooaa
open Go.RowKit
set_option maxHeartbeats 1000000
set_option maxRecDepth 100000
/-- How many columns a row has. -/
abbrev cnA (n : Nat) (M : List Int) (r : Nat) : Int := cnU n 0 M r
theorem sumN_nonneg {g : Nat → Int} : ∀ {n : Nat}, (∀ j, j < n → 0 ≤ g j) → 0 ≤ sumN g n
  | 0, _ => Int.le_refl _
  | n + 1, h => by
    have h1 := sumN_nonneg (g := g) (n := n) (fun j hj => h j (by omega))
    have h2 := h n (by omega)
    show 0 ≤ sumN g n + g n
    omega
theorem sumN_ge {g : Nat → Int} : ∀ {n c : Nat}, (∀ j, j < n → 0 ≤ g j) → c < n → g c ≤ sumN g n
  | 0, _, _, h => absurd h (by omega)
  | n + 1, c, h, hc => by
    have h1 := sumN_nonneg (g := g) (n := n) (fun j hj => h j (by omega))
    have h2 := h n (by omega)
    show g c ≤ sumN g n + g n
    by_cases e : c = n
    · subst e; omega
    · have := sumN_ge (g := g) (n := n) (c := c) (fun j hj => h j (by omega)) (by omega)
      omega
theorem sumN_le {g h : Nat → Int} : ∀ {n : Nat}, (∀ j, j < n → g j ≤ h j) → sumN g n ≤ sumN h n
  | 0, _ => Int.le_refl _
  | n + 1, e => by
    have h1 := sumN_le (g := g) (h := h) (n := n) (fun j hj => e j (by omega))
    have h2 := e n (by omega)
    show sumN g n + g n ≤ sumN h n + h n
    omega
theorem sumN_one : ∀ n : Nat, sumN (fun _ => 1) n = (n : Int)
  | 0 => rfl
  | n + 1 => by
    show sumN (fun _ => 1) n + 1 = _
    rw [sumN_one n]; rfl
theorem one_bd (p : Prop) [Decidable p] : 0 ≤ one p ∧ one p ≤ 1 := by unfold one; split <;> omega
theorem cnU_nonneg (n s : Nat) (M : List Int) (r : Nat) : 0 ≤ cnU n s M r := sumN_nonneg (fun j _ => by (try dsimp only); split <;> omega)
theorem cnU_some {n s : Nat} {M : List Int} {r : Nat} : cnU n s M r ≠ 0 ↔ ∃ c, c < n ∧ s.testBit c = false ∧ geti M c = (r : Int) := by
  constructor
  · intro h
    apply Classical.byContradiction
    intro h2
    apply h
    unfold cnU
    rw [sumN_congr (h := fun _ => 0) (fun c hc => by (try dsimp only); rw [if_neg (fun h3 => h2 ⟨c, hc, h3.1, h3.2⟩)]), sumN_zero]
  · rintro ⟨c, hc, h1, h2⟩ h0
    have := sumN_ge (g := fun c => if s.testBit c = false ∧ geti M c = (r : Int) then (1 : Int) else 0) (n := n) (c := c) (fun j _ => by (try dsimp only); split <;> omega) hc
    unfold cnU at h0
    rw [h0] at this
    try dsimp only at this
    rw [if_pos ⟨h1, h2⟩] at this
    omega
/-- What is known when so many rows have been joined. -/
structure JnI (L : List (List Int)) (k : Nat) (st : Nat) (M : List Int) : Prop where
  ok : MOk L.length M
  lt : st < 65536
  pos : PosM L M
  far : ∀ c, L.length ≤ c → c < 10 → geti M c = -1
  a1 : ∀ c, st.testBit c = true → c < L.length ∧ geti M c ≠ -1
  a2 : ∀ c, st.testBit c = true → ∀ c', c' < L.length → gat L (geti M c).toNat c' ≠ 0 → st.testBit c' = true
  b : ∀ r, r < k → cnA L.length M r = 0 → ∀ c', c' < L.length → gat L r c' ≠ 0 → st.testBit c' = true
  few : ∀ r : Nat, r < k → cnA L.length M r ≤ 1
  none' : ∀ r : Nat, k ≤ r → cnA L.length M r = 0
theorem jn_inv {L : List (List Int)} (hL : IsT L) : ∀ k, k ≤ L.length → JnI L k (jn L k).1 (jn L k).2
  | 0, _ => by
    have hg : ∀ c, c < 10 → geti (List.replicate 10 (-1 : Int)) c = -1 := fun c hc => by
      unfold geti; rw [List.getD_eq_getElem?_getD, List.getElem?_replicate, if_pos hc]; rfl
    have hl := hL.le
    refine ⟨⟨by rfl, fun c hc => Or.inl (hg c hc)⟩, (by show (0 : Nat) < 65536; decide), fun c hc h => absurd (hg c hc) h, fun c _ hc => hg c hc, fun c h => ?_, fun c h => ?_, fun r h => absurd h (by omega), fun r h => absurd h (by omega), fun r _ => ?_⟩
    · rw [show (jn L 0).1 = 0 from rfl] at h; simp at h
    · rw [show (jn L 0).1 = 0 from rfl] at h; simp at h
    · show sumN _ L.length = 0
      rw [sumN_congr (h := fun _ => 0) (fun c hc => by
        show (if _ then _ else _) = _
        rw [if_neg (fun h => by have := h.2; rw [show geti (jn L 0).2 c = -1 from hg c (by omega)] at this; omega)]), sumN_zero]
  | k + 1, hk => by
    have I := jn_inv hL k (by omega)
    have R := fd_ok hL L.length k (jn L k).1 (jn L k).2 (by omega) I.lt I.ok (Nat.sub_le _ _)
    have hj : jn L (k + 1) = jnS (jn L k).1 (fd L L.length k (jn L k)) := rfl
    obtain ⟨st, M, hsm⟩ : ∃ st M, jn L k = (st, M) := ⟨_, _, rfl⟩
    rw [hsm] at I R hj
    have I : JnI L k st M := I
    have R' : FdR L k (List.range L.length) st M (fd L L.length k (st, M)) := R
    obtain ⟨X, hX⟩ : ∃ X, fd L L.length k (st, M) = X := ⟨_, rfl⟩
    rw [hX] at R' hj
    clear R hX
    obtain ⟨bx, s2, M2⟩ := X
    cases bx
    · have hMM : M2 = M := R'.same rfl
      subst hMM
      rw [show jn L (k + 1) = (s2, M2) from hj]
      show JnI L (k + 1) s2 M2
      refine ⟨I.ok, R'.lt, I.pos, I.far, fun c hc => ?_, fun c hc c' hc' hg => ?_, fun r hr h0 c' hc' hg => ?_, fun r hr => ?_, fun r hr => I.none' r (by omega)⟩
      · cases h : st.testBit c
        · refine ⟨?_, (R'.new rfl c hc h).1⟩
          rcases R'.lim c hc with h2 | h2
          · rw [h] at h2; cases h2
          · exact h2
        · exact I.a1 c h
      · cases h : st.testBit c
        · exact (R'.new rfl c hc h).2 c' hc' hg
        · exact R'.sub c' (I.a2 c h c' hc' hg)
      · by_cases e : r = k
        · subst e; exact R'.own rfl c' (List.mem_range.2 hc') hg
        · exact R'.sub c' (I.b r (by omega) h0 c' hc' hg)
      · by_cases e : r = k
        · subst e
          have := I.none' r (Nat.le_refl _)
          show cnA L.length M2 r ≤ 1
          omega
        · exact I.few r (by omega)
    · rw [show jn L (k + 1) = (st, M2) from hj]
      have hy : ∀ r : Nat, cnA L.length M2 r = cnA L.length M r + one (k = r) := fun r => cnU_sub (s := 0) (s2 := st) (fun c h => by simp at h) (fun c hc => R'.keep c hc) (R'.yes rfl r)
      show JnI L (k + 1) st M2
      refine ⟨R'.ok, I.lt, R'.pos I.pos, fun c h1 h2 => by rw [show geti M2 c = geti M c from R'.far c h1]; exact I.far c h1 h2, fun c hc => ?_, fun c hc => ?_, fun r hr h0 c' hc' hg => ?_, fun r hr => ?_, fun r hr => ?_⟩
      · rw [show geti M2 c = geti M c from R'.keep c hc]; exact I.a1 c hc
      · rw [show geti M2 c = geti M c from R'.keep c hc]; exact I.a2 c hc
      · have h1 := hy r
        rw [h0] at h1
        have h2 : 0 ≤ cnA L.length M r := cnU_nonneg L.length 0 M r
        have h3 := (one_bd (k = r)).1
        have h4 : one (k = r) = 0 := by omega
        by_cases e : k = r
        · unfold one at h4; rw [if_pos e] at h4; cases h4
        · exact I.b r (by omega) (by omega) c' hc' hg
      · have h1 := hy r
        by_cases e : r = k
        · subst e
          have := I.none' r (Nat.le_refl _)
          have h3 := (one_bd (r = r)).2
          show cnA L.length M2 r ≤ 1
          omega
        · have h2 := I.few r (by omega)
          have h3 : one (k = r) = 0 := by unfold one; rw [if_neg (fun h => e h.symm)]
          show cnA L.length M2 r ≤ 1
          omega
      · have h1 := hy r
        have h2 := I.none' r (by omega)
        have h3 : one (k = r) = 0 := by unfold one; rw [if_neg (by omega)]
        show cnA L.length M2 r = 0
        omega
/-- A permanent is positive if each row may have a column of its own. -/
theorem pmF_nonneg : ∀ (m : Nat) (F : Nat → Nat → Int) (S : Nat), (∀ i c, 0 ≤ F i c) → 0 ≤ pmF m F S
  | 0, _, _, _ => by show (0 : Int) ≤ 1; decide
  | m + 1, F, S, h => sumN_nonneg (fun c _ => by
    try dsimp only
    split
    · exact Int.mul_nonneg (h 0 c) (pmF_nonneg m _ _ (fun i c => h (i + 1) c))
    · exact Int.le_refl _)
theorem pmF_pos : ∀ (m : Nat) (F : Nat → Nat → Int) (S : Nat) (t : Nat → Nat), S < 65536 → (∀ i c, 0 ≤ F i c) → (∀ i, i < m → t i < 10 ∧ S.testBit (t i) = true ∧ 0 < F i (t i)) → (∀ i j, i < m → j < m → i ≠ j → t i ≠ t j) → 0 < pmF m F S
  | 0, _, _, _, _, _, _, _ => by show (0 : Int) < 1; decide
  | m + 1, F, S, t, hS, h0, h1, h2 => by
    obtain ⟨a1, a2, a3⟩ := h1 0 (by omega)
    have ih := pmF_pos m (fun i => F (i + 1)) (sWithout S (t 0)) (fun i => t (i + 1)) (without_lt hS) (fun i c => h0 (i + 1) c) (fun i hi => by
      obtain ⟨b1, b2, b3⟩ := h1 (i + 1) (by omega)
      refine ⟨b1, ?_, b3⟩
      rw [without_bit S _ _ hS (by omega), b2, decide_eq_false (h2 0 (i + 1) (by omega) (by omega) (by omega))]; rfl) (fun i j hi hj hne => h2 (i + 1) (j + 1) (by omega) (by omega) (by omega))
    have hg := sumN_ge (g := fun c => if S.testBit c = true then F 0 c * pmF m (fun i => F (i + 1)) (sWithout S c) else 0) (n := 10) (c := t 0) (fun c _ => by
      try dsimp only
      split
      · exact Int.mul_nonneg (h0 0 c) (pmF_nonneg m _ _ (fun i c => h0 (i + 1) c))
      · exact Int.le_refl _) a1
    try dsimp only at hg
    rw [if_pos a2] at hg
    have := Int.mul_pos a3 ih
    show 0 < sumN _ 10
    omega
theorem chN_pos {L : List (List Int)} (hL : IsT L) (t : Nat → Nat) (h1 : ∀ i, i < L.length → t i < L.length ∧ gat L i (t i) ≠ 0) (h2 : ∀ i j, i < L.length → j < L.length → i ≠ j → t i ≠ t j) : 0 < chN L (sAll L.length) := by
  have hl := hL.le
  have e : chN L (sAll L.length) = perm (onesL L) := by unfold perm; rw [onesL_len]
  rw [e, perm_pmF hL.ones, onesL_len]
  refine pmF_pos _ _ _ t (all_lt (by omega)) (fun i c => (hL.ones.bd i c).1) (fun i hi => ?_) h2
  obtain ⟨a, b⟩ := h1 i hi
  refine ⟨by omega, by rw [all_bit]; exact decide_eq_true a, ?_⟩
  rw [onesL_at]
  have := hL.bd i (t i)
  omega
/-- If there is no possible choice, some row has no column. -/
theorem some_left {L : List (List Int)} (hL : IsT L) {st : Nat} {M : List Int} (I : JnI L L.length st M) (h : chN L (sAll L.length) ≤ 0) : ∃ r, r < L.length ∧ cnA L.length M r = 0 := by
  apply Classical.byContradiction
  intro hno
  have hl := hL.le
  have hall : ∀ r, r < L.length → ∃ c, c < L.length ∧ geti M c = (r : Int) := fun r hr => by
    have : cnA L.length M r ≠ 0 := fun h0 => hno ⟨r, hr, h0⟩
    obtain ⟨c, hc, _, h2⟩ := cnU_some.1 this
    exact ⟨c, hc, h2⟩
  let t : Nat → Nat := fun r => if hr : r < L.length then Classical.choose (hall r hr) else 0
  have ht : ∀ r, r < L.length → t r < L.length ∧ geti M (t r) = (r : Int) := fun r hr => by
    have e : t r = Classical.choose (hall r hr) := dif_pos hr
    rw [e]; exact Classical.choose_spec (hall r hr)
  have hp := chN_pos hL t (fun i hi => by
    obtain ⟨a, b⟩ := ht i hi
    refine ⟨a, ?_⟩
    have := I.pos (t i) (by omega) (by rw [b]; omega)
    rwa [b, Int.toNat_natCast] at this) (fun i j hi hj hne e => by
    have h1 := (ht i hi).2
    have h2 := (ht j hj).2
    rw [e, h2] at h1
    omega)
  omega
end Go.Proofs.Ytnnaaoobdofooaa
