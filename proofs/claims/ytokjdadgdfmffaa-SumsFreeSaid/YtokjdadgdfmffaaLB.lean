/- Shortest parts: what they are, and when there are some. -/
import Derived.Test.YtokjdadgdfmffaaLA
namespace Go.Proofs.Ytokjdadgdfmffaa
/-- Positions whose elements have this sum. -/
def IsP (m n : Nat) : Nat → List (Int × Int) → List Int → Int → Int → Prop
  | _, [], r, a, b => r = [] ∧ a = 0 ∧ b = 0
  | i, e :: l, r, a, b => IsP m n (i + 1) l r a b ∨ ∃ r', r = (i : Int) :: r' ∧ IsP m n (i + 1) l r' ((a - e.1) % m) ((b - e.2) % n)
theorem IsP_nil (m n : Nat) : ∀ (l : List (Int × Int)) (i : Nat), IsP m n i l [] 0 0
  | [], _ => ⟨rfl, rfl, rfl⟩
  | _ :: l, i => .inl (IsP_nil m n l (i + 1))
theorem IsP_nil_inv {m n : Nat} : ∀ {l : List (Int × Int)} {i : Nat} {a b : Int}, IsP m n i l [] a b → a = 0 ∧ b = 0
  | [], _, _, _, h => h.2
  | _ :: l, i, a, b, h => by
    rcases h with h | ⟨r', h, _⟩
    · exact IsP_nil_inv h
    · cases h
theorem sh_sound {m n : Nat} (hg : Gr m n) : ∀ (l : List (Int × Int)) (i : Nat) (a b : Int), 0 < (shF m n i l a b).length → IsP m n i l (shF m n i l a b) a b
  | [], _, _, _, h => by simp [shF] at h
  | e :: l, i, a, b, h => by
    unfold shF at h ⊢
    by_cases he : e.1 = a ∧ e.2 = b
    · rw [if_pos he]
      refine .inr ⟨[], rfl, ?_⟩
      rw [he.1, he.2, Int.sub_self, Int.sub_self, Int.zero_emod, Int.zero_emod]
      exact IsP_nil m n l (i + 1)
    · rw [if_neg he] at h ⊢
      dsimp only at h ⊢
      by_cases hc : 0 < (shF m n (i + 1) l ((a - e.1) % m) ((b - e.2) % n)).length ∧ ((shF m n (i + 1) l a b).length = 0 ∨ (shF m n (i + 1) l ((a - e.1) % m) ((b - e.2) % n)).length < (shF m n (i + 1) l a b).length)
      · rw [if_pos hc]
        exact .inr ⟨_, rfl, sh_sound hg l (i + 1) _ _ hc.1⟩
      · rw [if_neg hc] at h ⊢
        exact .inl (sh_sound hg l (i + 1) a b h)
theorem sh_none {m n : Nat} (hg : Gr m n) : ∀ (l : List (Int × Int)), (∀ e ∈ l, El m n e.1 e.2) → ∀ (i : Nat) (a b : Int), El m n a b → (shF m n i l a b).length = 0 → ∀ r, IsP m n i l r a b → r = []
  | [], _, _, _, _, _, _, r, hr => hr.1
  | e :: l, hl, i, a, b, hab, h, r, hr => by
    have he := hl e (by simp)
    have hl' : ∀ e ∈ l, El m n e.1 e.2 := fun e h => hl e (List.mem_cons_of_mem _ h)
    have hel := el_mod hg (a - e.1) (b - e.2)
    unfold shF at h
    by_cases hc0 : e.1 = a ∧ e.2 = b
    · rw [if_pos hc0] at h; simp at h
    · rw [if_neg hc0] at h
      dsimp only at h
      by_cases hc : 0 < (shF m n (i + 1) l ((a - e.1) % m) ((b - e.2) % n)).length ∧ ((shF m n (i + 1) l a b).length = 0 ∨ (shF m n (i + 1) l ((a - e.1) % m) ((b - e.2) % n)).length < (shF m n (i + 1) l a b).length)
      · rw [if_pos hc] at h; simp at h
      · rw [if_neg hc] at h
        rcases hr with hr | ⟨r', rfl, hr⟩
        · exact sh_none hg l hl' (i + 1) a b hab h r hr
        · exfalso
          have hz : (shF m n (i + 1) l ((a - e.1) % m) ((b - e.2) % n)).length = 0 := by
            rcases Nat.eq_zero_or_pos (shF m n (i + 1) l ((a - e.1) % m) ((b - e.2) % n)).length with h0 | h0
            · exact h0
            · exact absurd ⟨h0, .inl h⟩ hc
          have hr0 := sh_none hg l hl' (i + 1) _ _ hel hz r' hr
          subst hr0
          obtain ⟨h1, h2⟩ := IsP_nil_inv hr
          obtain ⟨a1, a2, a3, a4⟩ := hab
          obtain ⟨e1, e2, e3, e4⟩ := he
          apply hc0
          have h3 := emod_eq_iff.2 (show (m : Int) ∣ a - e.1 from Int.dvd_of_emod_eq_zero h1)
          have h4 := emod_eq_iff.2 (show (n : Int) ∣ b - e.2 from Int.dvd_of_emod_eq_zero h2)
          rw [Int.emod_eq_of_lt a1 a2, Int.emod_eq_of_lt e1 e2] at h3
          rw [Int.emod_eq_of_lt a3 a4, Int.emod_eq_of_lt e3 e4] at h4
          exact ⟨h3.symm, h4.symm⟩
/-! Exactly so many. -/
theorem exE_drop (n : Nat) (xs : List Int) {i : Nat} (h : i < xs.length) : exE n (xs.drop i) = ((1 : Int) % n, geti xs i % n) :: exE n (xs.drop (i + 1)) := by
  unfold exE
  rw [List.drop_eq_getElem_cons h, List.map_cons, geti_eq h]
theorem isP_sum {n : Nat} (xs : List Int) : ∀ (k i : Nat) (r : List Int) (a b : Int), i + k = xs.length → IsP n n i (exE n (xs.drop i)) r a b → a = a % n → b = b % n →
    (∀ x ∈ r, (i : Int) ≤ x ∧ x < xs.length) ∧ r.Pairwise (· < ·) ∧ (r.length : Int) % n = a ∧ (r.map fun x => geti xs x.toNat).sum % n = b
  | 0, i, r, a, b, hi, h, _, _ => by
    rw [List.drop_of_length_le (by omega)] at h
    obtain ⟨rfl, rfl, rfl⟩ := h
    simp
  | k + 1, i, r, a, b, hi, h, ha, hb => by
    rw [exE_drop n xs (by omega)] at h
    rcases h with h | ⟨r', rfl, h⟩
    · obtain ⟨h1, h2, h3, h4⟩ := isP_sum xs k (i + 1) r a b (by omega) h ha hb
      exact ⟨fun x hx => by have := h1 x hx; omega, h2, h3, h4⟩
    · obtain ⟨h1, h2, h3, h4⟩ := isP_sum xs k (i + 1) r' _ _ (by omega) h (Int.emod_emod_of_dvd _ (Int.dvd_refl _)).symm (Int.emod_emod_of_dvd _ (Int.dvd_refl _)).symm
      refine ⟨fun x hx => ?_, ?_, ?_, ?_⟩
      · rcases List.mem_cons.1 hx with rfl | hx
        · omega
        · have := h1 x hx; omega
      · rw [List.pairwise_cons]
        exact ⟨fun x hx => by have := h1 x hx; omega, h2⟩
      · rw [List.length_cons, Int.natCast_add, Int.natCast_one]
        dsimp only at h3
        rw [ha, Int.add_emod, h3, Int.emod_add_emod, Int.sub_add_cancel]
      · rw [List.map_cons, List.sum_cons, Int.toNat_natCast]
        dsimp only at h4
        rw [hb, Int.add_emod, h4, Int.add_emod_emod]
        congr 1
        omega
theorem isP_of {n : Nat} (xs : List Int) : ∀ (k i : Nat) (s : List Nat), i + k = xs.length → s.Sublist (List.range' i k) → IsP n n i (exE n (xs.drop i)) (s.map fun x : Nat => (x : Int)) ((s.length : Int) % n) ((s.map (geti xs)).sum % n)
  | 0, i, s, hi, h => by
    rw [List.drop_of_length_le (by omega)]
    have : s = [] := by simpa using h
    subst this
    exact ⟨rfl, by simp, by simp⟩
  | k + 1, i, s, hi, h => by
    rw [exE_drop n xs (by omega)]
    rw [List.range'_succ] at h
    cases h with
    | cons _ h => exact .inl (isP_of (n := n) xs k (i + 1) s (by omega) h)
    | cons_cons _ h =>
      rename_i s'
      refine .inr ⟨s'.map fun x : Nat => (x : Int), rfl, ?_⟩
      have h2 := isP_of (n := n) xs k (i + 1) s' (by omega) h
      have e1 : ((((i :: s').length : Nat) : Int) % n - 1 % n) % n = (s'.length : Int) % n := by
        rw [List.length_cons, ← Int.sub_emod, Int.natCast_add, Int.natCast_one, Int.add_sub_cancel]
      have e2 : (((i :: s').map (geti xs)).sum % n - geti xs i % n) % n = (s'.map (geti xs)).sum % n := by
        rw [List.map_cons, List.sum_cons, ← Int.sub_emod]
        congr 1
        omega
      dsimp only
      rw [e1, e2]
      exact h2
theorem perm_sum {a b : List Int} (h : a.Perm b) : a.sum = b.sum := by
  induction h with
  | nil => rfl
  | cons x _ ih => rw [List.sum_cons, List.sum_cons, ih]
  | swap x y l => rw [List.sum_cons, List.sum_cons, List.sum_cons, List.sum_cons]; omega
  | trans _ _ h1 h2 => exact h1.trans h2
theorem exL_some {n : Nat} (hn : 1 ≤ n ∧ n ≤ 20) (xs : List Int) (hl : xs.length = 2 * n - 1) :
    (exL n xs).length = n ∧ (∀ x ∈ exL n xs, 0 ≤ x ∧ x < xs.length) ∧ (exL n xs).Pairwise (· < ·) ∧ ((exL n xs).map fun x => geti xs x.toNat).sum % n = 0 := by
  have hg : Gr n n := ⟨hn.1, by omega, hn.1, by omega⟩
  have hels : ∀ e ∈ exE n xs, El n n e.1 e.2 := fun e he => by
    obtain ⟨i, hi, rfl⟩ := List.mem_iff_getElem.1 he
    exact exE_el hn xs i hi
  have hpos : 0 < (exL n xs).length := by
    rcases Nat.eq_zero_or_pos (exL n xs).length with h0 | h0
    · exfalso
      obtain ⟨s, t, h1, h2, h3⟩ := EG_all n hn.1 hn.2 Nat (geti xs) (List.range xs.length) (by rw [List.length_range]; omega)
      obtain ⟨s', h4, h5⟩ := List.exists_perm_sublist (List.sublist_append_left s t) h1.symm
      have h6 := isP_of (n := n) xs xs.length 0 s' (by omega) (by rwa [← List.range_eq_range'])
      rw [List.drop_zero] at h6
      have e1 : (s'.length : Int) % n = 0 := by rw [h4.length_eq, h2]; exact Int.emod_self
      have e2 : (s'.map (geti xs)).sum % n = 0 := by
        have : (s'.map (geti xs)).sum = (s.map (geti xs)).sum := by
          have hp := h4.map (geti xs)
          exact perm_sum hp
        rw [this]
        exact Int.emod_eq_zero_of_dvd h3
      rw [e1, e2] at h6
      have h7 := sh_none hg (exE n xs) hels 0 0 0 (el_zero hg) h0 _ h6
      have h8 := congrArg List.length h7
      rw [List.length_map, h4.length_eq, h2] at h8
      simp at h8
      omega
    · exact h0
  have hsd := sh_sound hg (exE n xs) 0 0 0 hpos
  have hfit := isP_sum (n := n) xs xs.length 0 (exL n xs) 0 0 (by omega) (by rw [List.drop_zero]; exact hsd) (by simp) (by simp)
  obtain ⟨h1, h2, h3, h4⟩ := hfit
  have hle : (exL n xs).length ≤ (exE n xs).length := shF_len _ _ _ _ _ _
  rw [show (exE n xs).length = xs.length by simp [exE]] at hle
  refine ⟨?_, fun x hx => by simpa using h1 x hx, h2, h4⟩
  have hd := Int.dvd_of_emod_eq_zero h3
  have hd2 : n ∣ (exL n xs).length := Int.natCast_dvd_natCast.1 hd
  obtain ⟨c, hc⟩ := hd2
  have hc1 : c = 1 := by
    rcases Nat.lt_or_ge c 2 with h | h
    · have : c ≠ 0 := fun e => by subst e; omega
      omega
    · have : n * 2 ≤ n * c := Nat.mul_le_mul_left n h
      omega
  rw [hc1] at hc
  omega
/-! Adding a number to all. -/
theorem sh_turn {n : Nat} (hg : Gr n n) (c : Int) : ∀ (l : List (Int × Int)), (∀ e ∈ l, El n n e.1 e.2) → ∀ (i : Nat) (a b : Int), El n n a b →
    shF n n i (l.map fun e => (e.1, (e.2 + e.1 * c) % n)) a ((b + a * c) % n) = shF n n i l a b
  | [], _, _, _, _, _ => rfl
  | e :: l, hl, i, a, b, hab => by
    have he := hl e (by simp)
    have hl' : ∀ e ∈ l, El n n e.1 e.2 := fun e h => hl e (List.mem_cons_of_mem _ h)
    have hel := el_mod hg (a - e.1) (b - e.2)
    have ih1 := sh_turn hg c l hl' (i + 1) a b hab
    have ih2 := sh_turn hg c l hl' (i + 1) _ _ hel
    have hiff : (e.1 = a ∧ (e.2 + e.1 * c) % n = (b + a * c) % n) ↔ (e.1 = a ∧ e.2 = b) := by
      constructor
      · rintro ⟨h1, h2⟩
        refine ⟨h1, ?_⟩
        rw [h1, emod_eq_iff, show e.2 + a * c - (b + a * c) = e.2 - b by omega] at h2
        have h3 := emod_eq_iff.2 h2
        rw [Int.emod_eq_of_lt he.2.2.1 he.2.2.2, Int.emod_eq_of_lt hab.2.2.1 hab.2.2.2] at h3
        exact h3
      · rintro ⟨h1, h2⟩
        exact ⟨h1, by rw [h1, h2]⟩
    have hsub : ((b + a * c) % n - (e.2 + e.1 * c) % n) % n = ((b - e.2) % n + (a - e.1) % n * c) % n := by
      rw [← Int.sub_emod, Int.emod_add_emod, Int.add_emod (b - e.2), Int.mul_emod, Int.emod_emod_of_dvd _ (Int.dvd_refl _), ← Int.mul_emod, ← Int.add_emod, Int.sub_mul]
      congr 1
      omega
    rw [List.map_cons]
    unfold shF
    dsimp only
    rw [hsub, ih1, ih2]
    by_cases hc : e.1 = a ∧ e.2 = b
    · rw [if_pos hc, if_pos (hiff.2 hc)]
    · rw [if_neg hc, if_neg (fun h => hc (hiff.1 h))]
theorem exL_turn {n : Nat} (hn : 1 ≤ n ∧ n ≤ 20) (xs : List Int) (c : Int) : exL n (xs.map (· + c)) = exL n xs := by
  have hg : Gr n n := ⟨hn.1, by omega, hn.1, by omega⟩
  have hels : ∀ e ∈ exE n xs, El n n e.1 e.2 := fun e he => by
    obtain ⟨i, hi, rfl⟩ := List.mem_iff_getElem.1 he
    exact exE_el hn xs i hi
  have h := sh_turn hg c (exE n xs) hels 0 0 0 (el_zero hg)
  have e1 : (exE n xs).map (fun e => (e.1, (e.2 + e.1 * c) % (n : Int))) = exE n (xs.map (· + c)) := by
    unfold exE
    rw [List.map_map, List.map_map]
    refine List.map_congr_left fun x _ => ?_
    dsimp only [Function.comp]
    congr 1
    rw [Int.emod_add_emod, Int.add_emod, Int.mul_emod, Int.emod_emod_of_dvd _ (Int.dvd_refl _), ← Int.mul_emod, Int.one_mul, ← Int.add_emod]
  rw [e1] at h
  simpa [exL] using h
end Go.Proofs.Ytokjdadgdfmffaa
