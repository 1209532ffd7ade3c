/- Shortest parts are shortest; long lists have parts with the sum zero. -/
import Derived.Test.YtokjdadgdfmffaaNA
import Derived.Test.YtokjdadgdfmffaaLB
namespace Go.Proofs.Ytokjdadgdfmffaa
open Ols
/-- No part with this sum is shorter than the one that is found. -/
theorem sh_min {m n : Nat} (hg : Gr m n) : ∀ (l : List (Int × Int)), (∀ e ∈ l, El m n e.1 e.2) → ∀ (i : Nat) (a b : Int), El m n a b → ∀ r, IsP m n i l r a b → r ≠ [] → 0 < (shF m n i l a b).length ∧ (shF m n i l a b).length ≤ r.length
  | [], _, _, _, _, _, r, hr, hne => absurd hr.1 hne
  | e :: l, hl, i, a, b, hab, r, hr, hne => by
    have he := hl e (by simp)
    have hl' : ∀ e ∈ l, El m n e.1 e.2 := fun e h => hl e (List.mem_cons_of_mem _ h)
    have hel := el_mod hg (a - e.1) (b - e.2)
    have hr0 : 0 < r.length := List.length_pos_iff.2 hne
    unfold shF
    by_cases hc0 : e.1 = a ∧ e.2 = b
    · rw [if_pos hc0]; simp; omega
    · rw [if_neg hc0]
      dsimp only
      have h1 : IsP m n (i + 1) l r a b → 0 < (shF m n (i + 1) l a b).length ∧ (shF m n (i + 1) l a b).length ≤ r.length := fun h => sh_min hg l hl' (i + 1) a b hab r h hne
      have h2 : ∀ r', IsP m n (i + 1) l r' ((a - e.1) % m) ((b - e.2) % n) → r' ≠ [] → 0 < (shF m n (i + 1) l ((a - e.1) % m) ((b - e.2) % n)).length ∧ (shF m n (i + 1) l ((a - e.1) % m) ((b - e.2) % n)).length ≤ r'.length := fun r' h h' => sh_min hg l hl' (i + 1) _ _ hel r' h h'
      generalize shF m n (i + 1) l ((a - e.1) % m) ((b - e.2) % n) = p2 at *
      generalize shF m n (i + 1) l a b = p1 at *
      rcases hr with hr | ⟨r', rfl, hr⟩
      · have := h1 hr
        split
        · rename_i hc
          simp only [List.length_cons]; omega
        · omega
      · have hr' : r' ≠ [] := fun e0 => by
          subst e0
          obtain ⟨q1, q2⟩ := IsP_nil_inv hr
          obtain ⟨a1, a2, a3, a4⟩ := hab
          obtain ⟨e1, e2, e3, e4⟩ := he
          apply hc0
          have h3 := emod_eq_iff.2 (show (m : Int) ∣ a - e.1 from Int.dvd_of_emod_eq_zero q1)
          have h4 := emod_eq_iff.2 (show (n : Int) ∣ b - e.2 from Int.dvd_of_emod_eq_zero q2)
          rw [Int.emod_eq_of_lt a1 a2, Int.emod_eq_of_lt e1 e2] at h3
          rw [Int.emod_eq_of_lt a3 a4, Int.emod_eq_of_lt e3 e4] at h4
          exact ⟨h3.symm, h4.symm⟩
        have := h2 r' hr hr'
        split
        · simp only [List.length_cons]; omega
        · rename_i hc
          simp only [List.length_cons]; omega
/-- The positions of a part, and its sum. -/
theorem isP_pos {m n : Nat} (es : Nat → Int × Int) : ∀ (k i : Nat) (r : List Int) (a b : Int), IsP m n i ((List.range' i k).map es) r a b →
    ∃ T : List Nat, T.Sublist (List.range' i k) ∧ r = T.map (fun x : Nat => (x : Int)) ∧ (m : Int) ∣ a - sF (fun x => (es x).1) T ∧ (n : Int) ∣ b - sF (fun x => (es x).2) T
  | 0, i, r, a, b, h => by
    obtain ⟨h1, h2, h3⟩ := h
    subst h1 h2 h3
    exact ⟨[], List.Sublist.refl _, rfl, ⟨0, by show (0 : Int) - 0 = _; omega⟩, ⟨0, by show (0 : Int) - 0 = _; omega⟩⟩
  | k + 1, i, r, a, b, h => by
    rw [List.range'_succ, List.map_cons] at h
    rcases h with h | ⟨r', rfl, h⟩
    · obtain ⟨T, h1, h2, h3⟩ := isP_pos es k (i + 1) r a b h
      exact ⟨T, by rw [List.range'_succ]; exact h1.cons i, h2, h3⟩
    · obtain ⟨T, h1, h2, h3, h4⟩ := isP_pos es k (i + 1) r' _ _ h
      refine ⟨i :: T, by rw [List.range'_succ]; exact h1.cons_cons i, by rw [h2]; rfl, ?_, ?_⟩
      · have h5 : (m : Int) ∣ (a - (es i).1) % m - (a - (es i).1) := ⟨-((a - (es i).1) / m), by
          have := Int.emod_add_mul_ediv (a - (es i).1) m
          rw [Int.mul_neg]; omega⟩
        have h6 := Int.dvd_sub h3 h5
        show (m : Int) ∣ a - ((es i).1 + sF (fun x => (es x).1) T)
        have e : (a - (es i).1) % m - sF (fun x => (es x).1) T - ((a - (es i).1) % m - (a - (es i).1)) = a - ((es i).1 + sF (fun x => (es x).1) T) := by omega
        rwa [e] at h6
      · have h5 : (n : Int) ∣ (b - (es i).2) % n - (b - (es i).2) := ⟨-((b - (es i).2) / n), by
          have := Int.emod_add_mul_ediv (b - (es i).2) n
          rw [Int.mul_neg]; omega⟩
        have h6 := Int.dvd_sub h4 h5
        show (n : Int) ∣ b - ((es i).2 + sF (fun x => (es x).2) T)
        have e : (b - (es i).2) % n - sF (fun x => (es x).2) T - ((b - (es i).2) % n - (b - (es i).2)) = b - ((es i).2 + sF (fun x => (es x).2) T) := by omega
        rwa [e] at h6
/-- Positions are a part with their sum. -/
theorem isP_mk {m n : Nat} (es : Nat → Int × Int) : ∀ (k i : Nat) (T : List Nat) (a b : Int), T.Sublist (List.range' i k) → a % m = sF (fun x => (es x).1) T % m → b % n = sF (fun x => (es x).2) T % n → (T = [] → a = 0 ∧ b = 0) → a = a % m → b = b % n →
    IsP m n i ((List.range' i k).map es) (T.map fun x : Nat => (x : Int)) a b
  | 0, i, T, a, b, hT, _, _, h0, _, _ => by
    have : T = [] := List.eq_nil_of_sublist_nil (by simpa using hT)
    subst this
    exact ⟨rfl, (h0 rfl).1, (h0 rfl).2⟩
  | k + 1, i, T, a, b, hT, ha, hb, h0, ra, rb => by
    rw [List.range'_succ, List.map_cons]
    rw [List.range'_succ] at hT
    cases hT with
    | cons _ h => exact .inl (isP_mk es k (i + 1) T a b h ha hb h0 ra rb)
    | cons_cons _ h =>
      rename_i T'
      have e1 : (a - (es i).1) % m = sF (fun x => (es x).1) T' % m := by
        have h1 : a % m = ((es i).1 + sF (fun x => (es x).1) T') % m := ha
        rw [emod_eq_iff] at h1 ⊢
        have e : a - ((es i).1 + sF (fun x => (es x).1) T') = a - (es i).1 - sF (fun x => (es x).1) T' := by omega
        rwa [e] at h1
      have e2 : (b - (es i).2) % n = sF (fun x => (es x).2) T' % n := by
        have h1 : b % n = ((es i).2 + sF (fun x => (es x).2) T') % n := hb
        rw [emod_eq_iff] at h1 ⊢
        have e : b - ((es i).2 + sF (fun x => (es x).2) T') = b - (es i).2 - sF (fun x => (es x).2) T' := by omega
        rwa [e] at h1
      refine .inr ⟨T'.map fun x : Nat => (x : Int), rfl, ?_⟩
      refine isP_mk es k (i + 1) T' _ _ h ?_ ?_ ?_ ?_ ?_
      · rw [Int.emod_emod, e1]
      · rw [Int.emod_emod, e2]
      · intro e0
        subst e0
        have z1 : sF (fun x => (es x).1) [] = 0 := rfl
        have z2 : sF (fun x => (es x).2) [] = 0 := rfl
        rw [e1, e2, z1, z2, Int.zero_emod, Int.zero_emod]
        exact ⟨rfl, rfl⟩
      · rw [Int.emod_emod]
      · rw [Int.emod_emod]
theorem perm_filter {L T R : List Nat} (hn : L.Nodup) (h : (T ++ R).Perm L) : (L.filter fun x => decide (x ∈ T)).Perm T := by
  have h1 := (h.filter fun x => decide (x ∈ T)).symm
  refine h1.trans ?_
  have hn2 := List.nodup_append.1 (h.nodup_iff.2 hn)
  rw [List.filter_append, List.filter_eq_self.2 (fun x hx => decide_eq_true hx), List.filter_eq_nil_iff.2 (fun x hx => by
    rw [decide_eq_true_iff]
    intro hT
    exact hn2.2.2 x hT x hx rfl), List.append_nil]
theorem sub_pos {k : Nat} {T : List Nat} (h : T.Sublist (List.range' 0 k)) : T.Nodup := (List.nodup_range' (s := 0) (n := k)).sublist h
/-- Of so many positions some have the sum zero. -/
theorem olson_pos {m n k : Nat} (hg : Gr m n) (h12 : m ≤ 12) (hdv : m ∣ n) (es : Nat → Int × Int) {Z : List Nat} (hZ : Z.Sublist (List.range' 0 k)) (hl : m + n ≤ Z.length + 1) :
    ∃ T : List Nat, T.Sublist (List.range' 0 k) ∧ T ≠ [] ∧ T.length ≤ Z.length ∧ IsP m n 0 ((List.range' 0 k).map es) (T.map fun x : Nat => (x : Int)) 0 0 := by
  obtain ⟨g1, g2, g3, g4⟩ := hg
  obtain ⟨T, R, h1, h2, h3, h4⟩ := olson m m (Nat.le_refl _) (by omega) h12 n hdv (by omega) (fun x => (es x).1) (fun x => (es x).2) Z hl
  have hp := perm_filter (sub_pos hZ) h1
  have hs : (Z.filter fun x => decide (x ∈ T)).Sublist (List.range' 0 k) := List.filter_sublist.trans hZ
  have hne : (Z.filter fun x => decide (x ∈ T)) ≠ [] := fun e => by
    rw [e] at hp
    exact h2 hp.symm.eq_nil
  refine ⟨_, hs, hne, List.length_filter_le _ _, ?_⟩
  refine isP_mk es k 0 _ 0 0 hs ?_ ?_ (fun e => absurd e hne) ?_ ?_
  · rw [sF_perm _ hp, Int.zero_emod]
    exact (Int.emod_eq_zero_of_dvd h3).symm
  · rw [sF_perm _ hp, Int.zero_emod]
    exact (Int.emod_eq_zero_of_dvd h4).symm
  · rw [Int.zero_emod]
  · rw [Int.zero_emod]
theorem range_es (l : List (Int × Int)) : l = (List.range' 0 l.length).map fun j => l.getD j (0, 0) := by
  apply List.ext_getElem (by simp)
  intro i h1 h2
  simp [h1]
/-- A list without a part with the sum zero is short. -/
theorem free_short {m n : Nat} (hg : Gr m n) (h12 : m ≤ 12) (hdv : m ∣ n) {l : List (Int × Int)} (hl : ∀ e ∈ l, El m n e.1 e.2) (h0 : El m n 0 0) (h : (shF m n 0 l 0 0).length = 0) : l.length + 1 < m + n := by
  apply Nat.lt_of_not_le
  intro hlt
  obtain ⟨T, t1, t2, t3, t4⟩ := olson_pos hg h12 hdv (fun j => l.getD j (0, 0)) (List.Sublist.refl (List.range' 0 l.length)) (by rw [List.length_range']; exact hlt)
  rw [← range_es] at t4
  have := sh_none hg l hl 0 0 0 h0 h _ t4
  exact t2 (List.map_eq_nil_iff.1 this)
/-- A shortest part with the sum zero is not longer than the bound. -/
theorem part_short {m n : Nat} (hg : Gr m n) (h12 : m ≤ 12) (hdv : m ∣ n) {l : List (Int × Int)} (hl : ∀ e ∈ l, El m n e.1 e.2) (h0 : El m n 0 0) (hz : 0 < (shF m n 0 l 0 0).length) : (shF m n 0 l 0 0).length + 1 ≤ m + n := by
  apply Nat.le_of_not_lt
  intro hlt
  have hs := sh_sound hg l 0 0 0 hz
  have hmin := fun r h h' => (sh_min hg l hl 0 0 0 h0 r h h').2
  generalize shF m n 0 l 0 0 = z at *
  rw [range_es l] at hs
  obtain ⟨Z, z1, z2, -, -⟩ := isP_pos _ _ _ _ _ _ hs
  have hZl : Z.length = z.length := by rw [z2, List.length_map]
  obtain ⟨T, t1, t2, t3, t4⟩ := olson_pos hg h12 hdv (fun j => l.getD j (0, 0)) ((List.tail_sublist Z).trans z1) (by rw [List.length_tail]; omega)
  rw [← range_es] at t4
  have := hmin _ t4 (fun e => t2 (List.map_eq_nil_iff.1 e))
  rw [List.length_map] at this
  rw [List.length_tail] at t3
  omega
/-- Without one of its elements a shortest part is free. -/
theorem rest_free {m n : Nat} (hg : Gr m n) {l : List (Int × Int)} (hl : ∀ e ∈ l, El m n e.1 e.2) (h0 : El m n 0 0) {q : Int} {z : List Int} (hz : shF m n 0 l 0 0 = q :: z) : (shF m n 0 (z.map fun x => l.getD x.toNat (0, 0)) 0 0).length = 0 := by
  apply Classical.byContradiction
  intro hne
  have hs := sh_sound hg l 0 0 0 (by rw [hz]; simp)
  have hmin := fun r h h' => (sh_min hg l hl 0 0 0 h0 r h h').2
  rw [hz] at hs hmin
  rw [range_es l] at hs
  obtain ⟨Z, z1, z2, -, -⟩ := isP_pos _ _ _ _ _ _ hs
  cases Z with
  | nil => cases z2
  | cons q' Z =>
    rw [List.map_cons] at z2
    injection z2 with z2 z3
    subst z3
    have hs2 := sh_sound hg (((Z.map fun x : Nat => (x : Int))).map fun x => l.getD x.toNat (0, 0)) 0 0 0 (by omega)
    generalize shF m n 0 (((Z.map fun x : Nat => (x : Int))).map fun x => l.getD x.toNat (0, 0)) 0 0 = r at *
    rw [List.map_map] at hs2
    have he : ((fun x : Int => l.getD x.toNat (0, 0)) ∘ fun x : Nat => (x : Int)) = fun x : Nat => l.getD x (0, 0) := rfl
    rw [he] at hs2
    have hZ : Z.map (fun x : Nat => l.getD x (0, 0)) = (List.range' 0 Z.length).map fun j => l.getD (Z.getD j 0) (0, 0) := by
      apply List.ext_getElem (by simp)
      intro i h1 h2
      simp at h1
      simp [h1]
    rw [hZ] at hs2
    obtain ⟨T, t1, t2, t3, t4⟩ := isP_pos _ _ _ _ _ _ hs2
    have hsub : (T.map fun j => Z.getD j 0).Sublist Z := by
      have h1 := t1.map fun j => Z.getD j 0
      have h2 : (List.range' 0 Z.length).map (fun j => Z.getD j 0) = Z := by
        apply List.ext_getElem (by simp)
        intro i h1 h2
        simp [h2]
      rwa [h2] at h1
    have hsum : ∀ f : Nat → Int, sF f (T.map fun j => Z.getD j 0) = sF (fun j => f (Z.getD j 0)) T := fun f => by
      clear t1 t2 t3 t4 hsub
      induction T with
      | nil => rfl
      | cons x T ih => show f _ + _ = f _ + _; rw [ih]
    have hTne : T ≠ [] := fun e => by
      rw [e] at t2
      rw [t2] at hne; exact hne rfl
    have hk := isP_mk (m := m) (n := n) (fun j => l.getD j (0, 0)) l.length 0 (T.map fun j => Z.getD j 0) 0 0 (hsub.trans ((List.sublist_cons_self q' Z).trans z1)) (by
      rw [hsum, Int.zero_emod]
      have := Int.dvd_neg.2 t3
      rw [show -(0 - sF (fun x => ((fun j => l.getD (Z.getD j 0) (0, 0)) x).1) T) = sF (fun x => ((fun j => l.getD (Z.getD j 0) (0, 0)) x).1) T by omega] at this
      exact (Int.emod_eq_zero_of_dvd this).symm) (by
      rw [hsum, Int.zero_emod]
      have := Int.dvd_neg.2 t4
      rw [show -(0 - sF (fun x => ((fun j => l.getD (Z.getD j 0) (0, 0)) x).2) T) = sF (fun x => ((fun j => l.getD (Z.getD j 0) (0, 0)) x).2) T by omega] at this
      exact (Int.emod_eq_zero_of_dvd this).symm) (fun e => absurd (List.map_eq_nil_iff.1 e) hTne) (by rw [Int.zero_emod]) (by rw [Int.zero_emod])
    rw [← range_es] at hk
    have h5 := hmin _ hk (fun e => hTne (List.map_eq_nil_iff.1 (List.map_eq_nil_iff.1 e)))
    rw [List.length_map, List.length_map] at h5
    have h6 := hsub.length_le
    rw [List.length_map] at h6
    simp only [List.length_cons, List.length_map] at h5
    omega
end Go.Proofs.Ytokjdadgdfmffaa
