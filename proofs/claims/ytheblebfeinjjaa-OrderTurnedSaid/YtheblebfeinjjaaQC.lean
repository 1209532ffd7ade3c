/- The order of which an order is the written cycles: plain mathematics. -/
import Derived.Test.YtheblebfeinjjaaQB
import Derived.Test.YtheblebfeinjjaaNR
namespace Go.Proofs.Ytheblebfeinjjaa
open Go.RowKit
set_option maxRecDepth 100000
/-- The array while the first so many places are seen. -/
def cyS (l : List Int) : Nat → List Int
  | 0 => List.replicate l.length 0
  | k + 1 => (if isRb l k then cyS l k else (cyS l k).set ((geti l (k - 1)).toNat - 1) (geti l k)).set ((geti l k).toNat - 1) (mxN l k)
def cyd (l : List Int) : List Int := cyS l l.length
theorem cyS_len (l : List Int) : ∀ k, (cyS l k).length = l.length
  | 0 => by simp [cyS]
  | k + 1 => by
    have := cyS_len l k
    unfold cyS
    rw [List.length_set]
    split
    · exact this
    · rw [List.length_set]; exact this
theorem cyd_len (l : List Int) : (cyd l).length = l.length := cyS_len l _
theorem isRb_iff {l : List Int} {k : Nat} : isRb l k = true ↔ mxN l k = geti l k := by unfold isRb; simp
theorem isRb_zero (l : List Int) : isRb l 0 = true := isRb_iff.2 rfl
theorem mxN_rec {l : List Int} {k : Nat} (h : isRb l (k + 1) = false) : mxN l (k + 1) = mxN l k := by
  have e : mxN l (k + 1) = if geti l (k + 1) ≤ mxN l k then mxN l k else geti l (k + 1) := rfl
  by_cases h2 : geti l (k + 1) ≤ mxN l k
  · rw [e, if_pos h2]
  · have : isRb l (k + 1) = true := isRb_iff.2 (by rw [e, if_neg h2])
    rw [h] at this; cases this
theorem tw_mem {p : Int → Bool} {x : Int} : ∀ {l : List Int}, x ∈ l.takeWhile p → p x = true
  | [], h => by simp at h
  | y :: l, h => by
    rw [List.takeWhile_cons] at h
    split at h
    · rename_i h2
      rcases List.mem_cons.1 h with rfl | h3
      · exact h2
      · exact tw_mem h3
    · cases h
theorem tw_all {p : Int → Bool} : ∀ {l : List Int}, (∀ x ∈ l, p x = true) → l.takeWhile p = l
  | [], _ => rfl
  | y :: l, h => by rw [List.takeWhile_cons, if_pos (h y (List.mem_cons_self ..)), tw_all (fun x hx => h x (List.mem_cons_of_mem _ hx))]
theorem IsO.place {l : List Int} (h : IsO l) {i j : Nat} (hi : i < l.length) (hj : j < l.length) (e : (geti l i).toNat - 1 = (geti l j).toNat - 1) : i = j := by
  have a1 := h.lo i hi
  have a2 := h.lo j hj
  exact h.inj hi hj (by omega)
theorem IsO.at_lt {l : List Int} (h : IsO l) {i : Nat} (hi : i < l.length) : (geti l i).toNat - 1 < l.length := by
  have a1 := h.lo i hi
  have a2 := h.hi i hi
  omega
/-- What follows the number at a place in its cycle. -/
def flw (l : List Int) (n i : Nat) : Int := if decide (i + 1 < n) && !isRb l (i + 1) then geti l (i + 1) else mxN l i
theorem cyS_at {l : List Int} (h : IsO l) : ∀ k, k ≤ l.length → ∀ i, i < k → geti (cyS l k) ((geti l i).toNat - 1) = flw l k i
  | 0, _, i, hi => absurd hi (by omega)
  | k + 1, hk, i, hi => by
    have ih := cyS_at h k (by omega)
    have hlen := cyS_len l k
    have hpk := h.at_lt (i := k) (by omega)
    have hlen2 : ((if isRb l k then cyS l k else (cyS l k).set ((geti l (k - 1)).toNat - 1) (geti l k))).length = l.length := by
      split
      · exact hlen
      · rw [List.length_set]; exact hlen
    unfold cyS
    rw [geti_set (by rw [hlen2]; exact hpk)]
    by_cases e : (geti l k).toNat - 1 = (geti l i).toNat - 1
    · have := h.place (i := k) (j := i) (by omega) (by omega) e
      subst this
      rw [if_pos rfl]
      unfold flw
      rw [decide_eq_false (by omega)]; rfl
    · have hne : i ≠ k := fun e2 => e (by rw [e2])
      rw [if_neg e]
      by_cases hr : isRb l k = true
      · rw [if_pos hr, ih i (by omega)]
        unfold flw
        by_cases h1 : i + 1 < k
        · rw [decide_eq_true h1, decide_eq_true (by omega)]
        · have : i + 1 = k := by omega
          rw [decide_eq_false (by omega), this, hr]; simp
      · have hr0 : isRb l k = false := by simpa using hr
        have hk0 : 0 < k := by
          rcases Nat.eq_zero_or_pos k with e0 | e0
          · subst e0; rw [isRb_zero] at hr0; cases hr0
          · exact e0
        rw [if_neg hr, geti_set (by rw [hlen]; exact h.at_lt (by omega))]
        by_cases h1 : i + 1 = k
        · subst h1
          rw [Nat.add_sub_cancel, if_pos rfl]
          unfold flw
          rw [decide_eq_true (by omega), hr0]; rfl
        · rw [if_neg (fun e2 => h1 (by have := h.place (i := k - 1) (j := i) (by omega) (by omega) e2; omega)), ih i (by omega)]
          unfold flw
          rw [decide_eq_true (show i + 1 < k by omega), decide_eq_true (show i + 1 < k + 1 by omega)]
theorem cyd_nx {l : List Int} (h : IsO l) {i : Nat} (hi : i < l.length) : nx (cyd l) (geti l i) = flw l l.length i := by
  have := cyS_at h l.length (Nat.le_refl _) i hi
  unfold nx
  rw [show (geti l i - 1).toNat = (geti l i).toNat - 1 by omega]
  exact this
theorem mxN_mono (l : List Int) {i j : Nat} (h : i ≤ j) : mxN l i ≤ mxN l j := by
  obtain ⟨k, hk, e⟩ := mxN_is l i
  rw [← e]; exact mxN_le l j k (by omega)
/-- The record at which the greatest one so far stands. -/
theorem mxN_at (l : List Int) : ∀ i, ∃ p, p ≤ i ∧ isRb l p = true ∧ mxN l i = geti l p ∧ ∀ m, p < m → m ≤ i → isRb l m = false
  | 0 => ⟨0, Nat.le_refl _, isRb_zero l, rfl, fun m h1 h2 => by omega⟩
  | i + 1 => by
    cases hr : isRb l (i + 1)
    · obtain ⟨p, h1, h2, h3, h4⟩ := mxN_at l i
      refine ⟨p, by omega, h2, by rw [mxN_rec hr, h3], fun m m1 m2 => ?_⟩
      by_cases e : m = i + 1
      · subst e; exact hr
      · exact h4 m m1 (by omega)
    · exact ⟨i + 1, Nat.le_refl _, hr, isRb_iff.1 hr, fun m h1 h2 => by omega⟩
theorem flw_is {l : List Int} {i : Nat} (hi : i < l.length) : ∃ p, p < l.length ∧ flw l l.length i = geti l p ∧ ((p = i + 1 ∧ isRb l p = false) ∨ (p ≤ i ∧ isRb l p = true ∧ (∀ m, p < m → m ≤ i → isRb l m = false) ∧ (i + 1 < l.length → isRb l (i + 1) = true))) := by
  unfold flw
  by_cases h1 : i + 1 < l.length
  · rw [decide_eq_true h1]
    cases hr : isRb l (i + 1)
    · exact ⟨i + 1, h1, by simp, .inl ⟨rfl, hr⟩⟩
    · obtain ⟨p, h2, h3, h4, h5⟩ := mxN_at l i
      exact ⟨p, by omega, by simp [h4], .inr ⟨h2, h3, h5, fun _ => rfl⟩⟩
  · rw [decide_eq_false h1]
    obtain ⟨p, h2, h3, h4, h5⟩ := mxN_at l i
    exact ⟨p, by omega, by simp [h4], .inr ⟨h2, h3, h5, fun h => absurd h h1⟩⟩
theorem flw_inj {l : List Int} (h : IsO l) {i j : Nat} (hi : i < l.length) (hj : j < l.length) (e : flw l l.length i = flw l l.length j) : i = j := by
  obtain ⟨p, p1, p2, p3⟩ := flw_is hi
  obtain ⟨q, q1, q2, q3⟩ := flw_is hj
  have hpq := h.inj p1 q1 (by rw [← p2, ← q2, e])
  subst hpq
  rcases p3 with ⟨a1, a2⟩ | ⟨a1, a2, a3, a4⟩ <;> rcases q3 with ⟨b1, b2⟩ | ⟨b1, b2, b3, b4⟩
  · omega
  · rw [a2] at b2; cases b2
  · rw [b2] at a2; cases a2
  · rcases Nat.lt_trichotomy i j with hlt | rfl | hlt
    · have h1 := a4 (by omega)
      have h2 := b3 (i + 1) (by omega) (by omega)
      rw [h1] at h2; cases h2
    · rfl
    · have h1 := b4 (by omega)
      have h2 := a3 (j + 1) (by omega) (by omega)
      rw [h1] at h2; cases h2
theorem IsO.cyd {l : List Int} (h : IsO l) : IsO (cyd l) := by
  have hat : ∀ k, k < l.length → ∃ i, i < l.length ∧ geti l i = (k : Int) + 1 ∧ geti (Go.Proofs.Ytheblebfeinjjaa.cyd l) k = flw l l.length i := fun k hk => by
    obtain ⟨i, hi, e⟩ := h.find (v := (k : Int) + 1) (by omega) (by omega)
    refine ⟨i, hi, e, ?_⟩
    have := cyS_at h l.length (Nat.le_refl _) i hi
    rw [e, show ((k : Int) + 1).toNat - 1 = k by omega] at this
    exact this
  refine ⟨by rw [cyd_len]; exact h.le, fun k hk => ?_, fun k hk => ?_, fun k m hk hm => ?_⟩
  · rw [cyd_len] at hk
    obtain ⟨i, hi, -, e⟩ := hat k hk
    obtain ⟨p, p1, p2, -⟩ := flw_is hi
    rw [e, p2]; exact h.lo p p1
  · rw [cyd_len] at hk ⊢
    obtain ⟨i, hi, -, e⟩ := hat k hk
    obtain ⟨p, p1, p2, -⟩ := flw_is hi
    rw [e, p2]; exact h.hi p p1
  · rw [cyd_len] at hk
    obtain ⟨i, hi, e1, e2⟩ := hat k hk
    obtain ⟨j, hj, e3, e4⟩ := hat m (by omega)
    rw [e2, e4]
    intro e
    have := flw_inj h hj hi e
    subst this
    omega
/-- The rest of a cycle that begins at a record. -/
theorem cyd_go {l : List Int} (h : IsO l) {s : Int} : ∀ (m i f : Nat), i + m + 1 = l.length → m < f → mxN l i = s → cycGo (cyd l) s f (nx (cyd l) (geti l i)) = (l.drop (i + 1)).takeWhile (fun x => decide (x ≤ s))
  | 0, i, f, hm, hf, hs => by
    rw [cyd_nx h (by omega)]
    unfold flw
    rw [decide_eq_false (by omega), List.drop_eq_nil_of_le (by omega), hs]
    cases f with
    | zero => rfl
    | succ f => simp [cycGo]
  | m + 1, i, f, hm, hf, hs => by
    obtain ⟨f, rfl⟩ : ∃ g, f = g + 1 := ⟨f - 1, by omega⟩
    rw [cyd_nx h (by omega), drop_cons (by omega)]
    have hne : geti l (i + 1) ≠ s := fun e => by
      obtain ⟨p, p1, p2, p3, -⟩ := mxN_at l i
      exact h.ne (i + 1) p (by omega) (by omega) (by rw [← p3, hs, e])
    unfold flw
    rw [decide_eq_true (by omega)]
    cases hr : isRb l (i + 1)
    · have hm2 := mxN_rec hr
      have hle := mxN_le l (i + 1) (i + 1) (Nat.le_refl _)
      rw [hm2, hs] at hle
      have ih := cyd_go h (s := s) m (i + 1) f (by omega) (by omega) (by rw [hm2, hs])
      simp only [Bool.not_false, Bool.and_self, if_true]
      rw [List.takeWhile_cons, decide_eq_true hle, if_pos rfl]
      conv => lhs; unfold cycGo
      rw [if_neg hne, ih]
    · have hle := mxN_mono l (show i ≤ i + 1 by omega)
      rw [hs, isRb_iff.1 hr] at hle
      simp only [Bool.not_true, Bool.and_false, Bool.false_eq_true, if_false]
      rw [List.takeWhile_cons, decide_eq_false (by omega), hs]
      simp [cycGo]
theorem cyd_cyc {l : List Int} (h : IsO l) {i : Nat} (hi : i < l.length) (hr : isRb l i = true) : cyc (cyd l) (geti l i) = geti l i :: (l.drop (i + 1)).takeWhile (fun x => decide (x ≤ geti l i)) := by
  unfold cyc
  have := h.le
  rw [cyd_go h (s := geti l i) (l.length - 1 - i) i 12 (by omega) (by omega) (isRb_iff.1 hr)]
theorem cyd_rec {l : List Int} (h : IsO l) {i : Nat} (hi : i < l.length) (hr : isRb l i = true) : isG (cyd l) (geti l i) = true := by
  unfold isG
  rw [cyd_cyc h hi hr, List.all_eq_true]
  intro x hx
  rcases List.mem_cons.1 hx with rfl | hx
  · exact decide_eq_true (Int.le_refl _)
  · exact tw_mem (p := fun x => decide (x ≤ geti l i)) hx
theorem cyd_up {l : List Int} (h : IsO l) {C : List Int} (hC : ∀ x ∈ C, nx (cyd l) x ∈ C) : ∀ (m i : Nat), i + m + 1 = l.length → geti l i ∈ C → mxN l i ∈ C
  | 0, i, hm, hi => by
    have := hC _ hi
    rw [cyd_nx h (by omega)] at this
    unfold flw at this
    rwa [decide_eq_false (by omega)] at this
  | m + 1, i, hm, hi => by
    have h2 := hC _ hi
    rw [cyd_nx h (by omega)] at h2
    unfold flw at h2
    rw [decide_eq_true (by omega)] at h2
    cases hr : isRb l (i + 1)
    · rw [hr] at h2
      have := cyd_up h hC m (i + 1) (by omega) (by simpa using h2)
      rwa [mxN_rec hr] at this
    · rw [hr] at h2; simpa using h2
theorem cyd_not {l : List Int} (h : IsO l) {i : Nat} (hi : i < l.length) (hr : isRb l i = false) : isG (cyd l) (geti l i) = false := by
  cases hg : isG (cyd l) (geti l i)
  · rfl
  · have h1 := h.lo i hi
    have h2 := h.hi i hi
    have h3 := cyd_up h (C := cyc (cyd l) (geti l i)) (fun x hx => cyc_next h.cyd h1 (by rw [cyd_len]; exact h2) hx) (l.length - 1 - i) i (by omega) (cyc_self _ _)
    have h4 := isG_le hg h3
    have h5 := mxN_le l i i (Nat.le_refl _)
    have : isRb l i = true := isRb_iff.2 (by omega)
    rw [hr] at this; cases this
theorem cyd_isG {l : List Int} (h : IsO l) {i : Nat} (hi : i < l.length) : isG (cyd l) (geti l i) = isRb l i := by
  cases hr : isRb l i
  · exact cyd_not h hi hr
  · exact cyd_rec h hi hr
theorem takeWhile_len (l : List Int) (p : Int → Bool) : (l.takeWhile p).length ≤ l.length := by
  induction l with
  | nil => simp
  | cons x l ih => rw [List.takeWhile_cons]; split <;> simp <;> omega
/-- The first numbers up to one that is greater. -/
theorem low_step {k : Int} : ∀ {l : List Int}, (∀ x ∈ l.takeWhile (fun x => decide (x ≤ k)), x ≤ k) ∧ l.takeWhile (fun x => decide (x ≤ k)) ++ l.drop (l.takeWhile (fun x => decide (x ≤ k))).length = l
  | [] => by simp
  | x :: l => by
    obtain ⟨h1, h2⟩ := low_step (k := k) (l := l)
    rw [List.takeWhile_cons]
    by_cases h : x ≤ k
    · rw [decide_eq_true h, if_pos rfl]
      refine ⟨fun y hy => ?_, ?_⟩
      · rcases List.mem_cons.1 hy with rfl | hy
        · exact h
        · exact h1 y hy
      · rw [List.length_cons, List.drop_succ_cons, List.cons_append, h2]
    · rw [decide_eq_false h]; simp
theorem low_more {k k2 : Int} (hk : k ≤ k2) : ∀ {l : List Int}, l.takeWhile (fun x => decide (x ≤ k2)) = l.takeWhile (fun x => decide (x ≤ k)) ++ (l.drop (l.takeWhile (fun x => decide (x ≤ k))).length).takeWhile (fun x => decide (x ≤ k2))
  | [] => by simp
  | x :: l => by
    have ih := low_more hk (l := l)
    rw [List.takeWhile_cons, List.takeWhile_cons]
    by_cases h : x ≤ k
    · rw [decide_eq_true h, decide_eq_true (show x ≤ k2 by omega), if_pos rfl, if_pos rfl, List.length_cons, List.drop_succ_cons, List.cons_append, ← ih]
    · rw [decide_eq_false h]; simp [List.takeWhile_cons]
theorem low_end {k : Int} : ∀ {l : List Int} {p : Nat}, p = (l.takeWhile (fun x => decide (x ≤ k))).length → p < l.length → k < geti l p
  | [], p, _, h => by simp at h
  | x :: l, p, e, h => by
    rw [List.takeWhile_cons] at e
    by_cases hx : x ≤ k
    · rw [decide_eq_true hx, if_pos rfl, List.length_cons] at e
      subst e
      exact low_end (l := l) rfl (by simpa using h)
    · rw [decide_eq_false hx] at e
      simp only [Bool.false_eq_true, if_false, List.length_nil] at e
      subst e
      show k < x
      omega
theorem wrN_cyd {l : List Int} (h : IsO l) : ∀ k : Nat, k ≤ l.length → wrN (cyd l) k = l.takeWhile (fun x => decide (x ≤ (k : Int)))
  | 0, _ => by
    cases l with
    | nil => rfl
    | cons x t =>
      have := h.lo 0 (by simp)
      have e : geti (x :: t) 0 = x := rfl
      rw [List.takeWhile_cons, decide_eq_false (by rw [e] at this; omega)]; rfl
  | k + 1, hk => by
    have ih := wrN_cyd h k (by omega)
    unfold wrN
    rw [ih]
    obtain ⟨i, hi, e⟩ := h.find (v := (k : Int) + 1) (by omega) (by omega)
    obtain ⟨p, hp⟩ : ∃ p, p = (l.takeWhile (fun x => decide (x ≤ (k : Int)))).length := ⟨_, rfl⟩
    obtain ⟨l1, l2⟩ := low_step (k := (k : Int)) (l := l)
    have hpl : p ≤ l.length := by rw [hp]; exact takeWhile_len _ _
    have hlow : ∀ j, j < p → geti l j ≤ k := fun j hj => by
      refine l1 _ ?_
      rw [hp] at hj
      have : geti l j = geti (l.takeWhile (fun x => decide (x ≤ (k : Int)))) j := by
        conv => lhs; rw [← l2]
        rw [geti_app, if_pos hj]
      rw [this]; exact geti_mem hj
    have hpi : p ≤ i := Nat.le_of_not_lt (fun hlt => by have := hlow i hlt; omega)
    have hend := low_end hp (by omega)
    rw [show ((k + 1 : Nat) : Int) = (k : Int) + 1 by omega]
    rw [low_more (show (k : Int) ≤ (k : Int) + 1 by omega) (l := l), ← hp, drop_cons (show p < l.length by omega), List.takeWhile_cons]
    congr 1
    by_cases he : p = i
    · subst he
      have hr : isRb l p = true := isRb_iff.2 (mxN_eq.2 ⟨⟨p, Nat.le_refl _, rfl⟩, fun j hj => by
        by_cases e2 : j = p
        · subst e2; exact Int.le_refl _
        · have := hlow j (by omega); omega⟩)
      have h1 := cyd_rec h hi hr
      have h2 := cyd_cyc h hi hr
      rw [e] at h1 h2
      rw [if_pos h1, h2, e, decide_eq_true (Int.le_refl _), if_pos rfl]
    · have hgt : (k : Int) + 1 < geti l p := by
        have : geti l p ≠ geti l i := h.ne i p hi (by omega)
        omega
      have hr : isRb l i = false := by
        cases hr : isRb l i
        · rfl
        · have := isRb_iff.1 hr
          have := mxN_le l i p hpi
          omega
      have h1 := cyd_not h hi hr
      rw [e] at h1
      rw [h1, decide_eq_false (by omega)]; simp
/-- The written cycles of it are the order. -/
theorem wr_cyd {l : List Int} (h : IsO l) : wr' (cyd l) = l := by
  unfold wr'
  rw [cyd_len, wrN_cyd h l.length (Nat.le_refl _)]
  refine tw_all (fun x hx => ?_)
  obtain ⟨i, hi, rfl⟩ := mem_geti hx
  exact decide_eq_true (h.hi i hi)
theorem wr_len {l : List Int} (h : IsO l) : (wr' l).length = l.length := (wr_perm h).length_eq
theorem cyd_wr {l : List Int} (h : IsO l) : cyd (wr' l) = l :=
  turn_back (f := cyd) (g := wr') (fun l hl => ⟨hl.cyd, cyd_len l⟩) (fun l hl => wr_cyd hl) l h
theorem cyd_records {l : List Int} (h : IsO l) : cntN (isGb (cyd l)) l.length = cntN (isRb l) l.length := by
  rw [cntN_sS, cntN_sS, sS_perm h]
  refine sS_ext (fun i hi => ?_)
  have h1 := h.lo i hi
  unfold isGb
  rw [show (((geti l i).toNat - 1 : Nat) : Int) + 1 = geti l i by omega, cyd_isG h hi]
/-- As many records of the written cycles as cycles. -/
theorem wr_records {l : List Int} (h : IsO l) : cntN (isRb (wr' l)) l.length = cntN (isGb l) l.length := by
  have h1 := cyd_records h.wr
  rw [cyd_wr h, wr_len h] at h1
  exact h1.symm
theorem invL_nx {l : List Int} (h : IsO l) {x : Int} (h1 : 1 ≤ x) (h2 : x ≤ l.length) : nx l (nx (invL l) x) = x ∧ 1 ≤ nx (invL l) x ∧ nx (invL l) x ≤ l.length := by
  obtain ⟨i, hi, e1, e2⟩ := invL_get h (k := (x - 1).toNat) (by omega)
  have e3 : nx (invL l) x = (i : Int) + 1 := e2
  refine ⟨?_, by rw [e3]; omega, by rw [e3]; omega⟩
  rw [e3]
  unfold nx
  rw [show ((i : Int) + 1 - 1).toNat = i by omega, e1]
  omega
theorem inv_cyc_sub {l : List Int} (h : IsO l) {s x : Int} (h1 : 1 ≤ s) (h2 : s ≤ l.length) (hx : x ∈ cyc (invL l) s) : x ∈ cyc l s := by
  have hi := h.inv
  have hlen := invL_len l
  obtain ⟨hd, -⟩ := cyc_ok hi h1 (by rw [hlen]; exact h2)
  obtain ⟨i, hi2, rfl⟩ := mem_geti hx
  clear hx
  induction i with
  | zero => rw [hd.zero]; exact cyc_self l s
  | succ i ih =>
    have ih := ih (by omega)
    have b1 := hd.lo i (by omega)
    have b2 := hd.hi i (by omega)
    rw [hlen] at b2
    rw [hd.next i hi2]
    obtain ⟨e1, e2, e3⟩ := invL_nx h b1 b2
    -- the number before it has it as its next one
    have h3 : geti (cyc (invL l) s) i ∈ cyc l (nx (invL l) (geti (cyc (invL l) s) i)) := by
      have := cyc_next h e2 e3 (cyc_self l _)
      rwa [e1] at this
    have h4 := cyc_symm h e2 e3 h3
    exact cyc_sub h h1 h2 ih h4
theorem inv_isG {l : List Int} (h : IsO l) {s : Int} (h1 : 1 ≤ s) (h2 : s ≤ l.length) : isG (invL l) s = isG l s := by
  unfold isG
  rw [Bool.eq_iff_iff, List.all_eq_true, List.all_eq_true]
  constructor
  · intro ha x hx
    refine ha x ?_
    have := inv_cyc_sub h.inv h1 (by rw [invL_len]; exact h2) (x := x) (by rw [invL_inv h]; exact hx)
    exact this
  · intro ha x hx
    exact ha x (inv_cyc_sub h h1 h2 hx)
theorem cntN_ext {f g : Nat → Bool} : ∀ {n : Nat}, (∀ i, i < n → f i = g i) → cntN f n = cntN g n
  | 0, _ => rfl
  | n + 1, h => by
    unfold cntN
    rw [cntN_ext (fun i hi => h i (by omega)), h n (by omega)]
theorem inv_cycles {l : List Int} (h : IsO l) : cntN (isGb (invL l)) l.length = cntN (isGb l) l.length :=
  cntN_ext fun i hi => inv_isG h (by omega) (by omega)
end Go.Proofs.Ytheblebfeinjjaa
