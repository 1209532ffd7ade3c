/- The short rows are a block. -/
import Derived.Test.YtnnaaoobdofooaaSU
namespace Go.Proofs.Ytnnaaoobdofooaa
open Go.RowKit
set_option maxHeartbeats 1000000
set_option maxRecDepth 100000
theorem shR_bit {n : Nat} (hn : n ≤ 10) {M : List Int} (hM : MOk n M) (st r : Nat) : ∀ k, k ≤ 10 → ((shR n M st k).testBit r = true ↔ r < n ∧ ∀ c, c < k → st.testBit c = false → geti M c ≠ (r : Int))
  | 0, _ => by
    show (sAll n).testBit r = true ↔ _
    rw [all_bit, decide_eq_true_eq]
    exact ⟨fun h => ⟨h, fun c hc => absurd hc (by omega)⟩, fun h => h.1⟩
  | k + 1, hk => by
    have ih := shR_bit hn hM st r k (by omega)
    have hma := hM.at' k (by omega)
    unfold shR
    split
    · rename_i h
      rw [without_bit _ _ _ (shR_lt hn M st k) (by omega)]
      simp only [Bool.and_eq_true, Bool.not_eq_true', decide_eq_false_iff_not]
      rw [ih]
      constructor
      · rintro ⟨⟨h1, h2⟩, h3⟩
        refine ⟨h1, fun c hc hs => ?_⟩
        by_cases e : c = k
        · subst e; omega
        · exact h2 c (by omega) hs
      · rintro ⟨h1, h2⟩
        refine ⟨⟨h1, fun c hc hs => h2 c (by omega) hs⟩, ?_⟩
        have := h2 k (by omega) h.2
        omega
    · rename_i h
      rw [ih]
      constructor
      · rintro ⟨h1, h2⟩
        refine ⟨h1, fun c hc hs => ?_⟩
        by_cases e : c = k
        · subst e
          intro he
          exact h ⟨by omega, hs⟩
        · exact h2 c (by omega) hs
      · rintro ⟨h1, h2⟩
        exact ⟨h1, fun c hc hs => h2 c (by omega) hs⟩
theorem pc_sum (s : Nat) : ∀ n, (pc n s : Int) = sumN (fun c => one (s.testBit c = true)) n
  | 0 => by simp [pc, sumN]
  | n + 1 => by
    show _ = sumN _ n + one (s.testBit n = true)
    rw [← pc_sum s n, pc_succ]
    unfold one
    split <;> simp
theorem tot {n : Nat} {M : List Int} (hn : n ≤ 10) (hM : MOk n M) (s : Nat) : sumN (fun r => cnU n s M r) n = sumN (fun c => one (s.testBit c = false ∧ geti M c ≠ -1)) n := by
  show sumN (fun r => sumN (fun c => if s.testBit c = false ∧ geti M c = (r : Int) then 1 else 0) n) n = _
  rw [sumN_swap]
  refine sumN_congr (fun c hc => ?_)
  have hma := hM.at' c (by omega)
  by_cases h : s.testBit c = false ∧ geti M c ≠ -1
  · have e1 : one (s.testBit c = false ∧ geti M c ≠ -1) = 1 := by unfold one; rw [if_pos h]
    rw [e1]
    have hr := hma.resolve_left h.2
    have := sumN_upd (g := fun _ => 0) (h := fun r : Nat => if s.testBit c = false ∧ geti M c = (r : Int) then (1 : Int) else 0) (c := (geti M c).toNat) (d := 1) (by
      try dsimp only
      rw [if_pos ⟨h.1, by omega⟩]; rfl) (fun j hj => by
      try dsimp only
      rw [if_neg (fun h2 => hj (by omega))]) (n := n) (by omega)
    rw [this, sumN_zero]; rfl
  · have e1 : one (s.testBit c = false ∧ geti M c ≠ -1) = 0 := by unfold one; rw [if_neg h]
    rw [e1, sumN_congr (h := fun _ => 0) (fun r _ => by
      try dsimp only
      rw [if_neg (fun h2 => h ⟨h2.1, by omega⟩)]), sumN_zero]
theorem short_many {L : List (List Int)} (hL : IsT L) {st : Nat} {M : List Int} (I : JnI L L.length st M) {r0 : Nat} (hr0 : r0 < L.length) (h0 : cnA L.length M r0 = 0) : pc L.length st < pc L.length (shR L.length M st 10) := by
  have hl := hL.le
  have t1 := tot hl I.ok st
  have t0 := tot hl I.ok 0
  have b1 : sumN (fun r => cnU L.length 0 M r) L.length ≤ sumN (fun r => if r = r0 then 0 else 1) L.length := sumN_le (fun r hr => by
    try dsimp only
    by_cases e : r = r0
    · subst e; rw [if_pos rfl]; exact Int.le_of_eq h0
    · rw [if_neg e]; exact I.few r hr)
  have b2 := sumN_upd (g := fun _ => 1) (h := fun r : Nat => if r = r0 then (0 : Int) else 1) (c := r0) (d := -1) (by simp) (fun j hj => by simp [hj]) hr0
  rw [sumN_one] at b2
  have c1 : sumN (fun c => one ((0 : Nat).testBit c = false ∧ geti M c ≠ -1)) L.length = sumN (fun c => one (st.testBit c = false ∧ geti M c ≠ -1)) L.length + sumN (fun c => one (st.testBit c = true)) L.length := by
    rw [← sumN_add]
    refine sumN_congr (fun c _ => ?_)
    unfold one
    cases hb : st.testBit c
    · simp
    · have := (I.a1 c hb).2
      simp [this]
  have d1 : sumN (fun r => one ((shR L.length M st 10).testBit r = false)) L.length ≤ sumN (fun r => cnU L.length st M r) L.length := sumN_le (fun r hr => by
    try dsimp only
    unfold one
    split
    · rename_i h
      have hne : cnU L.length st M r ≠ 0 := by
        apply cnU_some.2
        apply Classical.byContradiction
        intro hno
        have : (shR L.length M st 10).testBit r = true := (shR_bit hl I.ok st r 10 (Nat.le_refl _)).2 ⟨hr, fun c hc hs he => by
          by_cases hcn : c < L.length
          · exact hno ⟨c, hcn, hs, he⟩
          · have := I.far c (by omega) hc
            omega⟩
        rw [h] at this; cases this
      have := cnU_nonneg L.length st M r
      omega
    · exact cnU_nonneg _ _ _ _)
  have e1 : sumN (fun r => one ((shR L.length M st 10).testBit r = true)) L.length + sumN (fun r => one ((shR L.length M st 10).testBit r = false)) L.length = L.length := by
    rw [← sumN_add, ← sumN_one]
    refine sumN_congr (fun r _ => ?_)
    unfold one
    cases (shR L.length M st 10).testBit r <;> simp
  have p1 := pc_sum st L.length
  have p2 := pc_sum (shR L.length M st 10) L.length
  omega
/-- The members of a set, ascending. -/
theorem ag_app {n : Nat} {xs : List Int} {x : Int} : ∀ k, k ≤ xs.length → ag n (xs ++ [x]) k = ag n xs k ∧ lastN (xs ++ [x]) k = lastN xs k
  | 0, _ => ⟨rfl, rfl⟩
  | k + 1, hk => by
    have ih := ag_app (n := n) (xs := xs) (x := x) k (by omega)
    have e : geti (xs ++ [x]) k = geti xs k := by unfold geti; rw [List.getD_eq_getElem?_getD, List.getD_eq_getElem?_getD, List.getElem?_append_left (by omega)]
    refine ⟨?_, e⟩
    unfold ag
    rw [ih.1, ih.2, e]
theorem geti_app {xs : List Int} {x : Int} : geti (xs ++ [x]) xs.length = x := by unfold geti; rw [List.getD_eq_getElem?_getD]; simp
theorem lsS_ag {n S : Nat} (hS : ∀ c, S.testBit c = true → c < n) : ∀ k, ag n (lsS S k) (lsS S k).length = true ∧ lastN (lsS S k) (lsS S k).length < (k : Int) ∧ (lsS S k).length = pc k S ∧ ∀ j, j < (lsS S k).length → S.testBit (geti (lsS S k) j).toNat = true
  | 0 => ⟨rfl, by show (-1 : Int) < 0; omega, rfl, fun j hj => absurd hj (by simp [lsS])⟩
  | k + 1 => by
    obtain ⟨h1, h2, h3, h4⟩ := lsS_ag hS k
    have e : lsS S (k + 1) = if S.testBit k = true then lsS S k ++ [(k : Int)] else lsS S k := rfl
    rw [e, pc_succ]
    by_cases hb : S.testBit k = true
    · rw [if_pos hb, if_pos hb]
      have ha := ag_app (n := n) (xs := lsS S k) (x := (k : Int)) (lsS S k).length (Nat.le_refl _)
      have hl : (lsS S k ++ [(k : Int)]).length = (lsS S k).length + 1 := by simp
      rw [hl]
      refine ⟨ag_yes (by rw [ha.1]; exact h1) (by rw [ha.2, geti_app]; exact h2) (by rw [geti_app]; have := hS k hb; omega), ?_, by omega, fun j hj => ?_⟩
      · show geti (lsS S k ++ [(k : Int)]) (lsS S k).length < _
        rw [geti_app]; omega
      · by_cases ej : j < (lsS S k).length
        · have e2 : geti (lsS S k ++ [(k : Int)]) j = geti (lsS S k) j := by unfold geti; rw [List.getD_eq_getElem?_getD, List.getD_eq_getElem?_getD, List.getElem?_append_left ej]
          rw [e2]; exact h4 j ej
        · obtain rfl : j = (lsS S k).length := by omega
          rw [geti_app, Int.toNat_natCast]; exact hb
    · rw [if_neg hb, if_neg hb]
      exact ⟨h1, by omega, by omega, h4⟩
theorem short_block {L : List (List Int)} (hL : IsT L) {st : Nat} {M : List Int} (I : JnI L L.length st M) (h : chN L (sAll L.length) ≤ 0) : blkB L (lsS (shR L.length M st 10) 10) = true := by
  have hl := hL.le
  obtain ⟨r0, hr0, h0⟩ := some_left hL I h
  have hm := short_many hL I hr0 h0
  have hb := fun r => shR_bit hl I.ok st r 10 (Nat.le_refl _)
  generalize shR L.length M st 10 = S at *
  have hS : ∀ c, S.testBit c = true → c < L.length := fun c hc => ((hb c).1 hc).1
  obtain ⟨g1, _, g3, g4⟩ := lsS_ag hS 10
  -- the positive columns of short rows are stuck
  have hpos : ∀ r, S.testBit r = true → ∀ c, c < L.length → 0 < gat L r c → st.testBit c = true := fun r hr c hc hg => by
    obtain ⟨hrn, hrc⟩ := (hb r).1 hr
    by_cases hz : cnA L.length M r = 0
    · exact I.b r hrn hz c hc (by omega)
    · obtain ⟨d, hd, _, hMd⟩ := cnU_some.1 hz
      have hds : st.testBit d = true := by
        cases hx : st.testBit d
        · exact absurd hMd (hrc d (by omega) hx)
        · rfl
      exact I.a2 d hds c hc (by rw [hMd, Int.toNat_natCast]; omega)
  generalize lsS S 10 = xs at *
  have hus : ∀ k, k ≤ xs.length → ∀ c, (us L xs k).testBit c = true → st.testBit c = true := fun k => by
    induction k with
    | zero => intro _ c hc; simp [us] at hc
    | succ k ih =>
      intro hk c hc
      by_cases hcn : c < L.length
      · rw [us_bit L xs k (by omega)] at hc
        simp only [Bool.or_eq_true, decide_eq_true_eq] at hc
        rcases hc with hc | hc
        · exact ih (by omega) c hc
        · exact hpos _ (g4 k (by omega)) c hcn hc
      · rw [us_hi hL xs (by omega)] at hc; cases hc
  have e1 := us_pc hL xs xs.length
  have e2 := pc_sub (hus xs.length (Nat.le_refl _)) L.length
  have e3 := pc_top (s := S) (n := L.length) (fun c hc => by
    cases hx : S.testBit c
    · rfl
    · have := hS c hx; omega) (10 - L.length)
  rw [show L.length + (10 - L.length) = 10 by omega] at e3
  unfold blkB
  rw [g1, decide_eq_true (show pc 16 (us L xs xs.length) < xs.length by omega)]; rfl
end Go.Proofs.Ytnnaaoobdofooaa
