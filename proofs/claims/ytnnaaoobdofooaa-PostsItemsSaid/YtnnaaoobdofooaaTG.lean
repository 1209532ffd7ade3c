/- The most pairs: mathematics. -/
import Derived.Test.YtnnaaoobdofooaaTD
import Derived.Test.YtnnaaoobdofooaaTF
import Derived.Test.YtnnaaoobdofooaaTA
namespace Go.Proofs.Ytnnaaoobdofooaa
open Go.RowKit
set_option maxHeartbeats 1000000
set_option maxRecDepth 100000
def rsP (M : List Int) (r : Nat) : List Int := (prs M r).map (·.1)
def csP (M : List Int) (r : Nat) : List Int := (prs M r).map (·.2)
theorem geti_apl {xs ys : List Int} {i : Nat} (h : i < xs.length) : geti (xs ++ ys) i = geti xs i := by unfold geti; rw [List.getD_eq_getElem?_getD, List.getD_eq_getElem?_getD, List.getElem?_append_left h]
theorem rsP_len (M : List Int) (r : Nat) : (rsP M r).length = (prs M r).length := by unfold rsP; rw [List.length_map]
theorem csP_len (M : List Int) (r : Nat) : (csP M r).length = (prs M r).length := by unfold csP; rw [List.length_map]
theorem fst1_no {xs : List Int} {x : Int} : ∀ {k : Nat}, fst1 xs x k = -1 ↔ ∀ c, c < k → geti xs c ≠ x
  | 0 => ⟨fun _ c hc => absurd hc (by omega), fun _ => rfl⟩
  | k + 1 => by
    have ih := fst1_no (xs := xs) (x := x) (k := k)
    have hb := fst1_bd xs x k
    unfold fst1
    by_cases h : fst1 xs x k = -1
    · rw [if_pos h]
      by_cases e : geti xs k = x
      · rw [if_pos e]
        exact ⟨fun h2 => by omega, fun h2 => absurd e (h2 k (by omega))⟩
      · rw [if_neg e]
        refine ⟨fun _ c hc => ?_, fun _ => rfl⟩
        by_cases ec : c = k
        · subst ec; exact e
        · exact ih.1 h c (by omega)
    · rw [if_neg h]
      exact ⟨fun h2 => absurd h2 h, fun h2 => absurd (ih.2 (fun c hc => h2 c (by omega))) h⟩
theorem fst1_at {xs : List Int} {x : Int} : ∀ {k : Nat}, fst1 xs x k ≠ -1 → geti xs (fst1 xs x k).toNat = x
  | 0, h => absurd rfl h
  | k + 1, h => by
    unfold fst1 at h ⊢
    by_cases h1 : fst1 xs x k = -1
    · rw [if_pos h1] at h ⊢
      by_cases e : geti xs k = x
      · rw [if_pos e]; rw [Int.toNat_natCast]; exact e
      · rw [if_neg e] at h; exact absurd rfl h
    · rw [if_neg h1]; exact fst1_at h1
theorem prs_at (M : List Int) : ∀ r i, i < (prs M r).length → 0 ≤ geti (rsP M r) i ∧ geti (rsP M r) i < r ∧ geti (csP M r) i = fst1 M (geti (rsP M r) i) 10 ∧ geti (csP M r) i ≠ -1
  | 0, i, h => absurd h (by simp [prs])
  | r + 1, i, h => by
    have ih := prs_at M r i
    by_cases hf : fst1 M (r : Int) 10 = -1
    · have e : prs M (r + 1) = prs M r := by show (if _ then _ else _) = _; rw [if_pos hf]
      rw [e] at h
      have h2 := ih h
      unfold rsP csP at h2 ⊢
      rw [e]
      exact ⟨h2.1, by omega, h2.2.2⟩
    · have e : prs M (r + 1) = prs M r ++ [((r : Int), fst1 M (r : Int) 10)] := by show (if _ then _ else _) = _; rw [if_neg hf]
      have e1 : rsP M (r + 1) = rsP M r ++ [(r : Int)] := by unfold rsP; rw [e, List.map_append]; rfl
      have e2 : csP M (r + 1) = csP M r ++ [fst1 M (r : Int) 10] := by unfold csP; rw [e, List.map_append]; rfl
      rw [e, List.length_append, List.length_singleton] at h
      rw [e1, e2]
      by_cases hi : i < (prs M r).length
      · have h2 := ih hi
        rw [geti_apl (by rw [rsP_len]; exact hi), geti_apl (by rw [csP_len]; exact hi)]
        exact ⟨h2.1, by omega, h2.2.2⟩
      · obtain rfl : i = (prs M r).length := by omega
        have g1 : geti (rsP M r ++ [(r : Int)]) (prs M r).length = r := by have := geti_app (xs := rsP M r) (x := (r : Int)); rwa [rsP_len] at this
        have g2 : geti (csP M r ++ [fst1 M (r : Int) 10]) (prs M r).length = fst1 M (r : Int) 10 := by have := geti_app (xs := csP M r) (x := fst1 M (r : Int) 10); rwa [csP_len] at this
        rw [g1, g2]
        exact ⟨by omega, by omega, rfl, hf⟩
theorem prs_asc (M : List Int) : ∀ r i j, i < j → j < (prs M r).length → geti (rsP M r) i < geti (rsP M r) j
  | 0, i, j, _, h => absurd h (by simp [prs])
  | r + 1, i, j, hij, h => by
    have ih := prs_asc M r i j hij
    by_cases hf : fst1 M (r : Int) 10 = -1
    · have e : prs M (r + 1) = prs M r := by show (if _ then _ else _) = _; rw [if_pos hf]
      rw [e] at h
      have h2 := ih h
      unfold rsP at h2 ⊢
      rw [e]
      exact h2
    · have e : prs M (r + 1) = prs M r ++ [((r : Int), fst1 M (r : Int) 10)] := by show (if _ then _ else _) = _; rw [if_neg hf]
      have e1 : rsP M (r + 1) = rsP M r ++ [(r : Int)] := by unfold rsP; rw [e, List.map_append]; rfl
      rw [e, List.length_append, List.length_singleton] at h
      rw [e1]
      by_cases hi : j < (prs M r).length
      · rw [geti_apl (i := i) (by rw [rsP_len]; omega), geti_apl (i := j) (by rw [rsP_len]; exact hi)]
        exact ih hi
      · obtain rfl : j = (prs M r).length := by omega
        have g1 : geti (rsP M r ++ [(r : Int)]) (prs M r).length = r := by have := geti_app (xs := rsP M r) (x := (r : Int)); rwa [rsP_len] at this
        rw [g1, geti_apl (by rw [rsP_len]; omega)]
        exact (prs_at M r i (by omega)).2.1
theorem prs_sum (M : List Int) : ∀ r, ((prs M r).length : Int) = sumN (fun q => one (fst1 M (q : Int) 10 ≠ -1)) r
  | 0 => rfl
  | r + 1 => by
    show _ = sumN _ r + one (fst1 M (r : Int) 10 ≠ -1)
    rw [← prs_sum M r]
    unfold one
    by_cases hf : fst1 M (r : Int) 10 = -1
    · have e : prs M (r + 1) = prs M r := by show (if _ then _ else _) = _; rw [if_pos hf]
      rw [e, if_neg (fun h => h hf)]; omega
    · have e : prs M (r + 1) = prs M r ++ [((r : Int), fst1 M (r : Int) 10)] := by show (if _ then _ else _) = _; rw [if_neg hf]
      rw [e, if_pos hf, List.length_append, List.length_singleton]; omega
theorem mb_iff {xs : List Int} : ∀ {k v : Nat}, mb xs k v = true ↔ ∃ j, j < k ∧ geti xs j = (v : Int)
  | 0, v => ⟨fun h => by simp [mb] at h, fun ⟨j, hj, _⟩ => absurd hj (by omega)⟩
  | k + 1, v => by
    unfold mb
    rw [Bool.or_eq_true, decide_eq_true_eq, mb_iff]
    constructor
    · rintro (⟨j, hj, e⟩ | e)
      · exact ⟨j, by omega, e⟩
      · exact ⟨k, by omega, e⟩
    · rintro ⟨j, hj, e⟩
      by_cases ej : j = k
      · subst ej; exact Or.inr e
      · exact Or.inl ⟨j, by omega, e⟩
/-- Pairs as the reference asks for them. -/
structure PrOk (L : List (List Int)) (rs cs : List Int) (i : Nat) : Prop where
  r : 0 ≤ geti rs i ∧ geti rs i < L.length
  c : 0 ≤ geti cs i ∧ geti cs i < L.length
  up : 0 < i → geti rs (i - 1) < geti rs i
  new : mb cs i (geti cs i).toNat = false
  pos : gat L (geti rs i).toNat (geti cs i).toNat ≠ 0
theorem prs_ok {L : List (List Int)} (hL : IsT L) {st : Nat} {M : List Int} (I : JnI L L.length st M) : ∀ i, i < (prs M L.length).length → PrOk L (rsP M L.length) (csP M L.length) i := fun i hi => by
  have hl := hL.le
  obtain ⟨h1, h2, h3, h4⟩ := prs_at M L.length i hi
  have hb := fst1_bd M (geti (rsP M L.length) i) 10
  have hat : geti M (geti (csP M L.length) i).toNat = geti (rsP M L.length) i := by rw [h3]; exact fst1_at (by rw [← h3]; exact h4)
  rw [← h3] at hb
  have hc : geti (csP M L.length) i < L.length := by
    apply Classical.byContradiction
    intro hno
    have := I.far (geti (csP M L.length) i).toNat (by omega) (by omega)
    omega
  refine ⟨⟨h1, h2⟩, ⟨by omega, hc⟩, fun h0 => prs_asc M _ _ _ (by omega) hi, ?_, ?_⟩
  · rw [← Bool.not_eq_true, mb_iff]
    rintro ⟨j, hj, e⟩
    obtain ⟨a1, a2, a3, a4⟩ := prs_at M L.length j (by omega)
    have hat2 : geti M (geti (csP M L.length) j).toNat = geti (rsP M L.length) j := by rw [a3]; exact fst1_at (by rw [← a3]; exact a4)
    have := prs_asc M L.length j i hj hi
    have e2 : (geti (csP M L.length) j).toNat = (geti (csP M L.length) i).toNat := by omega
    rw [e2] at hat2
    omega
  · have := I.pos (geti (csP M L.length) i).toNat (by omega) (by rw [hat]; omega)
    rwa [hat] at this
theorem lsS_mb {S v : Nat} (h : S.testBit v = true) : ∀ {k}, v < k → mb (lsS S k) (lsS S k).length v = true
  | k + 1, hk => by
    have e : lsS S (k + 1) = if S.testBit k = true then lsS S k ++ [(k : Int)] else lsS S k := rfl
    rw [e]
    by_cases ev : v = k
    · subst ev
      rw [if_pos h, mb_iff]
      exact ⟨(lsS S v).length, by rw [List.length_append, List.length_singleton]; omega, geti_app⟩
    · have ih := lsS_mb h (k := k) (by omega)
      split
      · rw [mb_iff] at ih ⊢
        obtain ⟨j, hj, e2⟩ := ih
        exact ⟨j, by rw [List.length_append]; omega, by rw [geti_apl hj]; exact e2⟩
      · exact ih
theorem andNot_tb {s t c : Nat} (hs : s < 65536) (ht : t < 65536) : (sAndNot s t).testBit c = (s.testBit c && !t.testBit c) := by
  unfold sAndNot
  rw [Nat.testBit_and]
  have := Nat.testBit_two_pow_sub_succ (n := 16) (x := t) (by omega) c
  rw [show 65535 - t = 2 ^ 16 - (t + 1) by omega, this]
  by_cases hc : c < 16
  · simp [hc]
  · have : s.testBit c = false := Nat.testBit_lt_two_pow (Nat.lt_of_lt_of_le hs (by have := Nat.pow_le_pow_right (n := 2) (by omega) (show 16 ≤ c by omega); omega))
    rw [this]; simp
/-- The rows that cover the table together with the stuck columns. -/
def rowS (n : Nat) (M : List Int) (st : Nat) : Nat := sAndNot (sAll n) (shR n M st 10)
theorem rowS_bit {n : Nat} (hn : n ≤ 10) (M : List Int) (st c : Nat) : (rowS n M st).testBit c = (decide (c < n) && !(shR n M st 10).testBit c) := by
  unfold rowS
  rw [andNot_tb (all_lt (by omega)) (shR_lt hn M st 10), all_bit]
theorem rowS_lt {n : Nat} (hn : n ≤ 10) (M : List Int) (st : Nat) : rowS n M st < 65536 := Nat.lt_of_le_of_lt Nat.and_le_left (all_lt (by omega))
theorem most_cover {L : List (List Int)} (hL : IsT L) {st : Nat} {M : List Int} (I : JnI L L.length st M) (i k : Nat) (hi : i < L.length) (hk : k < L.length) (hg : 0 < gat L i k) :
    mb (lsS (rowS L.length M st) 10) (lsS (rowS L.length M st) 10).length i = true ∨ mb (lsS st 10) (lsS st 10).length k = true := by
  have hl := hL.le
  cases hb : (shR L.length M st 10).testBit i
  · exact Or.inl (lsS_mb (by rw [rowS_bit hl, hb, decide_eq_true hi]; rfl) (by omega))
  · refine Or.inr (lsS_mb ?_ (by omega))
    obtain ⟨hrn, hrc⟩ := (shR_bit hl I.ok st i 10 (Nat.le_refl _)).1 hb
    by_cases hz : cnA L.length M i = 0
    · exact I.b i hrn hz k hk (by omega)
    · obtain ⟨d, hd, _, hMd⟩ := cnU_some.1 hz
      have hds : st.testBit d = true := by
        cases hx : st.testBit d
        · exact absurd hMd (hrc d (by omega) hx)
        · rfl
      exact I.a2 d hds k hk (by rw [hMd, Int.toNat_natCast]; omega)
theorem most_count {L : List (List Int)} (hL : IsT L) {st : Nat} {M : List Int} (I : JnI L L.length st M) : (lsS (rowS L.length M st) 10).length + (lsS st 10).length = (prs M L.length).length := by
  have hl := hL.le
  have t1 := tot hl I.ok st
  have t0 := tot hl I.ok 0
  have c1 : sumN (fun c => one ((0 : Nat).testBit c = false ∧ geti M c ≠ -1)) L.length = sumN (fun c => one (st.testBit c = false ∧ geti M c ≠ -1)) L.length + sumN (fun c => one (st.testBit c = true)) L.length := by
    rw [← sumN_add]
    refine sumN_congr (fun c _ => ?_)
    unfold one
    cases hb : st.testBit c
    · simp
    · have := (I.a1 c hb).2
      simp [this]
  have hle : ∀ r, cnU L.length st M r ≤ cnU L.length 0 M r := fun r => sumN_le (fun c _ => by
    try dsimp only
    by_cases h : st.testBit c = false ∧ geti M c = (r : Int)
    · rw [if_pos h, if_pos ⟨by simp, h.2⟩]; omega
    · rw [if_neg h]; split <;> omega)
  have d1 : sumN (fun r => one ((rowS L.length M st).testBit r = true)) L.length = sumN (fun r => cnU L.length st M r) L.length := sumN_congr (fun r hr => by
    rw [rowS_bit hl, decide_eq_true hr, Bool.true_and]
    have h0 := cnU_nonneg L.length st M r
    have h1 := hle r
    have h2 : cnU L.length 0 M r ≤ 1 := I.few r hr
    have hb := shR_bit hl I.ok st r 10 (Nat.le_refl _)
    unfold one
    cases hx : (shR L.length M st 10).testBit r
    · have hne : cnU L.length st M r ≠ 0 := by
        apply cnU_some.2
        apply Classical.byContradiction
        intro hno
        have : (shR L.length M st 10).testBit r = true := hb.2 ⟨hr, fun c hc hs he => by
          by_cases hcn : c < L.length
          · exact hno ⟨c, hcn, hs, he⟩
          · have := I.far c (by omega) hc
            omega⟩
        rw [hx] at this; cases this
      simp; omega
    · have hz : cnU L.length st M r = 0 := by
        apply Classical.byContradiction
        intro hno
        obtain ⟨c, hc, h3, h4⟩ := cnU_some.1 hno
        exact (hb.1 hx).2 c (by omega) h3 h4
      simp; omega)
  have e1 : sumN (fun q => one (fst1 M (q : Int) 10 ≠ -1)) L.length = sumN (fun r => cnU L.length 0 M r) L.length := sumN_congr (fun r hr => by
    have h0 := cnU_nonneg L.length 0 M r
    have h2 : cnU L.length 0 M r ≤ 1 := I.few r hr
    unfold one
    by_cases hf : fst1 M (r : Int) 10 = -1
    · rw [if_neg (fun h => h hf)]
      have hz : cnU L.length 0 M r = 0 := by
        apply Classical.byContradiction
        intro hno
        obtain ⟨c, hc, h3, h4⟩ := cnU_some.1 hno
        exact fst1_no.1 hf c (by omega) h4
      omega
    · rw [if_pos hf]
      have hne : cnU L.length 0 M r ≠ 0 := by
        apply cnU_some.2
        have hb := fst1_bd M (r : Int) 10
        have ha := fst1_at hf
        refine ⟨(fst1 M (r : Int) 10).toNat, ?_, by simp, ha⟩
        apply Classical.byContradiction
        intro hno
        have := I.far (fst1 M (r : Int) 10).toNat (by omega) (by omega)
        omega
      omega)
  have hS1 : ∀ c, (rowS L.length M st).testBit c = true → c < L.length := fun c h => by
    rw [rowS_bit hl] at h
    simp only [Bool.and_eq_true, decide_eq_true_eq] at h
    exact h.1
  have top : ∀ S : Nat, (∀ c, S.testBit c = true → c < L.length) → pc 10 S = pc L.length S := fun S hS => by
    have e3 := pc_top (s := S) (n := L.length) (fun c hc => by
      cases hx : S.testBit c
      · rfl
      · have := hS c hx; omega) (10 - L.length)
    rwa [show L.length + (10 - L.length) = 10 by omega] at e3
  have g1 := (lsS_ag (n := L.length) hS1 10).2.2.1
  have g2 := (lsS_ag (n := L.length) (S := st) (fun c h => (I.a1 c h).1) 10).2.2.1
  rw [top _ hS1] at g1
  rw [top _ (fun c h => (I.a1 c h).1)] at g2
  have p1 := pc_sum (rowS L.length M st) L.length
  have p2 := pc_sum st L.length
  have p3 := prs_sum M L.length
  omega
end Go.Proofs.Ytnnaaoobdofooaa
