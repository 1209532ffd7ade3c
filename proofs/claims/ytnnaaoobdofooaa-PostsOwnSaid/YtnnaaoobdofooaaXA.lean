/- Most, its mathematics (merged) -/
import Derived.Test.YtnnaaoobdofooaaTD
import Derived.Test.YtnnaaoobdofooaaTF
import Derived.Test.YtnnaaoobdofooaaTA
import Derived.Test.YtnnaaoobdofooaaSW
import Derived.Test.YtnnaaoobdofooaaTK
import Derived.Test.YtnnaaoobdofooaaTM
/- The most pairs: mathematics. -/
namespace Go.Proofs.Ytnnaaoobdofooaa
open Go.RowKit
set_option maxHeartbeats 1000000
set_option maxRecDepth 100000
def rsP (M : List Int) (r : Nat) : List Int := (prs M r).map (·.1)
def csP (M : List Int) (r : Nat) : List Int := (prs M r).map (·.2)
theorem geti_apl {xs ys : List Int} {i : Nat} (h : i < xs.length) : geti (xs ++ ys) i = geti xs i := by unfold geti; rw [List.getD_eq_getElem?_getD, List.getD_eq_getElem?_getD, List.getElem?_append_left h]
theorem rsP_len (M : List Int) (r : Nat) : (rsP M r).length = (prs M r).length := by unfold rsP; rw [List.length_map]
theorem csP_len (M : List Int) (r : Nat) : (csP M r).length = (prs M r).length := by unfold csP; rw [List.length_map]
theorem fst1_no {xs : List Int} {x : Int} : ∀ {k : Nat}, fst1 xs x k = -1 ↔ ∀ c, c < k → geti xs c ≠ x
  | 0 => ⟨fun _ c hc => absurd hc (by omega), fun _ => rfl⟩
  | k + 1 => by
    have ih := fst1_no (xs := xs) (x := x) (k := k)
    have hb := fst1_bd xs x k
    unfold fst1
    by_cases h : fst1 xs x k = -1
    · rw [if_pos h]
      by_cases e : geti xs k = x
      · rw [if_pos e]
        exact ⟨fun h2 => by omega, fun h2 => absurd e (h2 k (by omega))⟩
      · rw [if_neg e]
        refine ⟨fun _ c hc => ?_, fun _ => rfl⟩
        by_cases ec : c = k
        · subst ec; exact e
        · exact ih.1 h c (by omega)
    · rw [if_neg h]
      exact ⟨fun h2 => absurd h2 h, fun h2 => absurd (ih.2 (fun c hc => h2 c (by omega))) h⟩
theorem fst1_at {xs : List Int} {x : Int} : ∀ {k : Nat}, fst1 xs x k ≠ -1 → geti xs (fst1 xs x k).toNat = x
  | 0, h => absurd rfl h
  | k + 1, h => by
    unfold fst1 at h ⊢
    by_cases h1 : fst1 xs x k = -1
    · rw [if_pos h1] at h ⊢
      by_cases e : geti xs k = x
      · rw [if_pos e]; rw [Int.toNat_natCast]; exact e
      · rw [if_neg e] at h; exact absurd rfl h
    · rw [if_neg h1]; exact fst1_at h1
theorem prs_at (M : List Int) : ∀ r i, i < (prs M r).length → 0 ≤ geti (rsP M r) i ∧ geti (rsP M r) i < r ∧ geti (csP M r) i = fst1 M (geti (rsP M r) i) 10 ∧ geti (csP M r) i ≠ -1
  | 0, i, h => absurd h (by simp [prs])
  | r + 1, i, h => by
    have ih := prs_at M r i
    by_cases hf : fst1 M (r : Int) 10 = -1
    · have e : prs M (r + 1) = prs M r := by show (if _ then _ else _) = _; rw [if_pos hf]
      rw [e] at h
      have h2 := ih h
      unfold rsP csP at h2 ⊢
      rw [e]
      exact ⟨h2.1, by omega, h2.2.2⟩
    · have e : prs M (r + 1) = prs M r ++ [((r : Int), fst1 M (r : Int) 10)] := by show (if _ then _ else _) = _; rw [if_neg hf]
      have e1 : rsP M (r + 1) = rsP M r ++ [(r : Int)] := by unfold rsP; rw [e, List.map_append]; rfl
      have e2 : csP M (r + 1) = csP M r ++ [fst1 M (r : Int) 10] := by unfold csP; rw [e, List.map_append]; rfl
      rw [e, List.length_append, List.length_singleton] at h
      rw [e1, e2]
      by_cases hi : i < (prs M r).length
      · have h2 := ih hi
        rw [geti_apl (by rw [rsP_len]; exact hi), geti_apl (by rw [csP_len]; exact hi)]
        exact ⟨h2.1, by omega, h2.2.2⟩
      · obtain rfl : i = (prs M r).length := by omega
        have g1 : geti (rsP M r ++ [(r : Int)]) (prs M r).length = r := by have := geti_app (xs := rsP M r) (x := (r : Int)); rwa [rsP_len] at this
        have g2 : geti (csP M r ++ [fst1 M (r : Int) 10]) (prs M r).length = fst1 M (r : Int) 10 := by have := geti_app (xs := csP M r) (x := fst1 M (r : Int) 10); rwa [csP_len] at this
        rw [g1, g2]
        exact ⟨by omega, by omega, rfl, hf⟩
theorem prs_asc (M : List Int) : ∀ r i j, i < j → j < (prs M r).length → geti (rsP M r) i < geti (rsP M r) j
  | 0, i, j, _, h => absurd h (by simp [prs])
  | r + 1, i, j, hij, h => by
    have ih := prs_asc M r i j hij
    by_cases hf : fst1 M (r : Int) 10 = -1
    · have e : prs M (r + 1) = prs M r := by show (if _ then _ else _) = _; rw [if_pos hf]
      rw [e] at h
      have h2 := ih h
      unfold rsP at h2 ⊢
      rw [e]
      exact h2
    · have e : prs M (r + 1) = prs M r ++ [((r : Int), fst1 M (r : Int) 10)] := by show (if _ then _ else _) = _; rw [if_neg hf]
      have e1 : rsP M (r + 1) = rsP M r ++ [(r : Int)] := by unfold rsP; rw [e, List.map_append]; rfl
      rw [e, List.length_append, List.length_singleton] at h
      rw [e1]
      by_cases hi : j < (prs M r).length
      · rw [geti_apl (i := i) (by rw [rsP_len]; omega), geti_apl (i := j) (by rw [rsP_len]; exact hi)]
        exact ih hi
      · obtain rfl : j = (prs M r).length := by omega
        have g1 : geti (rsP M r ++ [(r : Int)]) (prs M r).length = r := by have := geti_app (xs := rsP M r) (x := (r : Int)); rwa [rsP_len] at this
        rw [g1, geti_apl (by rw [rsP_len]; omega)]
        exact (prs_at M r i (by omega)).2.1
theorem prs_sum (M : List Int) : ∀ r, ((prs M r).length : Int) = sumN (fun q => one (fst1 M (q : Int) 10 ≠ -1)) r
  | 0 => rfl
  | r + 1 => by
    show _ = sumN _ r + one (fst1 M (r : Int) 10 ≠ -1)
    rw [← prs_sum M r]
    unfold one
    by_cases hf : fst1 M (r : Int) 10 = -1
    · have e : prs M (r + 1) = prs M r := by show (if _ then _ else _) = _; rw [if_pos hf]
      rw [e, if_neg (fun h => h hf)]; omega
    · have e : prs M (r + 1) = prs M r ++ [((r : Int), fst1 M (r : Int) 10)] := by show (if _ then _ else _) = _; rw [if_neg hf]
      rw [e, if_pos hf, List.length_append, List.length_singleton]; omega
theorem mb_iff {xs : List Int} : ∀ {k v : Nat}, mb xs k v = true ↔ ∃ j, j < k ∧ geti xs j = (v : Int)
  | 0, v => ⟨fun h => by simp [mb] at h, fun ⟨j, hj, _⟩ => absurd hj (by omega)⟩
  | k + 1, v => by
    unfold mb
    rw [Bool.or_eq_true, decide_eq_true_eq, mb_iff]
    constructor
    · rintro (⟨j, hj, e⟩ | e)
      · exact ⟨j, by omega, e⟩
      · exact ⟨k, by omega, e⟩
    · rintro ⟨j, hj, e⟩
      by_cases ej : j = k
      · subst ej; exact Or.inr e
      · exact Or.inl ⟨j, by omega, e⟩
/-- Pairs as the reference asks for them. -/
structure PrOk (L : List (List Int)) (rs cs : List Int) (i : Nat) : Prop where
  r : 0 ≤ geti rs i ∧ geti rs i < L.length
  c : 0 ≤ geti cs i ∧ geti cs i < L.length
  up : 0 < i → geti rs (i - 1) < geti rs i
  new : mb cs i (geti cs i).toNat = false
  pos : gat L (geti rs i).toNat (geti cs i).toNat ≠ 0
theorem prs_ok {L : List (List Int)} (hL : IsT L) {st : Nat} {M : List Int} (I : JnI L L.length st M) : ∀ i, i < (prs M L.length).length → PrOk L (rsP M L.length) (csP M L.length) i := fun i hi => by
  have hl := hL.le
  obtain ⟨h1, h2, h3, h4⟩ := prs_at M L.length i hi
  have hb := fst1_bd M (geti (rsP M L.length) i) 10
  have hat : geti M (geti (csP M L.length) i).toNat = geti (rsP M L.length) i := by rw [h3]; exact fst1_at (by rw [← h3]; exact h4)
  rw [← h3] at hb
  have hc : geti (csP M L.length) i < L.length := by
    apply Classical.byContradiction
    intro hno
    have := I.far (geti (csP M L.length) i).toNat (by omega) (by omega)
    omega
  refine ⟨⟨h1, h2⟩, ⟨by omega, hc⟩, fun h0 => prs_asc M _ _ _ (by omega) hi, ?_, ?_⟩
  · rw [← Bool.not_eq_true, mb_iff]
    rintro ⟨j, hj, e⟩
    obtain ⟨a1, a2, a3, a4⟩ := prs_at M L.length j (by omega)
    have hat2 : geti M (geti (csP M L.length) j).toNat = geti (rsP M L.length) j := by rw [a3]; exact fst1_at (by rw [← a3]; exact a4)
    have := prs_asc M L.length j i hj hi
    have e2 : (geti (csP M L.length) j).toNat = (geti (csP M L.length) i).toNat := by omega
    rw [e2] at hat2
    omega
  · have := I.pos (geti (csP M L.length) i).toNat (by omega) (by rw [hat]; omega)
    rwa [hat] at this
theorem lsS_mb {S v : Nat} (h : S.testBit v = true) : ∀ {k}, v < k → mb (lsS S k) (lsS S k).length v = true
  | k + 1, hk => by
    have e : lsS S (k + 1) = if S.testBit k = true then lsS S k ++ [(k : Int)] else lsS S k := rfl
    rw [e]
    by_cases ev : v = k
    · subst ev
      rw [if_pos h, mb_iff]
      exact ⟨(lsS S v).length, by rw [List.length_append, List.length_singleton]; omega, geti_app⟩
    · have ih := lsS_mb h (k := k) (by omega)
      split
      · rw [mb_iff] at ih ⊢
        obtain ⟨j, hj, e2⟩ := ih
        exact ⟨j, by rw [List.length_append]; omega, by rw [geti_apl hj]; exact e2⟩
      · exact ih
theorem andNot_tb {s t c : Nat} (hs : s < 65536) (ht : t < 65536) : (sAndNot s t).testBit c = (s.testBit c && !t.testBit c) := by
  unfold sAndNot
  rw [Nat.testBit_and]
  have := Nat.testBit_two_pow_sub_succ (n := 16) (x := t) (by omega) c
  rw [show 65535 - t = 2 ^ 16 - (t + 1) by omega, this]
  by_cases hc : c < 16
  · simp [hc]
  · have : s.testBit c = false := Nat.testBit_lt_two_pow (Nat.lt_of_lt_of_le hs (by have := Nat.pow_le_pow_right (n := 2) (by omega) (show 16 ≤ c by omega); omega))
    rw [this]; simp
/-- The rows that cover the table together with the stuck columns. -/
def rowS (n : Nat) (M : List Int) (st : Nat) : Nat := sAndNot (sAll n) (shR n M st 10)
theorem rowS_bit {n : Nat} (hn : n ≤ 10) (M : List Int) (st c : Nat) : (rowS n M st).testBit c = (decide (c < n) && !(shR n M st 10).testBit c) := by
  unfold rowS
  rw [andNot_tb (all_lt (by omega)) (shR_lt hn M st 10), all_bit]
theorem rowS_lt {n : Nat} (hn : n ≤ 10) (M : List Int) (st : Nat) : rowS n M st < 65536 := Nat.lt_of_le_of_lt Nat.and_le_left (all_lt (by omega))
theorem most_cover {L : List (List Int)} (hL : IsT L) {st : Nat} {M : List Int} (I : JnI L L.length st M) (i k : Nat) (hi : i < L.length) (hk : k < L.length) (hg : 0 < gat L i k) :
    mb (lsS (rowS L.length M st) 10) (lsS (rowS L.length M st) 10).length i = true ∨ mb (lsS st 10) (lsS st 10).length k = true := by
  have hl := hL.le
  cases hb : (shR L.length M st 10).testBit i
  · exact Or.inl (lsS_mb (by rw [rowS_bit hl, hb, decide_eq_true hi]; rfl) (by omega))
  · refine Or.inr (lsS_mb ?_ (by omega))
    obtain ⟨hrn, hrc⟩ := (shR_bit hl I.ok st i 10 (Nat.le_refl _)).1 hb
    by_cases hz : cnA L.length M i = 0
    · exact I.b i hrn hz k hk (by omega)
    · obtain ⟨d, hd, _, hMd⟩ := cnU_some.1 hz
      have hds : st.testBit d = true := by
        cases hx : st.testBit d
        · exact absurd hMd (hrc d (by omega) hx)
        · rfl
      exact I.a2 d hds k hk (by rw [hMd, Int.toNat_natCast]; omega)
theorem most_count {L : List (List Int)} (hL : IsT L) {st : Nat} {M : List Int} (I : JnI L L.length st M) : (lsS (rowS L.length M st) 10).length + (lsS st 10).length = (prs M L.length).length := by
  have hl := hL.le
  have t1 := tot hl I.ok st
  have t0 := tot hl I.ok 0
  have c1 : sumN (fun c => one ((0 : Nat).testBit c = false ∧ geti M c ≠ -1)) L.length = sumN (fun c => one (st.testBit c = false ∧ geti M c ≠ -1)) L.length + sumN (fun c => one (st.testBit c = true)) L.length := by
    rw [← sumN_add]
    refine sumN_congr (fun c _ => ?_)
    unfold one
    cases hb : st.testBit c
    · simp
    · have := (I.a1 c hb).2
      simp [this]
  have hle : ∀ r, cnU L.length st M r ≤ cnU L.length 0 M r := fun r => sumN_le (fun c _ => by
    try dsimp only
    by_cases h : st.testBit c = false ∧ geti M c = (r : Int)
    · rw [if_pos h, if_pos ⟨by simp, h.2⟩]; omega
    · rw [if_neg h]; split <;> omega)
  have d1 : sumN (fun r => one ((rowS L.length M st).testBit r = true)) L.length = sumN (fun r => cnU L.length st M r) L.length := sumN_congr (fun r hr => by
    rw [rowS_bit hl, decide_eq_true hr, Bool.true_and]
    have h0 := cnU_nonneg L.length st M r
    have h1 := hle r
    have h2 : cnU L.length 0 M r ≤ 1 := I.few r hr
    have hb := shR_bit hl I.ok st r 10 (Nat.le_refl _)
    unfold one
    cases hx : (shR L.length M st 10).testBit r
    · have hne : cnU L.length st M r ≠ 0 := by
        apply cnU_some.2
        apply Classical.byContradiction
        intro hno
        have : (shR L.length M st 10).testBit r = true := hb.2 ⟨hr, fun c hc hs he => by
          by_cases hcn : c < L.length
          · exact hno ⟨c, hcn, hs, he⟩
          · have := I.far c (by omega) hc
            omega⟩
        rw [hx] at this; cases this
      simp; omega
    · have hz : cnU L.length st M r = 0 := by
        apply Classical.byContradiction
        intro hno
        obtain ⟨c, hc, h3, h4⟩ := cnU_some.1 hno
        exact (hb.1 hx).2 c (by omega) h3 h4
      simp; omega)
  have e1 : sumN (fun q => one (fst1 M (q : Int) 10 ≠ -1)) L.length = sumN (fun r => cnU L.length 0 M r) L.length := sumN_congr (fun r hr => by
    have h0 := cnU_nonneg L.length 0 M r
    have h2 : cnU L.length 0 M r ≤ 1 := I.few r hr
    unfold one
    by_cases hf : fst1 M (r : Int) 10 = -1
    · rw [if_neg (fun h => h hf)]
      have hz : cnU L.length 0 M r = 0 := by
        apply Classical.byContradiction
        intro hno
        obtain ⟨c, hc, h3, h4⟩ := cnU_some.1 hno
        exact fst1_no.1 hf c (by omega) h4
      omega
    · rw [if_pos hf]
      have hne : cnU L.length 0 M r ≠ 0 := by
        apply cnU_some.2
        have hb := fst1_bd M (r : Int) 10
        have ha := fst1_at hf
        refine ⟨(fst1 M (r : Int) 10).toNat, ?_, by simp, ha⟩
        apply Classical.byContradiction
        intro hno
        have := I.far (fst1 M (r : Int) 10).toNat (by omega) (by omega)
        omega
      omega)
  have hS1 : ∀ c, (rowS L.length M st).testBit c = true → c < L.length := fun c h => by
    rw [rowS_bit hl] at h
    simp only [Bool.and_eq_true, decide_eq_true_eq] at h
    exact h.1
  have top : ∀ S : Nat, (∀ c, S.testBit c = true → c < L.length) → pc 10 S = pc L.length S := fun S hS => by
    have e3 := pc_top (s := S) (n := L.length) (fun c hc => by
      cases hx : S.testBit c
      · rfl
      · have := hS c hx; omega) (10 - L.length)
    rwa [show L.length + (10 - L.length) = 10 by omega] at e3
  have g1 := (lsS_ag (n := L.length) hS1 10).2.2.1
  have g2 := (lsS_ag (n := L.length) (S := st) (fun c h => (I.a1 c h).1) 10).2.2.1
  rw [top _ hS1] at g1
  rw [top _ (fun c h => (I.a1 c h).1)] at g2
  have p1 := pc_sum (rowS L.length M st) L.length
  have p2 := pc_sum st L.length
  have p3 := prs_sum M L.length
  omega
end Go.Proofs.Ytnnaaoobdofooaa
/- The reference's pairs. -/
namespace Go.Proofs.Ytnnaaoobdofooaa
open Go.RowKit
set_option maxHeartbeats 1000000
set_option maxRecDepth 100000
/-- Pairs in memory. -/
def PrsAt (w : World) (A : Option Addr) (rs cs : List Int) : Prop :=
  0 < rs.length → ∃ b o, A = some ⟨b, o, none⟩ ∧ b < w.heap.size ∧ ∀ i, i < rs.length → w.cell? ⟨b, o + i * 2, none⟩ = some (.int .i64 (geti rs i)) ∧ w.cell? ⟨b, o + i * 2 + 1, none⟩ = some (.int .i64 (geti cs i))
theorem PrsAt.below {w w' : World} {A : Option Addr} {rs cs : List Int} (h : PrsAt w A rs cs) (k : Below w.heap.size w w') : PrsAt w' A rs cs := fun hp => by
  obtain ⟨b, o, e, hb, hc⟩ := h hp
  refine ⟨b, o, e, Nat.lt_of_lt_of_le hb k.size, fun i hi => ?_⟩
  rw [k.cell hb, k.cell hb]
  exact hc i hi
theorem mb_tab2 {n : Nat} {xs : List Int} {k X : Nat} (h : geti xs k = (X : Int)) : (tbB n fun v => mb xs k v).set X (.bool true) = tbB n (fun v => mb xs (k + 1) v) := by
  rw [← mb_tab h, tb_set]
theorem refPairs_yes (A B : Option Addr) (c d : Nat) (L : List (List Int)) (rs cs : List Int) (w : World) (h : IsT L) (hr : rs.length ≤ 1000000) (hok : ∀ i, i < rs.length → PrOk L rs cs i) (hA : RowsAt w A L) (hB : PrsAt w B rs cs) :
    Calls Try.prog 37 #[.slice A L.length c, .slice B rs.length d] w fun e w' => e = .returned (.bool true) ∧ Below w.heap.size w w' := by
  have hle := h.le
  have HA := Lib.hid hA
  have HB := Lib.hid hB
  have HRW := Lib.hid (fun i (hi : i < L.length) => h.row i hi)
  have HOK := Lib.hid hok
  have hmk := make_bools L.length (by omega)
  have b0 := Below.refl w.heap.size w
  have HMT := Lib.hid (fun k X h => mb_tab2 (n := L.length) (xs := cs) (k := k) (X := X) h)
  have H00 : Hid ((tbB L.length fun v => mb cs 0 v) = tbB L.length fun _ => false) := Lib.hid rfl
  clear hA hB h hok
  have q0 : Row (w.alloc (.cells (tbB L.length fun _ => false).toArray 4)) w.heap.size 4 (tbB L.length fun v => mb cs 0 v) := by rw [H00.out]; exact row_new rfl
  have b1 : Below w.heap.size w (w.alloc (.cells (tbB L.length fun _ => false).toArray 4)) := b0.alloc (by omega) _
  have hg0 : w.heap.size ≤ w.heap.size := Nat.le_refl _
  go_enter Try.func37, Try.ntmps37
  go_wp2
  go_loopw [7] (fun v wr => ∃ k : Nat, k ≤ rs.length ∧ v = .int .i64 k ∧ Row wr w.heap.size 4 (tbB L.length fun v => mb cs k v) ∧ Below w.heap.size w wr) (fun v _ => rs.length - (intOf v).toNat)
  case atStart => exact ⟨0, by omega, rfl, q0, b1⟩
  case round =>
    clear q0 b1
    obtain ⟨k, hk, rfl, q0, b1⟩ := hrel
    by_cases hlt : k < rs.length
    · have g1 : decide ((k : Int) < (rs.length : Int)) = true := decide_eq_true (by omega)
      obtain ⟨bB, oB, hBe, -, f1⟩ := (HB.out.below b1) (by omega)
      subst hBe
      obtain ⟨e1, e2⟩ := f1 k hlt
      have hO := HOK.out k hlt
      obtain ⟨hO1, hO1'⟩ := hO.r
      obtain ⟨hO2, hO2'⟩ := hO.c
      have HO3 := Lib.hid hO.up
      have HO4 := Lib.hid hO.new
      have HO5 := Lib.hid hO.pos
      have HM1 := Lib.hid (fun X h => HMT.out k X h)
      clear hO
      have HF := Lib.hid f1
      clear f1
      have HK0 := Lib.hid (fun (q : Nat) (h : k = q + 1) => (HF.out q (by omega)).1)
      have HU0 := Lib.hid (fun (q : Nat) (h : k = q + 1) => (show geti rs q < geti rs k by have := HO3.out (by omega); rwa [show k - 1 = q by omega] at this))
      clear HF HO3
      generalize geti cs k = y at *
      generalize geti rs k = x at *
      obtain ⟨Y, rfl⟩ : ∃ Y : Nat, y = Y := ⟨y.toNat, by omega⟩
      obtain ⟨X, rfl⟩ : ∃ X : Nat, x = X := ⟨x.toNat, by omega⟩
      have hY : Y < L.length := by omega
      have hX : X < L.length := by omega
      rw [Int.toNat_natCast] at HO4 HO5
      rw [Int.toNat_natCast] at HO5
      obtain ⟨bA, oA, hAe, -, hcs⟩ := (HA.out.below b1) (by omega)
      subst hAe
      obtain ⟨B2, cB, e3, i1⟩ := hcs X hX
      rw [HRW.out X hX] at e3
      obtain ⟨b2, o2, rfl, -, f2⟩ := i1 (by rw [HRW.out X hX]; omega)
      have e4 := f2 Y (by rw [HRW.out X hX]; exact hY)
      rw [show geti (getl L X) Y = gat L X Y from rfl] at e4
      have g5 : (gat L X Y == 0) = false := by rw [beq_eq_false_iff_ne]; exact HO5.out
      have e5 : wr.cell? ⟨w.heap.size, Y, none⟩ = some (.bool false) := by rw [q0.cell, tb_at _ _ hY, HO4.out]
      have e6 := q0.free Y
      have HM2 := Lib.hid (HM1.out Y rfl)
      have gr1 : decide ((X : Int) < 0) = false := decide_eq_false (by omega)
      have gr2 : decide ((L.length : Int) ≤ (X : Int)) = false := decide_eq_false (by omega)
      have gc1 : decide ((Y : Int) < 0) = false := decide_eq_false (by omega)
      have gc2 : decide ((L.length : Int) ≤ (Y : Int)) = false := decide_eq_false (by omega)
      clear f2 i1 hcs HO4 HO5 HM1
      generalize gat L X Y = z at *
      by_cases hk0 : k = 0
      · have g6 : decide (0 < k) = false := decide_eq_false (by omega)
        clear hk0 HK0 HU0
        go_wp2
        refine wp_region_quiet_lit (by kernel_rfl) (by kernel_rfl) ?_
        repeat go_big_quiet_step ((fail))
        refine wpQuiet_nil ?_
        rintro _ ⟨nq, rfl⟩
        go_wp2
        refine ⟨⟨k + 1, by omega, by go_num, ?_, ?_⟩, by simp [intOf]; omega⟩
        · have hq := (q0.drewN nq).set Y (.bool true)
          rw [HM2.out] at hq
          exact hq
        · exact (b1.trans (below_drewN nq)).setCell (by dsimp only; omega) _
      · obtain ⟨q, rfl⟩ : ∃ q, k = q + 1 := ⟨k - 1, by omega⟩
        have e7 := HK0.out q rfl
        have hlq := HU0.out q rfl
        generalize geti rs q = u at *
        have g7 : decide ((X : Int) ≤ u) = false := decide_eq_false (by omega)
        clear hlq HK0 HU0 hk0
        go_wp2
        refine wp_region_quiet_lit (by kernel_rfl) (by kernel_rfl) ?_
        repeat go_big_quiet_step ((fail))
        refine wpQuiet_nil ?_
        rintro _ ⟨nq, rfl⟩
        go_wp2
        refine ⟨⟨q + 1 + 1, by omega, by go_num, ?_, ?_⟩, by simp [intOf]; omega⟩
        · have hq := (q0.drewN nq).set Y (.bool true)
          rw [HM2.out] at hq
          exact hq
        · exact (b1.trans (below_drewN nq)).setCell (by dsimp only; omega) _
    · obtain rfl : k = rs.length := by omega
      have g1 : decide ((rs.length : Int) < (rs.length : Int)) = false := decide_eq_false (by omega)
      go_wp2
      go_ret
      exact ⟨rfl, b1⟩
end Go.Proofs.Ytnnaaoobdofooaa
/- Most. -/
namespace Go.Proofs.Ytnnaaoobdofooaa
open Go.RowKit
set_option maxHeartbeats 1000000
set_option maxRecDepth 100000
theorem results_tmp4 {fn : Func} {t u v s : Tmp} (h : fn.results = #[.tmp t, .tmp u, .tmp v, .tmp s]) (tmps : Array Value) (P : Program) (w : World) :
    (results fn tmps).run P w = .ok (.tuple #[tmps.getD t undef, tmps.getD u undef, tmps.getD v undef, tmps.getD s undef]) w := by
  simp [results, h]
def mM (L : List (List Int)) : List Int := (jn L L.length).2
def mS (L : List (List Int)) : Nat := (jn L L.length).1
def mR (L : List (List Int)) : List Int := lsS (rowS L.length (mM L) (mS L)) 10
def mC (L : List (List Int)) : List Int := lsS (mS L) 10
theorem mI {L : List (List Int)} (h : IsT L) : JnI L L.length (mS L) (mM L) := jn_inv h L.length (Nat.le_refl _)
theorem pcs_at (ps : List (Int × Int)) : ∀ k, k < ps.length → (pcs ps)[k * 2]? = some (.int .i64 (geti (ps.map (·.1)) k)) ∧ (pcs ps)[k * 2 + 1]? = some (.int .i64 (geti (ps.map (·.2)) k)) := by
  induction ps with
  | nil => intro k h; exact absurd h (by simp)
  | cons p ps ih =>
    intro k h
    have e : pcs (p :: ps) = .int .i64 p.1 :: .int .i64 p.2 :: pcs ps := rfl
    cases k with
    | zero => exact ⟨rfl, rfl⟩
    | succ k =>
      have h2 := ih k (by simpa using h)
      rw [e, show (k + 1) * 2 = k * 2 + 1 + 1 by omega]
      exact h2
theorem prs_cells {W : World} {z n : Nat} {v : Value} {M : List Int} {r : Nat} (h : W.ownsRow z 36 2 v n (pcs (prs M r))) : ∃ A c, v = .slice A (rsP M r).length c ∧ n = (rsP M r).length ∧ PrsAt W A (rsP M r) (csP M r) := by
  have hl : (prs M r).length = n := by have := h.1; rw [pcs_len] at this; omega
  subst hl
  rcases h.2 with ⟨rfl, h0⟩ | ⟨g, cap, cur, rfl, hb, hg, hc, _, hs, ht⟩
  · exact ⟨none, 0, by rw [rsP_len, h0], (rsP_len M r).symm, fun hp => by rw [rsP_len] at hp; omega⟩
  · refine ⟨_, cap, by rw [rsP_len], (rsP_len M r).symm, fun hp => ⟨g, 0, rfl, (Array.getElem?_eq_some_iff.1 hg).1, fun i hi => ?_⟩⟩
    rw [rsP_len] at hi
    obtain ⟨a1, a2⟩ := pcs_at (prs M r) i hi
    have h1 := h.cells (g := g) rfl _ _ a1
    have h2 := h.cells (g := g) rfl _ _ a2
    rw [WideShapes.add_plain] at h1 h2
    exact ⟨h1, h2⟩
theorem Most_no (A : Option Addr) (c : Nat) (L : List (List Int)) (w : World) (hv : okT L = false) (ha : RowsAt w A L) :
    Calls Try.prog 36 #[.slice A L.length c] w fun e w' => e = .returned (.tuple #[.slice none 0 0, .slice none 0 0, .slice none 0 0, .int .i64 2]) ∧ Below w.heap.size w w' := by
  have HR := Lib.hid (readTable_no A c L w hv ha)
  clear hv ha
  go_enter Try.func36, Try.ntmps36
  go_wp2_with (first
    | (go_at_call 48; refine HR.out.mono ?_; rintro e w2 ⟨rfl, b2⟩; have q0 : Row (w2.alloc (.cells Try.zeroCells73 73)) w2.heap.size 73 Try.zeroCells73.toList := row_new (by simp); have b0 := b2.alloc b2.size (.cells Try.zeroCells73 73); have hbz := b2.size)
    | (with_reducible refine (?_ : wpList _ _ _ (Oper.mk _ (Op.store 73 (.tmp 6) _) _ _ _ _ :: _) _ _); refine wpList_store_row rfl 73 (.tmp 6) (.tmp 13) rfl w2.heap.size Try.zeroCells73 rfl rfl 73 Try.zeroCells73.toList.toArray (row_heap q0) info73_z rfl z73_all ?_; replace b0 := below_row (g := w2.heap.size) b0 hbz Try.zeroCells73; generalize World.setRow (w2.alloc _) _ _ = W at *))
  refine bodyPost_ret (results_tmp4 rfl _ _ _) rfl ?_
  exact ⟨rfl, b0⟩
theorem Most_yes (A : Option Addr) (c : Nat) (L : List (List Int)) (w : World) (h : IsT L) (ha : RowsAt w A L) :
    Calls Try.prog 36 #[.slice A L.length c] w fun e w' => ∃ A1 c1 A2 c2 A3 c3, e = .returned (.tuple #[.slice A1 (rsP (mM L) L.length).length c1, .slice A2 (mR L).length c2, .slice A3 (mC L).length c3, .int .i64 0]) ∧ PrsAt w' A1 (rsP (mM L) L.length) (csP (mM L) L.length) ∧ IntsAt w' A2 (mR L) ∧ IntsAt w' A3 (mC L) ∧ Below w.heap.size w w' := by
  have HR := Lib.hid (readTable_yes A c L w h ha)
  have HJ := Lib.hid (fun w => join_any L w h)
  have I := mI h
  have HSH := Lib.hid (fun w => short_any L.length (mM L) (mS L) w h.le I.ok I.lt)
  have HP := Lib.hid (fun w => pairs_any L.length (mM L) (mS L) w h.le I.ok.len)
  have HL1 := Lib.hid (fun w => list57_any (rowS L.length (mM L) (mS L)) w (rowS_lt h.le _ _))
  have HL2 := Lib.hid (fun w => list57_any (mS L) w I.lt)
  have HF := Lib.hid (fun w => first_any L.length w (by have := h.le; omega))
  have HB := Lib.hid (andNot_bits (sAll L.length) (shR L.length (mM L) (mS L) 10) (all_lt (by have := h.le; omega)) (shR_lt h.le _ _ _))
  have HC0 : Hid (∀ (W : World) (g : Nat), Row W g 73 (iv (grd L)) → W.cell? ⟨g, 0, none⟩ = some (.int .i64 (L.length : Int))) := Lib.hid (fun W g h => ivR h (i := 0) (by unfold grd; rw [grdP_len]; omega))
  have hi := info73_iv (x := grd L) (grdP_len _ 100)
  have hsz : Try.zeroCells73.toList.toArray.size = (iv (grd L)).toArray.size := by rw [z73]; exact size73_iv (by simp) (grdP_len L 100)
  have hM := I.ok.len
  clear h ha I
  go_enter Try.func36, Try.ntmps36
  go_wp2_with (first
    | (go_at_call 48; refine HR.out.mono ?_; rintro e w2 ⟨rfl, b2⟩; have q0 : Row (w2.alloc (.cells Try.zeroCells73 73)) w2.heap.size 73 Try.zeroCells73.toList := row_new (by simp); have b0 := b2.alloc b2.size (.cells Try.zeroCells73 73); have hbz := b2.size)
    | (with_reducible refine (?_ : wpList _ _ _ (Oper.mk _ (Op.store 73 (.tmp 6) _) _ _ _ _ :: _) _ _); refine wpList_store_row rfl 73 (.tmp 6) (.tmp 13) rfl w2.heap.size (iv (grd L)).toArray rfl rfl 73 Try.zeroCells73.toList.toArray (row_heap q0) hi hsz (iv_all _) ?_; replace q0 := q0.row (iv (grd L)); replace b0 := below_row (g := w2.heap.size) b0 hbz (iv (grd L)).toArray; generalize World.setRow (w2.alloc _) _ _ = W at *; have c0 := HC0.out W _ q0)
    | (with_reducible refine (?_ : wpList _ _ _ (Oper.mk _ (Op.load 73 _) _ _ _ _ :: _) _ _); refine wpList_load_row rfl 73 (.tmp 6) rfl w2.heap.size rfl 73 (iv (grd L)).toArray (0, 0) _ (row_heap q0) Try.underlying73 rfl hi ?_)
    | (go_at_call 55; fail))
  refine (HJ.out _).mono ?_
  rintro e w5 ⟨rfl, b5⟩
  replace b0 := b0.trans (b5.mono b0.size)
  rw [show (jn L L.length).2 = mM L from rfl, show (jn L L.length).1 = mS L from rfl]
  have hg2 : w2.heap.size < w5.heap.size := Nat.lt_of_lt_of_le q0.lt b5.size
  replace q0 := (q0.below b5).alloc (.cells #[.int .i64 0, .int .i64 0, .int .i64 0, .int .i64 0, .int .i64 0, .int .i64 0, .int .i64 0, .int .i64 0, .int .i64 0, .int .i64 0, .int .i64 0, .int .u16 0] 87)
  clear b5 HJ HR c0
  have q8 : Row (w5.alloc (.cells #[.int .i64 0, .int .i64 0, .int .i64 0, .int .i64 0, .int .i64 0, .int .i64 0, .int .i64 0, .int .i64 0, .int .i64 0, .int .i64 0, .int .i64 0, .int .u16 0] 87)) w5.heap.size 87 (jc 0 (iniM 0) 0) := row_new rfl
  have hi8 : (Try.prog.info? 87).map (·.size) = some (jc L.length (mM L) (mS L)).toArray.size := by rw [List.size_toArray, jc_len _ _ _ hM]; exact info87
  have hsz8 : (jc 0 (iniM 0) 0).toArray.size = (jc L.length (mM L) (mS L)).toArray.size := by rw [List.size_toArray, List.size_toArray, jc_len _ _ _ hM, jc_len _ _ _ (iniM_len 0)]
  have b8 := b0.alloc b0.size (.cells #[.int .i64 0, .int .i64 0, .int .i64 0, .int .i64 0, .int .i64 0, .int .i64 0, .int .i64 0, .int .i64 0, .int .i64 0, .int .i64 0, .int .i64 0, .int .u16 0] 87)
  go_wp2_with (first
    | (with_reducible refine (?_ : wpList _ _ _ (Oper.mk _ (Op.store 87 (.tmp 8) _) _ _ _ _ :: _) _ _); go_loud (refine wpList_store_row rfl 87 (.tmp 8) (.tmp 18) rfl w5.heap.size (jc L.length (mM L) (mS L)).toArray rfl rfl 87 (jc 0 (iniM 0) 0).toArray (row_heap q8) hi8 hsz8 (jc_one _ _ _) ?_); replace q8 := q8.row (jc L.length (mM L) (mS L)); replace q0 := q0.row_far (k := w5.heap.size) (Nat.ne_of_lt hg2) (jc L.length (mM L) (mS L)).toArray; replace b8 := below_row (g := w5.heap.size) b8 b0.size (jc L.length (mM L) (mS L)).toArray; generalize World.setRow (w5.alloc _) _ _ = V at *; have c0 := HC0.out V _ q0)
    | (go_at_call 50; fail) | (go_at_call 56; fail))
  have hi9 : (Try.prog.info? 87).map (·.size) = some (jc L.length (mM L) (mS L)).length := by rw [jc_len _ _ _ hM]; exact info87
  have c9 : ∀ u : After V, u.v.cell? ⟨w2.heap.size, 0, none⟩ = some (.int .i64 (L.length : Int)) := fun u => After.cell c0 u
  refine wp_region_class_all (C := fun w' => ∃ u : After _, w' = u.v) (by kernel_rfl) (by kernel_rfl) (isAfter_start _) ?_
  try simp only [Act.put]
  repeat (first | ((with_reducible refine (?_ : wpQuiet _ _ _ _ (Oper.mk (some 22) _ _ _ _ _ :: _) _); go_big_quiet_want); refine quiet_load_row 87 (.tmp 8) rfl w5.heap.size rfl 87 (jc L.length (mM L) (mS L)) _ (fun _ hc => after_row q8 hc) Try.underlying87 rfl hi9 ?_; simp only [Act.put, List.setIfInBounds_toArray, List.set_cons_zero, List.set_cons_succ]; go_big_quiet_on) | go_big_quiet_step ((first | (with_reducible refine (HF.out _).mono ?_; rintro e w8 ⟨rfl, rfl⟩; exact ⟨rfl, ⟨_, rfl⟩⟩) | (with_reducible refine (HSH.out _).mono ?_; rintro e w8 ⟨rfl, b8⟩; exact ⟨rfl, After.done _ b8⟩))))
  refine wpQuiet_nil ?_
  rintro _ ⟨ua, rfl⟩
  rw [HB.out, show sAndNot (sAll L.length) (shR L.length (mM L) (mS L) 10) = rowS L.length (mM L) (mS L) from rfl]
  have q9 := After.row q8 ua
  replace b8 := b8.trans (ua.h.mono b8.size)
  have hz8 : w.heap.size ≤ w5.heap.size := b0.size
  clear c9 c0 q0 q8 hi8 hsz8 HF HSH HB HC0 hi hsz b0 b2 hbz
  generalize ua.v = V9 at *
  go_wp2
  refine wp_region_noPanic ?_
  refine wp_region_held_drew (S := fun V => Row V w5.heap.size 87 (jc L.length (mM L) (mS L)) ∧ Below w.heap.size w V) (by kernel_rfl) ⟨q9.drew, b8.drew⟩ (fun hH => ?_)
  try simp only [Act.put]
  clear q9 b8
  have HC11 : Hid (∀ V : World, Row V w5.heap.size 87 (jc L.length (mM L) (mS L)) → V.cell? ⟨w5.heap.size, 11, none⟩ = some (.int .u16 (mS L))) := Lib.hid (fun V hV => by rw [hV.cell, jc_st hM])
  generalize World.drew V9 = Wd at *
  refine wpAnyH_take (i := 0) (v := .agg (jc L.length (mM L) (mS L)).toArray) rfl (by kernel_rfl) (by kernel_rfl) (by kernel_rfl) (fun _ _ _ h => h) (yieldsIf_load_mid (by rfl) _ _ rfl _ _ rfl _ _ (fun V hV => hV.1.range) Try.underlying87 rfl hi9) hH ?_
  simp only [List.getElem_toArray, List.getElem_cons_zero, Act.put, List.setIfInBounds_toArray, List.set_cons_zero, List.set_cons_succ]
  refine wpAnyH_take (i := 2) (v := .int .u16 (rowS L.length (mM L) (mS L))) rfl (by kernel_rfl) (by kernel_rfl) (by kernel_rfl) (fun _ _ _ h => h) (Or.inl ⟨by rfl, fun V hV => ?_⟩) hH ?_
  · go_simp
  simp only [List.getElem_toArray, List.getElem_cons_zero, List.getElem_cons_succ, Act.put, List.setIfInBounds_toArray, List.set_cons_zero, List.set_cons_succ]
  refine wpAnyH_take (i := 4) (v := .pointer (some ⟨w5.heap.size, 11, none⟩)) rfl (by kernel_rfl) (by kernel_rfl) (by kernel_rfl) (fun _ _ _ h => h) (Or.inl ⟨by rfl, fun V hV => ?_⟩) hH ?_
  · go_simp
  simp only [List.getElem_toArray, List.getElem_cons_zero, List.getElem_cons_succ, Act.put, List.setIfInBounds_toArray, List.set_cons_zero, List.set_cons_succ]
  refine wpAnyH_take (i := 5) (v := .int .u16 (mS L)) rfl (by kernel_rfl) (by kernel_rfl) (by kernel_rfl) (fun _ _ _ h => h) (Or.inl ⟨by rfl, fun V hV => ?_⟩) hH ?_
  · have c0 := HC11.out V hV.1
    go_simp
  simp only [List.getElem_toArray, List.getElem_cons_zero, List.getElem_cons_succ, Act.put, List.setIfInBounds_toArray, List.set_cons_zero, List.set_cons_succ]
  refine wpAnyH_ready (rs := [1]) (by kernel_rfl) (by simp) ?_
  refine AllReadyH.cons rfl (fun K hK => ?_) AllReadyH.nil
  go_simp
  refine (HP.out _).mono ?_
  rintro e w6 ⟨v1, rfl, o1, b6⟩
  go_wp2_with fail
  refine hK.out _ _ ⟨hH.1.below b6, hH.2.trans (b6.mono hH.2.size)⟩ (fun hH => ?_)
  clear hK K
  obtain ⟨A1, c1, hv1, -, P1⟩ := prs_cells o1
  refine wpAnyH_ready (rs := [3]) (by kernel_rfl) (by simp) ?_
  refine AllReadyH.cons rfl (fun K hK => ?_) AllReadyH.nil
  go_simp
  refine (HL1.out _).mono ?_
  rintro e w7 ⟨v2, rfl, o2, b7⟩
  go_wp2_with fail
  refine hK.out _ _ ⟨hH.1.below b7, hH.2.trans (b7.mono hH.2.size)⟩ (fun hH => ?_)
  clear hK K
  obtain ⟨A2, c2, hv2, -, -, I2⟩ := own_intsI o2
  replace P1 := P1.below b7
  refine wpAnyH_ready (rs := [6]) (by kernel_rfl) (by simp) ?_
  refine AllReadyH.cons rfl (fun K hK => ?_) AllReadyH.nil
  go_simp
  refine (HL2.out _).mono ?_
  rintro e w10 ⟨v3, rfl, o3, b10⟩
  go_wp2_with fail
  refine hK.out _ _ ⟨hH.1.below b10, hH.2.trans (b10.mono hH.2.size)⟩ (fun hH => ?_)
  clear hK K
  obtain ⟨A3, c3, hv3, -, -, I3⟩ := own_intsI o3
  replace P1 := P1.below b10
  replace I2 := I2.below b10
  clear o1 o2 o3
  refine wpAnyH_ready (rs := [7]) (by kernel_rfl) (by simp) ?_
  refine AllReadyH.cons rfl (fun K hK => ?_) AllReadyH.nil
  go_simp
  refine hK.out _ _ hH (fun hH => ?_)
  clear hK K
  refine wpAnyH_ready (rs := [8]) (by kernel_rfl) (by simp) ?_
  refine AllReadyH.cons rfl (fun K hK => ?_) AllReadyH.nil
  go_simp
  refine hK.out _ _ hH (fun hH => ?_)
  clear hK K
  refine wpAnyH_ready (rs := [9]) (by kernel_rfl) (by simp) ?_
  refine AllReadyH.cons rfl (fun K hK => ?_) AllReadyH.nil
  go_simp
  refine hK.out _ _ hH (fun hH => ?_)
  clear hK K
  refine wpAnyH_ready (rs := [10]) (by kernel_rfl) (by simp) ?_
  refine AllReadyH.cons rfl (fun K hK => ?_) AllReadyH.nil
  go_simp
  refine hK.out _ _ hH (fun hH => ?_)
  clear hK K
  refine wpAnyH_done (by kernel_rfl) ?_ _
  refine NoPanic.normal ?_
  go_wp2_with fail
  refine bodyPost_ret (results_tmp4 rfl _ _ _) rfl ?_
  exact ⟨A1, c1, A2, c2, A3, c3, by subst hv1 hv2 hv3; rfl, P1, I2, I3, hH.2⟩
end Go.Proofs.Ytnnaaoobdofooaa
/- As many pairs as lines: mathematics. -/
namespace Go.Proofs.Ytnnaaoobdofooaa
open Go.RowKit
set_option maxHeartbeats 1000000
set_option maxRecDepth 100000
/-- How many pairs are found. -/
def mN (L : List (List Int)) : Nat := (prs (mM L) L.length).length
theorem inj_sum {g : Nat → Int} {f : Nat → Nat} {n q : Nat} (h0 : ∀ c, 0 ≤ g c) (h1 : ∀ i, i < q → f i < n) (h2 : ∀ i j, i < q → j < q → i ≠ j → f i ≠ f j) : sumN (fun i => g (f i)) q ≤ sumN g n := by
  have e1 : sumN (fun i => g (f i)) q = sumN (fun i => sumN (fun c => if f i = c then g c else 0) n) q := sumN_congr (fun i hi => by
    have := sumN_upd (g := fun _ => 0) (h := fun c => if f i = c then g c else 0) (c := f i) (d := g (f i)) (by simp) (fun j hj => by simp [Ne.symm hj]) (n := n) (h1 i hi)
    rw [this, sumN_zero]; omega)
  rw [e1, sumN_swap]
  refine sumN_le (fun c _ => ?_)
  have h3 := few_one (f := f) (c := c) h2
  have e2 : sumN (fun i => if f i = c then g c else 0) q = g c * sumN (fun i => one (f i = c)) q := by
    clear h3 e1 h1 h2
    induction q with
    | zero => show (0 : Int) = g c * 0; simp
    | succ q ih =>
      show sumN _ q + (if f q = c then g c else 0) = g c * (sumN _ q + one (f q = c))
      rw [ih, Int.mul_add]
      unfold one
      split <;> simp
  rw [e2]
  have := Int.mul_le_mul_of_nonneg_left h3 (h0 c)
  simpa using this
/-- Rows and columns that cover a table. -/
def Cov (L : List (List Int)) (R C : Nat → Bool) : Prop := ∀ i k, i < L.length → k < L.length → gat L i k ≠ 0 → R i = true ∨ C k = true
/-- So many pairs. -/
structure Prng (L : List (List Int)) (a b : Nat → Nat) (p : Nat) : Prop where
  ra : ∀ i, i < p → a i < L.length
  rb : ∀ i, i < p → b i < L.length
  pos : ∀ i, i < p → gat L (a i) (b i) ≠ 0
  aa : ∀ i j, i < p → j < p → i ≠ j → a i ≠ a j
  bb : ∀ i j, i < p → j < p → i ≠ j → b i ≠ b j
theorem weak {L : List (List Int)} {R C : Nat → Bool} {a b : Nat → Nat} {p : Nat} (hc : Cov L R C) (hp : Prng L a b p) : (p : Int) ≤ sumN (fun i => one (R i = true)) L.length + sumN (fun i => one (C i = true)) L.length := by
  have h1 := inj_sum (g := fun i => one (R i = true)) (f := a) (n := L.length) (q := p) (fun c => (one_bd _).1) hp.ra hp.aa
  have h2 := inj_sum (g := fun i => one (C i = true)) (f := b) (n := L.length) (q := p) (fun c => (one_bd _).1) hp.rb hp.bb
  have h3 : (p : Int) ≤ sumN (fun i => one (R (a i) = true)) p + sumN (fun i => one (C (b i) = true)) p := by
    rw [← sumN_add, ← sumN_one]
    refine sumN_le (fun i hi => ?_)
    rcases hc (a i) (b i) (hp.ra i hi) (hp.rb i hi) (hp.pos i hi) with h | h
    · have := (one_bd (C (b i) = true)).1
      have e : one (R (a i) = true) = 1 := by unfold one; rw [if_pos h]
      (try dsimp only); omega
    · have := (one_bd (R (a i) = true)).1
      have e : one (C (b i) = true) = 1 := by unfold one; rw [if_pos h]
      (try dsimp only); omega
  omega
theorem own_prng {L : List (List Int)} (h : IsT L) : Prng L (fun i => (geti (rsP (mM L) L.length) i).toNat) (fun i => (geti (csP (mM L) L.length) i).toNat) (mN L) := by
  have I := mI h
  have ok := prs_ok h I
  refine ⟨fun i hi => ?_, fun i hi => ?_, fun i hi => (ok i hi).pos, fun i j hi hj hne => ?_, fun i j hi hj hne => ?_⟩
  · have := (ok i hi).r; omega
  · have := (ok i hi).c; omega
  · have h1 := (ok i hi).r
    have h2 := (ok j hj).r
    rcases Nat.lt_or_gt_of_ne hne with e | e
    · have := prs_asc (mM L) L.length i j e hj; omega
    · have := prs_asc (mM L) L.length j i e hi; omega
  · have key : ∀ i j, i < mN L → j < mN L → i < j → (geti (csP (mM L) L.length) i).toNat ≠ (geti (csP (mM L) L.length) j).toNat := fun i j hi hj hij e => by
      have hn := (ok j hj).new
      rw [← Bool.not_eq_true, mb_iff] at hn
      have h1 := (ok i hi).c
      exact hn ⟨i, hij, by omega⟩
    rcases Nat.lt_or_gt_of_ne hne with e | e
    · exact key i j hi hj e
    · exact (key j i hj hi e).symm
/-- A cover with as many lines. -/
theorem own_cov {L : List (List Int)} (h : IsT L) : Cov L (fun i => (rowS L.length (mM L) (mS L)).testBit i) (fun i => (mS L).testBit i) ∧ sumN (fun i => one ((rowS L.length (mM L) (mS L)).testBit i = true)) L.length + sumN (fun i => one ((mS L).testBit i = true)) L.length = (mN L : Int) := by
  have I := mI h
  have hl := h.le
  have hS1 : ∀ c, (rowS L.length (mM L) (mS L)).testBit c = true → c < L.length := fun c h => by
    rw [rowS_bit hl] at h
    simp only [Bool.and_eq_true, decide_eq_true_eq] at h
    exact h.1
  have top : ∀ S : Nat, (∀ c, S.testBit c = true → c < L.length) → pc 10 S = pc L.length S := fun S hS => by
    have e3 := pc_top (s := S) (n := L.length) (fun c hc => by
      cases hx : S.testBit c
      · rfl
      · have := hS c hx; omega) (10 - L.length)
    rwa [show L.length + (10 - L.length) = 10 by omega] at e3
  obtain ⟨g1, _, g3, g4⟩ := lsS_ag (n := L.length) hS1 10
  obtain ⟨k1, _, k3, k4⟩ := lsS_ag (n := L.length) (S := mS L) (fun c h => (I.a1 c h).1) 10
  refine ⟨fun i k hi hk hg => ?_, ?_⟩
  · have hb := h.bd i k
    have hmb : ∀ (S v : Nat), (∀ j, j < (lsS S 10).length → S.testBit (geti (lsS S 10) j).toNat = true) → mb (lsS S 10) (lsS S 10).length v = true → S.testBit v = true := fun S v h1 h2 => by
      rw [mb_iff] at h2
      obtain ⟨j, hj, e⟩ := h2
      have := h1 j hj
      rwa [e, Int.toNat_natCast] at this
    rcases most_cover h I i k hi hk (by omega) with h1 | h1
    · exact Or.inl (hmb _ _ g4 h1)
    · exact Or.inr (hmb _ _ k4 h1)
  · have hc := most_count h I
    have p1 := pc_sum (rowS L.length (mM L) (mS L)) L.length
    have p2 := pc_sum (mS L) L.length
    rw [top _ hS1] at g3
    rw [top _ (fun c h => (I.a1 c h).1)] at k3
    unfold mN
    omega
theorem mN_max {L : List (List Int)} (h : IsT L) {a b : Nat → Nat} {p : Nat} (hp : Prng L a b p) : p ≤ mN L := by
  obtain ⟨h1, h2⟩ := own_cov h
  have := weak h1 hp
  omega
theorem mN_min {L : List (List Int)} (h : IsT L) {R C : Nat → Bool} (hc : Cov L R C) : (mN L : Int) ≤ sumN (fun i => one (R i = true)) L.length + sumN (fun i => one (C i = true)) L.length := weak hc (own_prng h)
/-- Rows and columns exchanged. -/
theorem mN_turn {L K : List (List Int)} (h : IsT L) (hK : IsT K) (hl : K.length = L.length) (e : ∀ i k, i < L.length → k < L.length → gat K i k = gat L k i) : mN L = mN K := by
  have p1 := own_prng h
  have p2 := own_prng hK
  refine Nat.le_antisymm (mN_max hK (a := fun i => (geti (csP (mM L) L.length) i).toNat) (b := fun i => (geti (rsP (mM L) L.length) i).toNat) ⟨fun i hi => by rw [hl]; exact p1.rb i hi, fun i hi => by rw [hl]; exact p1.ra i hi, fun i hi => ?_, p1.bb, p1.aa⟩)
    (mN_max h (a := fun i => (geti (csP (mM K) K.length) i).toNat) (b := fun i => (geti (rsP (mM K) K.length) i).toNat) ⟨fun i hi => by rw [← hl]; exact p2.rb i hi, fun i hi => by rw [← hl]; exact p2.ra i hi, fun i hi => ?_, p2.bb, p2.aa⟩)
  · rw [e _ _ (p1.rb i hi) (p1.ra i hi)]; exact p1.pos i hi
  · have := p2.pos i hi
    rwa [e _ _ (by rw [← hl]; exact p2.ra i hi) (by rw [← hl]; exact p2.rb i hi)] at this
/-- One number becomes positive. -/
theorem mN_more {L K : List (List Int)} (h : IsT L) (hK : IsT K) (hl : K.length = L.length) {r c : Nat} (hr : r < L.length) (e : ∀ i k, i < L.length → k < L.length → gat K i k = if r = i ∧ c = k then 1 else gat L i k) : mN L ≤ mN K ∧ mN K ≤ mN L + 1 := by
  have p1 := own_prng h
  constructor
  · refine mN_max hK ⟨fun i hi => by rw [hl]; exact p1.ra i hi, fun i hi => by rw [hl]; exact p1.rb i hi, fun i hi => ?_, p1.aa, p1.bb⟩
    rw [e _ _ (p1.ra i hi) (p1.rb i hi)]
    split
    · decide
    · exact p1.pos i hi
  · obtain ⟨h1, h2⟩ := own_cov h
    have h3 := mN_min hK (R := fun i => (rowS L.length (mM L) (mS L)).testBit i || decide (i = r)) (C := fun i => (mS L).testBit i) (fun i k hi hk hg => by
      rw [hl] at hi hk
      rw [e i k hi hk] at hg
      by_cases hx : r = i ∧ c = k
      · left; simp [hx.1]
      · rw [if_neg hx] at hg
        rcases h1 i k hi hk hg with h4 | h4
        · left; dsimp only at h4 ⊢; rw [h4]; rfl
        · exact Or.inr h4)
    rw [hl] at h3
    have h4 : sumN (fun i => one (((rowS L.length (mM L) (mS L)).testBit i || decide (i = r)) = true)) L.length ≤ sumN (fun i => one ((rowS L.length (mM L) (mS L)).testBit i = true)) L.length + sumN (fun i => one (i = r)) L.length := by
      rw [← sumN_add]
      refine sumN_le (fun i _ => ?_)
      unfold one
      (try dsimp only)
      cases (rowS L.length (mM L) (mS L)).testBit i
      · by_cases e : i = r <;> simp [e]
      · by_cases e : i = r <;> simp [e]
    have h5 : sumN (fun i => one (i = r)) L.length = 1 := by
      have := sumN_upd (g := fun _ => 0) (h := fun i => one (i = r)) (c := r) (d := 1) (by unfold one; simp) (fun j hj => by unfold one; rw [if_neg hj]) (n := L.length) hr
      rw [this, sumN_zero]; rfl
    omega
theorem mN_le (L : List (List Int)) : mN L ≤ L.length := prs_len _ _
theorem mN_sum {L : List (List Int)} (h : IsT L) : (mN L : Int) = sumN (fun r => cnA L.length (mM L) r) L.length := by
  have I := mI h
  have hl := h.le
  unfold mN
  rw [prs_sum]
  refine sumN_congr (fun r hr => ?_)
  have h0 := cnU_nonneg L.length 0 (mM L) r
  have h2 : cnU L.length 0 (mM L) r ≤ 1 := I.few r hr
  show _ = cnU L.length 0 (mM L) r
  unfold one
  by_cases hf : fst1 (mM L) (r : Int) 10 = -1
  · rw [if_neg (fun h => h hf)]
    have hz : cnU L.length 0 (mM L) r = 0 := by
      apply Classical.byContradiction
      intro hno
      obtain ⟨c, hc, h3, h4⟩ := cnU_some.1 hno
      exact fst1_no.1 hf c (by omega) h4
    omega
  · rw [if_pos hf]
    have hne : cnU L.length 0 (mM L) r ≠ 0 := by
      apply cnU_some.2
      have hb := fst1_bd (mM L) (r : Int) 10
      have ha := fst1_at hf
      refine ⟨(fst1 (mM L) (r : Int) 10).toNat, ?_, by simp, ha⟩
      apply Classical.byContradiction
      intro hno
      have := I.far (fst1 (mM L) (r : Int) 10).toNat (by omega) (by omega)
      omega
    omega
/-- As many pairs as rows, or no possible choice. -/
theorem mN_all {L : List (List Int)} (h : IsT L) : mN L = L.length ↔ 0 < chN L (sAll L.length) := by
  constructor
  · intro e
    apply Classical.byContradiction
    intro hk
    obtain ⟨r0, hr0, h0⟩ := some_left h (mI h) (by omega)
    have h1 := mN_sum h
    have b1 : sumN (fun r => cnA L.length (mM L) r) L.length ≤ sumN (fun r => if r = r0 then 0 else 1) L.length := sumN_le (fun r hr => by
      try dsimp only
      by_cases e : r = r0
      · subst e; rw [if_pos rfl]; exact Int.le_of_eq h0
      · rw [if_neg e]; exact (mI h).few r hr)
    have b2 := sumN_upd (g := fun _ => 1) (h := fun r : Nat => if r = r0 then (0 : Int) else 1) (c := r0) (d := -1) (by simp) (fun j hj => by simp [hj]) hr0
    rw [sumN_one] at b2
    omega
  · intro hk
    obtain ⟨h1, h2⟩ := poss_map (itm_poss h (Int.le_refl 0) hk).1
    refine Nat.le_antisymm (mN_le L) (mN_max h (a := fun i => i) (b := fun i => (geti (itm L L.length (sAll L.length) 0) i).toNat) ⟨fun i hi => hi, fun i hi => (h1 i hi).1, fun i hi => (h1 i hi).2, fun i j _ _ hne => hne, h2⟩)
end Go.Proofs.Ytnnaaoobdofooaa
