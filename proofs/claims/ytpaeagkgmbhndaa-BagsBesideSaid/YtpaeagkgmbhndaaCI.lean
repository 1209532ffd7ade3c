/- Two graphs side by side: plain facts. -/
import Derived.Test.YtpaeagkgmbhndaaBR
import Derived.Test.YtpaeagkgmbhndaaCB
namespace Go.Proofs.Ytpaeagkgmbhndaa
open Go.RowKit
set_option maxHeartbeats 1000000
set_option maxRecDepth 100000
def shE (a : Nat) (ys : List (Int × Int)) : List (Int × Int) := ys.map fun e => (e.1 + a, e.2 + a)
theorem shE_len (a : Nat) (ys : List (Int × Int)) : (shE a ys).length = ys.length := by simp [shE]
theorem shE_AB {a : Nat} {ys : List (Int × Int)} {k : Nat} (h : k < ys.length) : pA (shE a ys) k = pA ys k + a ∧ pB (shE a ys) k = pB ys k + a := by
  have h2 : k < (shE a ys).length := by rw [shE_len]; exact h
  have e : (shE a ys)[k] = (pA ys k + a, pB ys k + a) := by
    simp only [shE, List.getElem_map]
    rw [pAB_get h]
  have e2 := pAB_get h2
  rw [e] at e2
  injection e2 with e3 e4
  exact ⟨e3.symm, e4.symm⟩
theorem rd_wide {n n2 : Int} (hn : n ≤ n2) : ∀ (es : List (Int × Int)) (gs g : List Nat), rd n es gs = some g → rd n2 es gs = some g := by
  intro es
  induction es with
  | nil => intro gs g h; exact h
  | cons e es ih =>
    intro gs g h
    rw [rd] at h ⊢
    split at h
    next ok =>
      rw [if_pos (by
        unfold okE at ok ⊢
        simp only [Bool.and_eq_true, decide_eq_true_eq] at ok ⊢
        exact ⟨ok.1, ok.2.1, by omega, ok.2.2.2⟩)]
      exact ih _ _ h
    next => exact absurd h (by simp)
theorem rd_shift {a b : Nat} (hab : a + b ≤ 16) : ∀ (ys : List (Int × Int)) (g g' gy : List Nat), Rows16 g → Rows16 g' → (∀ u v, u < b → v < b → sHas (near g' (a + u)) (a + v) = sHas (near g u) v) → rd b ys g = some gy → ∃ g3, rd ((a + b : Nat) : Int) (shE a ys) g' = some g3 := by
  intro ys
  induction ys with
  | nil => intro g g' gy _ _ _ _; exact ⟨g', rfl⟩
  | cons e ys ih =>
    intro g g' gy hr hr' hrel h
    rw [rd] at h
    split at h
    next ok =>
      unfold okE at ok
      simp only [Bool.and_eq_true, decide_eq_true_eq, Bool.not_eq_true'] at ok
      obtain ⟨o1, o2, o3, o4⟩ := ok
      obtain ⟨e1, e2⟩ := e
      dsimp only at o1 o2 o3 o4 h
      obtain ⟨A, rfl⟩ : ∃ A : Nat, e1 = A := ⟨e1.toNat, by omega⟩
      obtain ⟨B, rfl⟩ : ∃ B : Nat, e2 = B := ⟨e2.toNat, by omega⟩
      simp only [Int.toNat_natCast] at o4 h
      have hAB : A < B := by omega
      have hBb : B < b := by omega
      have t1 : ((A : Int) + a).toNat = a + A := by omega
      have t2 : ((B : Int) + a).toNat = a + B := by omega
      show ∃ g3, rd _ (((A : Int) + a, (B : Int) + a) :: shE a ys) g' = some g3
      rw [rd, if_pos (by
        unfold okE
        simp only [Bool.and_eq_true, decide_eq_true_eq, Bool.not_eq_true']
        refine ⟨by omega, by omega, by omega, ?_⟩
        rw [t1, t2, hrel A B (by omega) hBb]
        exact o4)]
      dsimp only
      rw [t1, t2]
      refine ih (addE g A B) (addE g' (a + A) (a + B)) gy (hr.addE (by omega) (by omega)) (hr'.addE (by omega) (by omega)) (fun u v hu hv => ?_) h
      rw [Bool.eq_iff_iff, add_has hr' (by omega) (by omega) (by omega), add_has hr (by omega) (by omega) (by omega), hrel u v hu hv]
      constructor
      · rintro (h | ⟨h, h'⟩ | ⟨h, h'⟩)
        · exact .inl h
        · exact .inr (.inl ⟨by omega, by omega⟩)
        · exact .inr (.inr ⟨by omega, by omega⟩)
      · rintro (h | ⟨h, h'⟩ | ⟨h, h'⟩)
        · exact .inl h
        · exact .inr (.inl ⟨by omega, by omega⟩)
        · exact .inr (.inr ⟨by omega, by omega⟩)
    next => exact absurd h (by simp)
theorem readF_mem {n : Nat} {es : List (Int × Int)} {gs : List Nat} (h : readF n es = some gs) : ∀ e ∈ es, 0 ≤ e.1 ∧ e.1 < e.2 ∧ e.2 < n := fun e he => by
  obtain ⟨k, hk, rfl⟩ := List.getElem_of_mem he
  have := readF_edges h hk
  rw [pAB_get hk]
  exact this
theorem low_bits {m : Nat} {es : List (Int × Int)} {gs : List Nat} (h : readF m es = some gs) {u v : Nat} (hu : sHas (near gs u) v = true) : u < m ∧ v < m := by
  obtain ⟨e, he, h1⟩ := (readF_has h u v).1 hu
  have := readF_mem h e he
  rcases h1 with h1 | h1 <;> omega
theorem side_ex {a b : Nat} {x y : List (Int × Int)} {gx gy : List Nat} (h1 : readF a x = some gx) (h2 : readF b y = some gy) (hab : a + b ≤ 16) : ∃ g3, readF ((a + b : Nat) : Int) (x ++ shE a y) = some g3 := by
  obtain ⟨a1, a2, hg, _⟩ := readF_ok h1
  obtain ⟨b1, b2, _, _⟩ := readF_ok h2
  have h1' := h1
  have h2' := h2
  unfold readF at h1' h2'
  rw [if_pos ⟨a1, a2⟩] at h1'
  rw [if_pos ⟨b1, b2⟩] at h2'
  obtain ⟨g3, h3⟩ := rd_shift hab y Z16 gx gy rows_zero hg (fun u v hu hv => by
    have e1 : sHas (near Z16 u) v = false := by unfold near sHas; rw [List.getElem?_replicate]; split <;> simp
    rw [e1]
    cases e : sHas (near gx (a + u)) (a + v)
    · rfl
    · have := low_bits h1 e; omega) h2'
  refine ⟨g3, ?_⟩
  unfold readF
  rw [if_pos ⟨by omega, by omega⟩, rd_app, rd_wide (by omega : (a : Int) ≤ ((a + b : Nat) : Int)) _ _ _ h1']
  exact h3
structure Side (a b : Nat) (x y : List (Int × Int)) (gx gy g3 : List Nat) : Prop where
  h1 : readF a x = some gx
  h2 : readF b y = some gy
  h3 : readF ((a + b : Nat) : Int) (x ++ shE a y) = some g3
  ab : a + b ≤ 16
theorem Side.has {a b : Nat} {x y : List (Int × Int)} {gx gy g3 : List Nat} (S : Side a b x y gx gy g3) (u v : Nat) : sHas (near g3 u) v = true ↔ (sHas (near gx u) v = true) ∨ (a ≤ u ∧ a ≤ v ∧ sHas (near gy (u - a)) (v - a) = true) := by
  rw [readF_has S.h3, readF_has S.h1, readF_has S.h2]
  unfold Joins
  constructor
  · rintro ⟨e, he, h⟩
    rcases List.mem_append.1 he with he | he
    · exact .inl ⟨e, he, h⟩
    · right
      unfold shE at he
      obtain ⟨e', he', rfl⟩ := List.mem_map.1 he
      have := readF_mem S.h2 e' he'
      dsimp only at h
      rcases h with ⟨h, h'⟩ | ⟨h, h'⟩
      · exact ⟨by omega, by omega, e', he', .inl ⟨by omega, by omega⟩⟩
      · exact ⟨by omega, by omega, e', he', .inr ⟨by omega, by omega⟩⟩
  · rintro (⟨e, he, h⟩ | ⟨hu, hv, e, he, h⟩)
    · exact ⟨e, List.mem_append_left _ he, h⟩
    · refine ⟨(e.1 + a, e.2 + a), List.mem_append_right _ (List.mem_map.2 ⟨e, he, rfl⟩), ?_⟩
      dsimp only
      rcases h with ⟨h, h'⟩ | ⟨h, h'⟩
      · exact .inl ⟨by omega, by omega⟩
      · exact .inr ⟨by omega, by omega⟩
/-- A set, and its parts in both graphs. -/
structure Halves (a T T1 T2 : Nat) : Prop where
  t : T < 65536
  t1 : T1 < 65536
  t2 : T2 < 65536
  low : ∀ v, v < a → sHas T v = sHas T1 v
  up : ∀ v, sHas T (a + v) = sHas T2 v
  no : ∀ v, a ≤ v → sHas T1 v = false
theorem halves_of {a T : Nat} (hT : T < 65536) : Halves a T (sAnd T (sAll a)) (T >>> a) := by
  have hb : ∀ v, sHas (sAnd T (sAll a)) v = (sHas T v && decide (v < a)) := fun v => by unfold sHas; rw [sAnd_bit, all_bit]
  refine ⟨hT, sAnd_lt hT, Nat.lt_of_le_of_lt (by rw [Nat.shiftRight_eq_div_pow]; exact Nat.div_le_self _ _) hT, fun v hv => ?_, fun v => ?_, fun v hv => ?_⟩
  · rw [hb]; simp [hv]
  · unfold sHas; rw [Nat.testBit_shiftRight]
  · rw [hb]; simp; intro _; omega
theorem has_none (v : Nat) : sHas 0 v = false := by unfold sHas; simp
theorem halves_low {a T : Nat} (hT : T < 65536) (h : ∀ v, sHas T v = true → v < a) : Halves a T T 0 := by
  refine ⟨hT, hT, by omega, fun v _ => rfl, fun v => ?_, fun v hv => ?_⟩
  · rw [has_none]
    cases e : sHas T (a + v)
    · rfl
    · have := h _ e; omega
  · cases e : sHas T v
    · rfl
    · have := h _ e; omega
theorem halves_up {a b T : Nat} (hab : a + b ≤ 16) (hT : T < 65536) (h : ∀ v, sHas T v = true → v < b) : Halves a (T <<< a) 0 T := by
  have hTb : T < 2^b := Nat.lt_pow_two_of_testBit T fun i hi => by
    cases e : T.testBit i
    · rfl
    · have := h i e; omega
  refine ⟨?_, by omega, hT, fun v hv => ?_, fun v => ?_, fun v _ => has_none v⟩
  · rw [Nat.shiftLeft_eq]
    calc T * 2^a < 2^b * 2^a := Nat.mul_lt_mul_of_pos_right hTb (Nat.pow_pos (by omega))
      _ = 2^(b + a) := (Nat.pow_add 2 b a).symm
      _ ≤ 2^16 := Nat.pow_le_pow_right (by omega) (by omega)
  · rw [has_none]; unfold sHas; rw [Nat.testBit_shiftLeft]; simp; intro _; omega
  · unfold sHas; rw [Nat.testBit_shiftLeft]; simp
theorem sumN_split (f : Nat → Int) (a : Nat) : ∀ k, sumN (a + k) f = sumN a f + sumN k (fun i => f (a + i))
  | 0 => by show sumN a f = sumN a f + 0; omega
  | k + 1 => by
    show sumN (a + k) f + f (a + k) = sumN a f + (sumN k (fun i => f (a + i)) + f (a + k))
    rw [sumN_split f a k]; omega
theorem Halves.size {a T T1 T2 : Nat} (ha : a ≤ 16) (h : Halves a T T1 T2) : pc 16 T = pc 16 T1 + pc 16 T2 := by
  have e1 := pc_sum T
  have e2 := pc_sum T1
  have e3 := pc_sum T2
  have s1 := sumN_split (fun v => if sHas T v = true then 1 else 0) a (16 - a)
  have s2 := sumN_split (fun v => if sHas T1 v = true then 1 else 0) a (16 - a)
  have s3 := sumN_split (fun v => if sHas T2 v = true then 1 else 0) (16 - a) a
  rw [show a + (16 - a) = 16 by omega] at s1 s2
  rw [show 16 - a + a = 16 by omega] at s3
  have c1 : sumN a (fun v => if sHas T v = true then 1 else 0) = sumN a (fun v => if sHas T1 v = true then 1 else 0) := sumN_congr a fun v hv => by rw [h.low v hv]
  have c2 : sumN (16 - a) (fun i => if sHas T (a + i) = true then 1 else 0) = sumN (16 - a) (fun i => if sHas T2 i = true then 1 else 0) := sumN_congr _ fun v _ => by rw [h.up v]
  have c3 : sumN (16 - a) (fun i => if sHas T1 (a + i) = true then 1 else 0) = 0 := (sumN_congr _ fun v _ => by rw [h.no (a + v) (by omega)]; rfl).trans (sumN_zero _)
  have c4 : sumN a (fun i => if sHas T2 (16 - a + i) = true then 1 else 0) = 0 := (sumN_congr _ fun v _ => by
    have : sHas T2 (16 - a + v) = false := by
      rw [← h.up]
      unfold sHas
      exact Nat.testBit_lt_two_pow (Nat.lt_of_lt_of_le h.t (Nat.pow_le_pow_right (n := 2) (by omega) (by omega : 16 ≤ a + (16 - a + v))))
    rw [this]; rfl).trans (sumN_zero _)
  rw [c1, c2] at s1
  rw [c3] at s2
  rw [c4] at s3
  omega
theorem insT_pre (x z : List (Int × Int)) (xs : List Int) : ∀ k, k ≤ x.length → insT (x ++ z) xs k = insT x xs k := by
  intro k
  induction k with
  | zero => intro _; rfl
  | succ k ih =>
    intro hk
    have h1 : pA (x ++ z) k = pA x k := by unfold pA; rw [List.getD_eq_getElem?_getD, List.getD_eq_getElem?_getD, List.getElem?_append_left (by omega)]
    have h2 : pB (x ++ z) k = pB x k := by unfold pB; rw [List.getD_eq_getElem?_getD, List.getD_eq_getElem?_getD, List.getElem?_append_left (by omega)]
    rw [insT, insT, ih (by omega), h1, h2]
theorem insT_app (x z : List (Int × Int)) (xs : List Int) : ∀ k, insT (x ++ z) xs (x.length + k) = insT x xs x.length + insT z xs k := by
  intro k
  induction k with
  | zero => show insT (x ++ z) xs x.length = insT x xs x.length + 0; rw [insT_pre x z xs _ (Nat.le_refl _)]; rfl
  | succ k ih =>
    have h1 : pA (x ++ z) (x.length + k) = pA z k := by unfold pA; rw [List.getD_eq_getElem?_getD, List.getD_eq_getElem?_getD, List.getElem?_append_right (by omega), show x.length + k - x.length = k by omega]
    have h2 : pB (x ++ z) (x.length + k) = pB z k := by unfold pB; rw [List.getD_eq_getElem?_getD, List.getD_eq_getElem?_getD, List.getElem?_append_right (by omega), show x.length + k - x.length = k by omega]
    have e1 : insT (x ++ z) xs (x.length + (k + 1)) = insT (x ++ z) xs (x.length + k) + if pA (x ++ z) (x.length + k) ∈ xs ∧ pB (x ++ z) (x.length + k) ∈ xs then 1 else 0 := rfl
    rw [e1, insT, ih, h1, h2]; omega
theorem insT_congr {es es2 : List (Int × Int)} {xs xs2 : List Int} : ∀ k, (∀ i, i < k → (pA es i ∈ xs ↔ pA es2 i ∈ xs2) ∧ (pB es i ∈ xs ↔ pB es2 i ∈ xs2)) → insT es xs k = insT es2 xs2 k := by
  intro k
  induction k with
  | zero => intro _; rfl
  | succ k ih =>
    intro h
    rw [insT, insT, ih (fun i hi => h i (by omega))]
    simp only [(h k (by omega)).1, (h k (by omega)).2]
theorem Side.ends {a b : Nat} {x y : List (Int × Int)} {gx gy g3 : List Nat} (S : Side a b x y gx gy g3) {T T1 T2 : Nat} (H : Halves a T T1 T2) : eg g3 T = eg gx T1 + eg gy T2 := by
  unfold eg
  rw [ends_ins S.h3 (xs := natI (ms T)) (fun v => ms_has H.t), ends_ins S.h1 (xs := natI (ms T1)) (fun v => ms_has H.t1), ends_ins S.h2 (xs := natI (ms T2)) (fun v => ms_has H.t2)]
  rw [List.length_append, shE_len, insT_app]
  congr 1
  · refine insT_congr _ fun i hi => ?_
    have he := readF_edges S.h1 hi
    obtain ⟨A, hA⟩ : ∃ A : Nat, pA x i = A := ⟨(pA x i).toNat, by omega⟩
    obtain ⟨B, hB⟩ : ∃ B : Nat, pB x i = B := ⟨(pB x i).toNat, by omega⟩
    rw [hA, hB] at he ⊢
    rw [ms_has H.t, ms_has H.t, ms_has H.t1, ms_has H.t1, H.low A (by omega), H.low B (by omega)]
    exact ⟨Iff.rfl, Iff.rfl⟩
  · refine insT_congr _ fun i hi => ?_
    have he := readF_edges S.h2 hi
    obtain ⟨e1, e2⟩ := shE_AB (a := a) hi
    obtain ⟨A, hA⟩ : ∃ A : Nat, pA y i = A := ⟨(pA y i).toNat, by omega⟩
    obtain ⟨B, hB⟩ : ∃ B : Nat, pB y i = B := ⟨(pB y i).toNat, by omega⟩
    rw [hA] at e1
    rw [hB] at e2
    rw [e1, e2, hA, hB, show (A : Int) + a = ((a + A : Nat) : Int) by omega, show (B : Int) + a = ((a + B : Nat) : Int) by omega]
    rw [ms_has H.t, ms_has H.t, ms_has H.t2, ms_has H.t2, H.up A, H.up B]
    exact ⟨Iff.rfl, Iff.rfl⟩
theorem Side.nb1 {a b : Nat} {x y : List (Int × Int)} {gx gy g3 : List Nat} (S : Side a b x y gx gy g3) {T T1 T2 : Nat} (H : Halves a T T1 T2) {u : Nat} (hu : u < a) : nb g3 T u = nb gx T1 u := by
  unfold nb
  congr 1
  refine Nat.eq_of_testBit_eq fun v => ?_
  rw [sAnd_bit, sAnd_bit, Bool.eq_iff_iff, Bool.and_eq_true, Bool.and_eq_true]
  have h := S.has u v
  unfold sHas at h
  rw [h]
  constructor
  · rintro ⟨h1 | ⟨h1, _⟩, h2⟩
    · have hv := (low_bits S.h1 h1).2
      have e := H.low v hv
      unfold sHas at e
      exact ⟨h1, by rw [← e]; exact h2⟩
    · omega
  · rintro ⟨h1, h2⟩
    have hv := (low_bits S.h1 h1).2
    have e := H.low v hv
    unfold sHas at e
    exact ⟨.inl h1, by rw [e]; exact h2⟩
theorem Side.nb2 {a b : Nat} {x y : List (Int × Int)} {gx gy g3 : List Nat} (S : Side a b x y gx gy g3) {T T1 T2 : Nat} (H : Halves a T T1 T2) (u : Nat) : nb g3 T (a + u) = nb gy T2 u := by
  have ha : a ≤ 16 := by have := S.ab; omega
  have hh : Halves a (sAnd (near g3 (a + u)) T) 0 (sAnd (near gy u) T2) := by
    refine ⟨sAnd_lt ((readF_ok S.h3).2.2.1.near_lt _), by omega, sAnd_lt ((readF_ok S.h2).2.2.1.near_lt _), fun v hv => ?_, fun v => ?_, fun v _ => has_none v⟩
    · rw [has_none]
      unfold sHas
      rw [sAnd_bit]
      cases e : (near g3 (a + u)).testBit v
      · rfl
      · exfalso
        rcases (S.has (a + u) v).1 e with h | ⟨_, h, _⟩
        · have := low_bits S.h1 h; omega
        · omega
    · unfold sHas
      rw [sAnd_bit, sAnd_bit, Bool.eq_iff_iff, Bool.and_eq_true, Bool.and_eq_true]
      have h := S.has (a + u) (a + v)
      have h2 := H.up v
      unfold sHas at h h2
      rw [h, h2]
      constructor
      · rintro ⟨h1 | ⟨_, _, h1⟩, h3⟩
        · have := low_bits S.h1 h1; omega
        · rw [show a + u - a = u by omega, show a + v - a = v by omega] at h1
          exact ⟨h1, h3⟩
      · rintro ⟨h1, h3⟩
        refine ⟨.inr ⟨by omega, by omega, ?_⟩, h3⟩
        rw [show a + u - a = u by omega, show a + v - a = v by omega]
        exact h1
  unfold nb
  rw [hh.size ha]
  have : pc 16 0 = 0 := by decide
  omega
theorem Side.core1 {a b : Nat} {x y : List (Int × Int)} {gx gy g3 : List Nat} (S : Side a b x y gx gy g3) {v : Nat} (hv : v < a) : getn (coreF (a + b) g3) v = getn (coreF a gx) v := by
  obtain ⟨_, _, _, hI⟩ := readF_ok S.h1
  obtain ⟨_, _, _, hI3⟩ := readF_ok S.h3
  have ha : a ≤ 16 := by have := S.ab; omega
  have key : ∀ k, k ≤ getn (coreF (a + b) g3) v ↔ k ≤ getn (coreF a gx) v := fun k => by
    rw [core_iff hI3 S.ab (by omega) k, core_iff hI ha hv k]
    constructor
    · rintro (h | ⟨T, h1, h2, h3, h4⟩)
      · exact .inl h
      · right
        have H := halves_of (a := a) h1
        generalize sAnd T (sAll a) = T1 at *
        generalize T >>> a = T2 at *
        refine ⟨T1, H.t1, fun u _ hu => ?_, by rw [← H.low v hv]; exact h3, fun u hu hT => ?_⟩
        · by_cases e : u < a
          · exact e
          · rw [H.no u (by omega)] at hu; exact absurd hu (by simp)
        · have e : u < a := by
            by_cases e : u < a
            · exact e
            · rw [H.no u (by omega)] at hT; exact absurd hT (by simp)
          rw [← S.nb1 H e]
          exact h4 u hu (by rw [H.low u e]; exact hT)
    · rintro (h | ⟨T, h1, h2, h3, h4⟩)
      · exact .inl h
      · right
        have hlow : ∀ u, sHas T u = true → u < a := fun u hu => h2 u ((mem_ms.1 ((mem_ms' h1).2 hu)).1) hu
        have H := halves_low h1 hlow
        refine ⟨T, h1, fun u hu hT => by have := h2 u hu hT; omega, h3, fun u hu hT => ?_⟩
        rw [S.nb1 H (hlow u hT)]
        exact h4 u hu hT
  have k1 := (key (getn (coreF (a + b) g3) v)).1 (Nat.le_refl _)
  have k2 := (key (getn (coreF a gx) v)).2 (Nat.le_refl _)
  omega
theorem Side.core2 {a b : Nat} {x y : List (Int × Int)} {gx gy g3 : List Nat} (S : Side a b x y gx gy g3) {v : Nat} (hv : v < b) : getn (coreF (a + b) g3) (a + v) = getn (coreF b gy) v := by
  obtain ⟨_, _, _, hI⟩ := readF_ok S.h2
  obtain ⟨_, _, _, hI3⟩ := readF_ok S.h3
  have hab := S.ab
  have ha : a ≤ 16 := by omega
  have hb : b ≤ 16 := by omega
  have key : ∀ k, k ≤ getn (coreF (a + b) g3) (a + v) ↔ k ≤ getn (coreF b gy) v := fun k => by
    rw [core_iff hI3 S.ab (by omega) k, core_iff hI hb hv k]
    constructor
    · rintro (h | ⟨T, h1, h2, h3, h4⟩)
      · exact .inl h
      · right
        have H := halves_of (a := a) h1
        generalize sAnd T (sAll a) = T1 at *
        generalize T >>> a = T2 at *
        have hup : ∀ u, sHas T2 u = true → u < b ∧ a + u < 16 := fun u hu => by
          have h5 : sHas T (a + u) = true := by rw [H.up]; exact hu
          have h6 := (mem_ms.1 ((mem_ms' h1).2 h5)).1
          have := h2 (a + u) h6 h5
          omega
        refine ⟨T2, H.t2, fun u _ hu => (hup u hu).1, by rw [← H.up v]; exact h3, fun u hu hT => ?_⟩
        rw [← S.nb2 H u]
        exact h4 (a + u) (hup u hT).2 (by rw [H.up]; exact hT)
    · rintro (h | ⟨T, h1, h2, h3, h4⟩)
      · exact .inl h
      · right
        have hlow : ∀ u, sHas T u = true → u < b := fun u hu => h2 u ((mem_ms.1 ((mem_ms' h1).2 hu)).1) hu
        have H := halves_up hab h1 hlow
        have hof : ∀ u, sHas (T <<< a) u = true → a ≤ u ∧ sHas T (u - a) = true := fun u hu => by
          by_cases e : u < a
          · rw [H.low u e, has_none] at hu; exact absurd hu (by simp)
          · refine ⟨by omega, ?_⟩
            rw [← H.up, show a + (u - a) = u by omega]; exact hu
        refine ⟨T <<< a, H.t, fun u hu hT => ?_, by rw [H.up]; exact h3, fun u hu hT => ?_⟩
        · obtain ⟨e1, e2⟩ := hof u hT
          have := hlow _ e2
          omega
        · obtain ⟨e1, e2⟩ := hof u hT
          have := S.nb2 H (u - a)
          rw [show a + (u - a) = u by omega] at this
          rw [this]
          exact h4 (u - a) (by omega) e2
  have k1 := (key (getn (coreF (a + b) g3) (a + v))).1 (Nat.le_refl _)
  have k2 := (key (getn (coreF b gy) v)).2 (Nat.le_refl _)
  omega
theorem Side.cores {a b : Nat} {x y : List (Int × Int)} {gx gy g3 : List Nat} (S : Side a b x y gx gy g3) : coreF (a + b) g3 = coreF a gx ++ coreF b gy := by
  have l1 : (coreF (a + b) g3).length = a + b := coreL_len _ _
  have l2 : (coreF a gx).length = a := coreL_len _ _
  have l3 : (coreF b gy).length = b := coreL_len _ _
  apply List.ext_getElem
  · rw [List.length_append]; omega
  · intro i h1 h2
    have e1 := getn_eq h1
    rw [← e1]
    by_cases hi : i < a
    · rw [List.getElem_append_left (by omega), ← getn_eq, S.core1 hi]
    · rw [List.getElem_append_right (by omega), ← getn_eq]
      have := S.core2 (v := i - a) (by omega)
      rw [show a + (i - a) = i by omega] at this
      rw [this]
      congr 1
      omega
/-- The greater one of both densities. -/
theorem Side.dens {a b : Nat} {x y : List (Int × Int)} {gx gy g3 : List Nat} (S : Side a b x y gx gy g3) {s1 p1 q1 s2 p2 q2 s3 p3 q3 : Nat} (D1 : Dens a gx s1 p1 q1) (D2 : Dens b gy s2 p2 q2) (D3 : Dens (a + b) g3 s3 p3 q3) :
    (p1 * q2 < p2 * q1 → p3 = p2 ∧ q3 = q2) ∧ (¬ p1 * q2 < p2 * q1 → p3 = p1 ∧ q3 = q1) := by
  have hab := S.ab
  have ha : a ≤ 16 := by omega
  obtain ⟨z1, _, _, f1⟩ := den_terms D1.lt D1.ne D1.den
  obtain ⟨z2, _, _, f2⟩ := den_terms D2.lt D2.ne D2.den
  obtain ⟨z3, _, _, f3⟩ := den_terms D3.lt D3.ne D3.den
  have n1 := pc_pos D1.lt D1.ne
  have n2 := pc_pos D2.lt D2.ne
  have n3 := pc_pos D3.lt D3.ne
  have y0 : eg gy 0 = 0 := eg_zero gy
  have x0 : eg gx 0 = 0 := eg_zero gx
  have pz : pc 16 0 = 0 := by decide
  have H1 := halves_low (a := a) D1.lt D1.sub
  have H2 := halves_up (a := a) hab D2.lt D2.sub
  have H3 := halves_of (a := a) D3.lt
  have g1 : p1 * q3 ≤ p3 * q1 := by
    have h := D3.up s1 D1.lt (fun v hv => by have := D1.sub v hv; omega)
    have e := S.ends H1
    unfold eg at e y0
    rw [y0] at e
    rw [e] at h
    refine Nat.le_of_mul_le_mul_right (c := pc 16 s1) ?_ n1
    calc p1 * q3 * pc 16 s1 = q3 * (p1 * pc 16 s1) := by ac_rfl
      _ = q3 * (endsOf gx s1 (ms s1) / 2 + 0) * q1 := by rw [f1]; simp only [Nat.add_zero]; ac_rfl
      _ ≤ p3 * pc 16 s1 * q1 := Nat.mul_le_mul_right _ h
      _ = p3 * q1 * pc 16 s1 := by ac_rfl
  have g2 : p2 * q3 ≤ p3 * q2 := by
    have h := D3.up (s2 <<< a) H2.t (fun v hv => by
      by_cases e : v < a
      · omega
      · have h5 := H2.up (v - a)
        rw [show a + (v - a) = v by omega, hv] at h5
        have := D2.sub _ h5.symm
        omega)
    have e := S.ends H2
    have hs := H2.size ha
    unfold eg at e x0
    rw [x0, Nat.zero_add] at e
    rw [pz, Nat.zero_add] at hs
    rw [e, hs] at h
    refine Nat.le_of_mul_le_mul_right (c := pc 16 s2) ?_ n2
    calc p2 * q3 * pc 16 s2 = q3 * (p2 * pc 16 s2) := by ac_rfl
      _ = q3 * (endsOf gy s2 (ms s2) / 2) * q2 := by rw [f2]; ac_rfl
      _ ≤ p3 * pc 16 s2 * q2 := Nat.mul_le_mul_right _ h
      _ = p3 * q2 * pc 16 s2 := by ac_rfl
  have top : ∀ p q : Nat, 0 < q → p1 * q ≤ p * q1 → p2 * q ≤ p * q2 → p3 * q ≤ p * q3 := fun p q hq h1 h2 => by
    have e := S.ends H3
    have hs := H3.size ha
    have u1 := D1.up _ H3.t1 (fun v hv => by
      by_cases e : v < a
      · exact e
      · rw [H3.no v (by omega)] at hv; exact absurd hv (by simp))
    have u2 := D2.up _ H3.t2 (fun v hv => by
      have h5 := D3.sub (a + v) (by rw [H3.up]; exact hv)
      omega)
    unfold eg at e
    generalize sAnd s3 (sAll a) = T1 at *
    generalize s3 >>> a = T2 at *
    generalize endsOf gx T1 (ms T1) / 2 = E1 at *
    generalize endsOf gy T2 (ms T2) / 2 = E2 at *
    have v1 : q * E1 ≤ p * pc 16 T1 := by
      refine Nat.le_of_mul_le_mul_right (c := q1) ?_ z1
      calc q * E1 * q1 = q * (q1 * E1) := by ac_rfl
        _ ≤ q * (p1 * pc 16 T1) := Nat.mul_le_mul_left _ u1
        _ = p1 * q * pc 16 T1 := by ac_rfl
        _ ≤ p * q1 * pc 16 T1 := Nat.mul_le_mul_right _ h1
        _ = p * pc 16 T1 * q1 := by ac_rfl
    have v2 : q * E2 ≤ p * pc 16 T2 := by
      refine Nat.le_of_mul_le_mul_right (c := q2) ?_ z2
      calc q * E2 * q2 = q * (q2 * E2) := by ac_rfl
        _ ≤ q * (p2 * pc 16 T2) := Nat.mul_le_mul_left _ u2
        _ = p2 * q * pc 16 T2 := by ac_rfl
        _ ≤ p * q2 * pc 16 T2 := Nat.mul_le_mul_right _ h2
        _ = p * pc 16 T2 * q2 := by ac_rfl
    refine Nat.le_of_mul_le_mul_right (c := pc 16 s3) ?_ n3
    calc p3 * q * pc 16 s3 = q * (p3 * pc 16 s3) := by ac_rfl
      _ = q * ((E1 + E2) * q3) := by rw [f3, e]
      _ = (q * E1 + q * E2) * q3 := by rw [← Nat.mul_assoc, Nat.mul_add]
      _ ≤ (p * pc 16 T1 + p * pc 16 T2) * q3 := Nat.mul_le_mul_right _ (Nat.add_le_add v1 v2)
      _ = p * q3 * pc 16 s3 := by rw [← Nat.mul_add, ← hs]; ac_rfl
  have same : ∀ {g : List Nat} {s p q : Nat}, s < 65536 → s ≠ 0 → denV g s = (p, q) → p * pc 16 s = endsOf g s (ms s) / 2 * q → 0 < q → p3 * q = p * q3 → p3 = p ∧ q3 = q := fun {g s p q} hs h0 hd hf hq he => by
    have hp := pc_pos hs h0
    have hd3 := D3.den
    unfold denV at hd hd3
    injection hd with d1 d2
    injection hd3 with d3 d4
    have := frac_eq (a := endsOf g3 s3 (ms s3) / 2) (b := pc 16 s3) (c := endsOf g s (ms s) / 2) (d := pc 16 s) n3 hp (by
      refine Nat.eq_of_mul_eq_mul_right (Nat.mul_pos z3 hq) ?_
      calc endsOf g3 s3 (ms s3) / 2 * pc 16 s * (q3 * q) = endsOf g3 s3 (ms s3) / 2 * q3 * (pc 16 s * q) := by ac_rfl
        _ = p3 * q * (pc 16 s3 * pc 16 s) := by rw [← f3]; ac_rfl
        _ = p * pc 16 s * (q3 * pc 16 s3) := by rw [he]; ac_rfl
        _ = endsOf g s (ms s) / 2 * pc 16 s3 * (q3 * q) := by rw [hf]; ac_rfl)
    rw [d3, d4, d1, d2] at this
    exact this
  constructor
  · intro h
    have t := top p2 q2 z2 (by omega) (Nat.le_refl _)
    exact same D2.lt D2.ne D2.den f2 z2 (by omega)
  · intro h
    have t := top p1 q1 z1 (Nat.le_refl _) (by omega)
    exact same D1.lt D1.ne D1.den f1 z1 (by omega)
end Go.Proofs.Ytpaeagkgmbhndaa
