/- Crochemore's theorem for maps of three letters: words that are kept free up to five letters are kept at any length. -/
import Derived.Test.YtoklnpiehbnalaaMA
namespace Go.Proofs.Ytoklnpiehbnalaa
set_option maxHeartbeats 1000000
set_option maxRecDepth 100000
/-- No square, said by parts. -/
def SqF (x : List Nat) : Prop := ∀ p u q, u ≠ [] → x ≠ p ++ (u ++ (u ++ q))
theorem sqf_iff (x : List Nat) : free x = true ↔ SqF x := by
  rw [free_iff]
  constructor
  · intro h p u q hu e
    have hl : 1 ≤ u.length := by
      cases u with
      | nil => exact absurd rfl hu
      | cons a u => simp
    have hx : x.length = p.length + 2 * u.length + q.length := by rw [e]; simp; omega
    refine h p.length u.length hl (by omega) ?_
    subst e
    unfold sub
    rw [List.drop_left, List.take_left, ← List.drop_drop, List.drop_left, List.drop_left, List.take_left]
  · intro h a p hp hl e
    refine h (x.take a) (sub x a p) (x.drop (a + 2 * p)) (fun e2 => ?_) ?_
    · have := congrArg List.length e2
      rw [sub_len] at this
      simp at this
      omega
    · have h1 : x.drop (a + p) = sub x a p ++ x.drop (a + 2 * p) := by
        rw [e]
        unfold sub
        conv => lhs; rw [← List.take_append_drop p (x.drop (a + p))]
        rw [List.drop_drop, show a + p + p = a + 2 * p by omega]
      have h2 : x.drop a = sub x a p ++ x.drop (a + p) := by
        unfold sub
        conv => lhs; rw [← List.take_append_drop p (x.drop a)]
        rw [List.drop_drop]
      rw [← h1, ← h2, List.take_append_drop]
theorem SqF.part {x y p q : List Nat} (h : SqF x) (e : x = p ++ (y ++ q)) : SqF y := fun p' u q' hu e2 => h (p ++ p') u (q' ++ q) hu (by rw [e, e2]; simp)
theorem sqf_two {a b : Nat} (h : a ≠ b) : SqF [a, b] := (sqf_iff _).1 (by
  rw [free_iff]
  intro c p hp hl e
  simp at hl
  obtain rfl : p = 1 := by omega
  obtain rfl : c = 0 := by omega
  simp [sub] at e
  exact h e)
theorem sqf_three {a b c : Nat} (h1 : a ≠ b) (h2 : b ≠ c) : SqF [a, b, c] := (sqf_iff _).1 (by
  rw [free_iff]
  intro d p hp hl e
  simp at hl
  obtain rfl : p = 1 := by omega
  rcases d with _ | d
  · simp [sub] at e
    exact h1 e
  · obtain rfl : d = 0 := by omega
    simp [sub] at e
    exact h2 e)
/-- Two letters: at most three in a row. -/
theorem two_short {x : List Nat} {c : Nat} (h : SqF x) (h3 : ∀ b ∈ x, b < 3) (hc : ∀ b ∈ x, b ≠ c) (hc3 : c < 3) : x.length ≤ 3 := by
  match x, h, h3, hc with
  | [], _, _, _ => simp
  | [_], _, _, _ => simp
  | [_, _], _, _, _ => simp
  | [_, _, _], _, _, _ => simp
  | a :: b :: d :: e :: t, h, h3, hc =>
    exfalso
    have a1 := h3 a (by simp)
    have b1 := h3 b (by simp)
    have d1 := h3 d (by simp)
    have e1 := h3 e (by simp)
    have a2 := hc a (by simp)
    have b2 := hc b (by simp)
    have d2 := hc d (by simp)
    have e2 := hc e (by simp)
    have n1 : a ≠ b := fun e => h [] [a] (d :: _) (by simp) (by rw [e]; rfl)
    have n2 : b ≠ d := fun e => h [a] [b] (_ :: _) (by simp) (by rw [e]; rfl)
    have n3 : d ≠ e := fun e => h [a, b] [d] t (by simp) (by rw [e]; rfl)
    have x1 : a = d := by omega
    have x2 : b = e := by omega
    exact h [] [a, b] t (by simp) (by rw [x1, x2]; rfl)
section
variable {h : Nat → List Nat}
def HmW (h : Nat → List Nat) (x : List Nat) : List Nat := x.flatMap h
theorem HmW_nil : HmW h [] = [] := rfl
theorem HmW_cons (c : Nat) (x : List Nat) : HmW h (c :: x) = h c ++ HmW h x := by simp [HmW]
theorem HmW_app (x y : List Nat) : HmW h (x ++ y) = HmW h x ++ HmW h y := by simp [HmW]
theorem HmW_mem {x : List Nat} {c : Nat} (hc : c ∈ x) : (h c).length ≤ (HmW h x).length := by
  obtain ⟨s, t, rfl⟩ := List.append_of_mem hc
  rw [HmW_app, HmW_cons]; simp; omega
/-- Where an image is cut. -/
theorem cut_at : ∀ (M U V : List Nat), HmW h M = U ++ V → U ≠ [] → ∃ A c B p s, M = A ++ c :: B ∧ h c = p ++ s ∧ p ≠ [] ∧ U = HmW h A ++ p ∧ V = s ++ HmW h B
  | [], U, V, e, hU => by
    rw [HmW_nil] at e
    exact absurd (List.append_eq_nil_iff.1 e.symm).1 hU
  | c :: M, U, V, e, hU => by
    rw [HmW_cons] at e
    rcases List.append_eq_append_iff.1 e with ⟨a', e1, e2⟩ | ⟨c', e1, e2⟩
    · by_cases ha : a' = []
      · subst ha
        rw [List.append_nil] at e1
        rw [List.nil_append] at e2
        exact ⟨[], c, M, h c, [], rfl, by simp, e1 ▸ hU, by rw [HmW_nil, e1]; rfl, e2.symm⟩
      · obtain ⟨A, d, B, p, s, h1, h2, h3, h4, h5⟩ := cut_at M a' V e2 ha
        exact ⟨c :: A, d, B, p, s, by rw [h1]; rfl, h2, h3, by rw [e1, h4, HmW_cons, List.append_assoc], h5⟩
    · exact ⟨[], c, M, U, c', rfl, e1, hU, by rw [HmW_nil]; rfl, e2⟩
/-- The images of the free words of fewer than n letters are free. -/
structure KpH (h : Nat → List Nat) (n : Nat) : Prop where
  ne : ∀ c, c < 3 → h c ≠ []
  ok : ∀ x, (∀ b ∈ x, b < 3) → SqF x → x.length < n → SqF (HmW h x)
variable {n : Nat}
theorem KpH.pre (k : KpH h n) (hn : 4 ≤ n) {x y : Nat} {v : List Nat} (hx : x < 3) (hy : y < 3) (e : h x = h y ++ v) : x = y := by
  by_cases hxy : x = y
  · exact hxy
  · refine absurd ?_ (k.ok [y, x] (by simp; omega) (sqf_two (fun e => hxy e.symm)) (by simp; omega) [] (h y) v (k.ne y hy))
    rw [HmW_cons, HmW_cons, HmW_nil, e]; simp
theorem KpH.suf (k : KpH h n) (hn : 4 ≤ n) {x y : Nat} {v : List Nat} (hx : x < 3) (hy : y < 3) (e : h x = v ++ h y) : x = y := by
  by_cases hxy : x = y
  · exact hxy
  · refine absurd ?_ (k.ok [x, y] (by simp; omega) (sqf_two hxy) (by simp; omega) v (h y) [] (k.ne y hy))
    rw [HmW_cons, HmW_cons, HmW_nil, e]; simp
/-- Both begin at the same place: they are the same. -/
theorem KpH.sync (k : KpH h n) (hn : 4 ≤ n) : ∀ (A B p p' g g' : List Nat) (c c' : Nat), c < 3 → c' < 3 → h c = p ++ g → h c' = p' ++ g' → p ≠ [] → p' ≠ [] → (∀ b ∈ A, b < 3) → (∀ b ∈ B, b < 3) → HmW h A ++ p = HmW h B ++ p' → A = B ∧ p = p'
  | [], [], p, p', _, _, _, _, _, _, _, _, _, _, _, _, e => ⟨rfl, e⟩
  | [], y :: B, p, p', g, g', c, c', hc, hc', h1, h2, hp, hp', _, hB, e => by
    exfalso
    rw [HmW_cons, HmW_nil, List.nil_append] at e
    have e2 : h c = h y ++ (HmW h B ++ (p' ++ g)) := by rw [h1, e]; simp
    obtain rfl := k.pre hn hc (hB y (by simp)) e2
    have := congrArg List.length e2
    cases p' with
    | nil => exact hp' rfl
    | cons a p' => simp at this
  | x :: A, [], p, p', g, g', c, c', hc, hc', h1, h2, hp, hp', hA, _, e => by
    exfalso
    rw [HmW_cons, HmW_nil, List.nil_append] at e
    have e2 : h c' = h x ++ (HmW h A ++ (p ++ g')) := by rw [h2, ← e]; simp
    obtain rfl := k.pre hn hc' (hA x (by simp)) e2
    have := congrArg List.length e2
    cases p with
    | nil => exact hp rfl
    | cons a p => simp at this
  | x :: A, y :: B, p, p', g, g', c, c', hc, hc', h1, h2, hp, hp', hA, hB, e => by
    rw [HmW_cons, HmW_cons, List.append_assoc, List.append_assoc] at e
    have hx := hA x (by simp)
    have hy := hB y (by simp)
    have hxy : x = y := by
      rcases List.append_eq_append_iff.1 e with ⟨a', e1, -⟩ | ⟨c', e1, -⟩
      · exact (k.pre hn hy hx e1).symm
      · exact k.pre hn hx hy e1
    subst hxy
    obtain ⟨r1, r2⟩ := k.sync hn A B p p' g g' c c' hc hc' h1 h2 hp hp' (fun b hb => hA b (by simp [hb])) (fun b hb => hB b (by simp [hb])) (List.append_cancel_left e)
    exact ⟨by rw [r1], r2⟩
/-- No image lies across two others. -/
theorem KpH.across (k : KpH h n) (hn : 4 ≤ n) {x a c : Nat} {V g d b r : List Nat} (hx : x < 3) (ha : a < 3) (hc : c < 3) (hV : ∀ b ∈ V, b < 3) (hw : SqF (a :: (V ++ [c]))) (hl : V.length + 2 ≤ n)
    (h1 : h a = g ++ d) (hd : d ≠ []) (h2 : h c = b ++ r) (hb : b ≠ []) (h3 : h x = d ++ (HmW h V ++ b)) : False := by
  have e1 : x = a := by
    by_cases e : x = a
    · exact e
    · refine absurd ?_ (k.ok [a, x] (by simp; omega) (sqf_two (fun e2 => e e2.symm)) (by simp; omega) g d (HmW h V ++ b) hd)
      rw [HmW_cons, HmW_cons, HmW_nil, h1, h3]; simp
  have e2 : x = c := by
    by_cases e : x = c
    · exact e
    · refine absurd ?_ (k.ok [x, c] (by simp; omega) (sqf_two e) (by simp; omega) (d ++ HmW h V) b r hb)
      rw [HmW_cons, HmW_cons, HmW_nil, h2, h3]; simp
  subst e1
  subst e2
  have hV1 : SqF (x :: V) := hw.part (p := []) (q := [x]) (by simp)
  have hV2 : SqF (V ++ [x]) := hw.part (p := [x]) (q := []) (by simp)
  have o1 := k.ok (x :: V) (by intro b hb; rcases List.mem_cons.1 hb with rfl | hb; exact hx; exact hV b hb) hV1 (by simp; omega)
  have o2 := k.ok (V ++ [x]) (by intro b hb; rcases List.mem_append.1 hb with hb | hb; exact hV b hb; simp at hb; omega) hV2 (by simp; omega)
  -- both d and b are ends of the image
  have s1 : g ++ d = (d ++ HmW h V) ++ b := by rw [← h1, h3]; simp
  have s2 : b ++ r = d ++ (HmW h V ++ b) := by rw [← h2, h3]
  rcases List.append_eq_append_iff.1 s1 with ⟨a', e3, e4⟩ | ⟨c', e3, e4⟩
  · -- d ends with b: d = a' ++ b
    refine o1 a' (b ++ HmW h V) [] (by simp [hb]) ?_
    rw [HmW_cons, h3]
    conv => lhs; rw [e4]
    simp
  · -- b ends with d; so d is not longer, and b begins with d
    rcases List.append_eq_append_iff.1 s2 with ⟨a'', e5, e6⟩ | ⟨c'', e5, e6⟩
    · have hlen1 := congrArg List.length e4
      have hlen2 := congrArg List.length e5
      simp at hlen1 hlen2
      obtain rfl : c' = [] := List.eq_nil_of_length_eq_zero (by omega)
      rw [List.nil_append] at e4
      refine o1 [] (b ++ HmW h V) [] (by simp [hb]) ?_
      rw [HmW_cons, h3, ← e4]
      simp
    · refine o2 [] (HmW h V ++ d) c'' (by simp [hd]) ?_
      rw [HmW_app, HmW_cons, HmW_nil, h3]
      conv => lhs; rw [e5]
      simp
/-- Not at the same place: one half has all its letters before the other's. -/
theorem KpH.cross (k : KpH h n) (hn : 4 ≤ n) {a c : Nat} {B p' q' : List Nat} (ha : a < 3) (hc : c < 3) (hB : ∀ b ∈ B, b < 3) (hw : SqF (a :: (B ++ [c]))) (hl : B.length + 2 ≤ n) (h2 : h c = p' ++ q') :
    ∀ (A p d g : List Nat), (∀ b ∈ A, b < 3) → h a = g ++ d → g ≠ [] → d ≠ [] → HmW h A ++ p = d ++ (HmW h B ++ p') → ∃ d', d' ≠ [] ∧ d = HmW h A ++ d' ∧ p = d' ++ (HmW h B ++ p')
  | [], p, d, g, _, _, _, hd, e => ⟨d, hd, by rw [HmW_nil]; rfl, by rw [HmW_nil] at e; exact e⟩
  | x :: A, p, d, g, hA, h1, hg, hd, e => by
    have hx := hA x (by simp)
    rw [HmW_cons, List.append_assoc] at e
    have inside : ∀ ee : List Nat, h x = d ++ ee → ee ++ (HmW h A ++ p) = HmW h B ++ p' → False := fun ee e1 e2 => by
      by_cases he : ee = []
      · subst he
        rw [List.append_nil] at e1
        have e3 : h a = g ++ h x := by rw [h1, e1]
        obtain rfl := k.suf hn ha hx e3
        have := congrArg List.length e3
        rw [List.length_append] at this
        exact hg (List.eq_nil_of_length_eq_zero (by omega))
      · have e3 : HmW h (B ++ [c]) = ee ++ ((HmW h A ++ p) ++ q') := by
          rw [HmW_app, HmW_cons, HmW_nil, h2, List.append_nil, ← List.append_assoc, ← e2]; simp
        obtain ⟨V, y, B2, bb, r, m1, m2, m3, m4, -⟩ := cut_at (B ++ [c]) ee _ e3 he
        have hm : ∀ b ∈ V ++ y :: B2, b < 3 := fun b hb => by
          rw [← m1] at hb
          rcases List.mem_append.1 hb with hb | hb
          · exact hB b hb
          · simp at hb; omega
        have hln := congrArg List.length m1
        simp at hln
        exact k.across (V := V) (c := y) hn hx ha (hm y (by simp)) (fun b hb => hm b (by simp [hb])) (hw.part (p := []) (q := B2) (by rw [m1]; simp)) (by omega) h1 hd m2 m3 (by rw [e1, m4])
    rcases List.append_eq_append_iff.1 e with ⟨a', e1, e2⟩ | ⟨c', e1, e2⟩
    · by_cases ha' : a' = []
      · subst ha'
        rw [List.append_nil] at e1
        rw [List.nil_append] at e2
        exact (inside [] (by rw [e1, List.append_nil]) (by rw [List.nil_append]; exact e2)).elim
      · obtain ⟨d', r1, r2, r3⟩ := k.cross hn ha hc hB hw hl h2 A p a' (g ++ h x) (fun b hb => hA b (by simp [hb])) (by rw [h1, e1, List.append_assoc]) (by simp [hg]) ha' e2
        exact ⟨d', r1, by rw [e1, r2, HmW_cons, List.append_assoc], r3⟩
    · exact (inside c' e1 e2.symm).elim
theorem lenP {x : List Nat} (h : x ≠ []) : 1 ≤ x.length := by
  cases x with
  | nil => exact absurd rfl h
  | cons a x => simp
/-- One letter more. -/
theorem KpH.step (k : KpH h n) (hn : 6 ≤ n) {x : List Nat} (h3 : ∀ b ∈ x, b < 3) (hf : SqF x) (hx : x.length = n) : SqF (HmW h x) := by
  intro P u Q hu e
  have hu1 := lenP hu
  -- the first and the last letter
  obtain ⟨a, M, z, rfl⟩ : ∃ a M z, x = a :: (M ++ [z]) := by
    match x, hx with
    | [], hx => exact absurd hx (by simp; omega)
    | [_], hx => exact absurd hx (by simp; omega)
    | a :: b :: t, _ => exact ⟨a, (b :: t).dropLast, (b :: t).getLast (by simp), by rw [List.dropLast_concat_getLast]⟩
  have hM : M.length + 2 = n := by simp at hx; omega
  have ha := h3 a (by simp)
  have hz := h3 z (by simp)
  have hMl : ∀ b ∈ M, b < 3 := fun b hb => h3 b (by simp [hb])
  have f1 : SqF (M ++ [z]) := hf.part (p := [a]) (q := []) (by simp)
  have f2 : SqF (a :: M) := hf.part (p := []) (q := [z]) (by simp)
  have fM : SqF M := hf.part (p := [a]) (q := [z]) (by simp)
  have o1 := k.ok (M ++ [z]) (fun b hb => h3 b (by simp at hb ⊢; exact .inr hb)) f1 (by simp; omega)
  have o2 := k.ok (a :: M) (fun b hb => h3 b (by rcases List.mem_cons.1 hb with rfl | hb; simp; simp [hb])) f2 (by simp; omega)
  have short : ∀ (X : List Nat) (c : Nat), c < 3 → (∀ b ∈ X, b < 3) → SqF X → (∀ b ∈ X, (h b).length < (h c).length) → X.length ≤ 3 := fun X c hc hX fX hh => two_short fX hX (fun b hb e => by have := hh b hb; rw [e] at this; omega) hc
  -- the square begins in the first letter's image
  rw [HmW_cons] at e
  obtain ⟨s, hs, es, e1⟩ : ∃ s, s ≠ [] ∧ h a = P ++ s ∧ s ++ HmW h (M ++ [z]) = u ++ (u ++ Q) := by
    rcases List.append_eq_append_iff.1 e with ⟨a', e1, e2⟩ | ⟨c', e1, e2⟩
    · exact absurd e2 (o1 a' u Q hu)
    · by_cases hc : c' = []
      · subst hc
        rw [List.nil_append] at e2
        exact absurd (by rw [← e2]; rfl) (o1 [] u Q hu)
      · exact ⟨c', hc, e1, e2.symm⟩
  -- and ends in the last letter's
  rw [HmW_app, HmW_cons, HmW_nil, List.append_nil] at e1
  have e2 : (s ++ HmW h M) ++ h z = (u ++ u) ++ Q := by simpa using e1
  obtain ⟨t, ht, et, e3⟩ : ∃ t, t ≠ [] ∧ h z = t ++ Q ∧ (s ++ HmW h M) ++ t = u ++ u := by
    rcases List.append_eq_append_iff.1 e2 with ⟨a', e4, e5⟩ | ⟨c', e4, e5⟩
    · by_cases hc : a' = []
      · subst hc
        rw [List.append_nil] at e4
        refine absurd ?_ (o2 P u [] hu)
        rw [HmW_cons, es, List.append_assoc, ← e4]; simp
      · exact ⟨a', hc, e5, e4.symm⟩
    · refine absurd ?_ (o2 P u c' hu)
      rw [HmW_cons, es, List.append_assoc, e4]; simp
  clear e e1 e2 o1 o2 f1 f2
  have ls := lenP hs
  have lt := lenP ht
  have la := congrArg List.length es
  have lz := congrArg List.length et
  have l3 := congrArg List.length e3
  simp only [List.length_append] at la lz l3
  -- where the middle is
  rw [List.append_assoc] at e3
  by_cases c1 : u.length ≤ s.length
  · have := short M a ha hMl fM (fun b hb => by have := HmW_mem (h := h) hb; omega)
    omega
  by_cases c2 : s.length + (HmW h M).length ≤ u.length
  · have := short M z hz hMl fM (fun b hb => by have := HmW_mem (h := h) hb; omega)
    omega
  obtain ⟨U, hU, eU, eV⟩ : ∃ U, U ≠ [] ∧ u = s ++ U ∧ HmW h M ++ t = U ++ u := by
    rcases List.append_eq_append_iff.1 e3 with ⟨a', e4, e5⟩ | ⟨c', e4, e5⟩
    · exact ⟨a', fun e6 => by subst e6; have := congrArg List.length e4; simp at this; omega, e4, e5⟩
    · have := congrArg List.length e4; simp at this; omega
  obtain ⟨V, eV1, eV2⟩ : ∃ V, HmW h M = U ++ V ∧ u = V ++ t := by
    rcases List.append_eq_append_iff.1 eV with ⟨a', e4, e5⟩ | ⟨c', e4, e5⟩
    · have h1 := congrArg List.length e4
      have h2 := congrArg List.length eU
      simp at h1 h2
      obtain rfl : a' = [] := List.eq_nil_of_length_eq_zero (by omega)
      exact ⟨[], by rw [e4, List.append_nil, List.append_nil], by rw [List.nil_append] at e5 ⊢; exact e5.symm⟩
    · exact ⟨c', e4, e5⟩
  obtain ⟨A, j, B, p, s2, m1, m2, m3, m4, m5⟩ := cut_at M U V eV1 hU
  subst m1
  have hj := hMl j (by simp)
  have hA : ∀ b ∈ A, b < 3 := fun b hb => hMl b (by simp [hb])
  have hB : ∀ b ∈ B, b < 3 := fun b hb => hMl b (by simp [hb])
  have fA : SqF A := fM.part (p := []) (q := j :: B) (by simp)
  have fB : SqF B := fM.part (p := A ++ [j]) (q := []) (by simp)
  have lM : A.length + B.length + 3 = n := by simp at hM; omega
  have lj := congrArg List.length m2
  have lp := lenP m3
  simp only [List.length_append] at lj
  -- both halves
  have E : s ++ (HmW h A ++ p) = s2 ++ (HmW h B ++ t) := by
    rw [← m4, ← eU, eV2, m5, List.append_assoc]
  -- the halves begin at the same place
  have same : A = B → p = t → s = s2 → False := fun q1 q2 q3 => by
    subst q1 q2 q3
    by_cases d1 : a = j
    · subst d1
      exact hf [] (a :: A) [z] (by simp) (by simp)
    by_cases d2 : j = z
    · subst d2
      exact hf [a] (A ++ [j]) [] (by simp) (by simp)
    refine k.ok [a, j, z] (by simp; omega) (sqf_three d1 d2) (by simp; omega) P (s ++ p) Q (by simp [hs]) ?_
    rw [HmW_cons, HmW_cons, HmW_cons, HmW_nil, es, m2, et]; simp
  by_cases c3 : s.length = s2.length
  · obtain ⟨q1, q2⟩ := List.append_inj E c3
    obtain ⟨q3, q4⟩ := k.sync (by omega) A B p t s2 Q j z hj hz m2 et m3 ht hA hB q2
    exact same q3 q4 q1
  rcases List.append_eq_append_iff.1 E with ⟨d, e4, e5⟩ | ⟨d, e4, e5⟩
  · -- the second half's first boundary is later
    have hd : d ≠ [] := fun h => c3 (by rw [e4, h]; simp)
    obtain ⟨d', r1, r2, r3⟩ := k.cross (by omega) hj hz hB (hf.part (p := a :: A) (q := []) (by simp)) (by omega) et A p d (p ++ s) hA (by rw [m2, e4, List.append_assoc]) (by simp [hs]) hd e5
    have l1 := lenP r1
    have l2 := congrArg List.length e4
    have l4 := congrArg List.length r2
    have l5 := congrArg List.length r3
    simp only [List.length_append] at l2 l4 l5
    have nA : A = [] := by
      rcases List.eq_nil_or_concat A with h0 | ⟨A', x, h0⟩
      · exact h0
      · exfalso
        rw [List.concat_eq_append] at h0
        have hx := hA x (by rw [h0]; simp)
        have hm := HmW_mem (h := h) (c := x) (x := A) (by rw [h0]; simp)
        have hxj : x ≠ j := fun e => by rw [e] at hm; omega
        have g1 : h j = (p ++ (s ++ HmW h A')) ++ (h x ++ d') := by rw [m2, e4, r2, h0, HmW_app, HmW_cons, HmW_nil]; simp
        have g2 : h j = d' ++ ((HmW h B ++ t) ++ s2) := by rw [m2, r3]; simp
        refine k.ok [j, x, j] (by simp; omega) (sqf_three (fun e => hxj e.symm) hxj) (by simp; omega) (p ++ (s ++ HmW h A')) (h x ++ d') ((HmW h B ++ t) ++ s2) (by simp [r1]) ?_
        rw [HmW_cons, HmW_cons, HmW_cons, HmW_nil, List.append_nil]
        conv => lhs; rhs; rhs; rw [g2]
        conv => lhs; lhs; rw [g1]
        simp
    have nB : B = [] := by
      rcases hB0 : B with _ | ⟨y, B'⟩
      · rfl
      · exfalso
        have hy := hB y (by rw [hB0]; simp)
        have hm := HmW_mem (h := h) (c := y) (x := B) (by rw [hB0]; simp)
        have hyj : y ≠ j := fun e => by rw [e] at hm; omega
        have g1 : h j = (p ++ (s ++ HmW h A)) ++ d' := by rw [m2, e4, r2]; simp
        have g2 : h j = (d' ++ h y) ++ ((HmW h B' ++ t) ++ s2) := by rw [m2, r3, hB0, HmW_cons]; simp
        refine k.ok [j, y, j] (by simp; omega) (sqf_three (fun e => hyj e.symm) hyj) (by simp; omega) (p ++ (s ++ HmW h A)) (d' ++ h y) ((HmW h B' ++ t) ++ s2) (by simp [r1]) ?_
        rw [HmW_cons, HmW_cons, HmW_cons, HmW_nil, List.append_nil]
        conv => lhs; rhs; rhs; rw [g2]
        conv => lhs; lhs; rw [g1]
        simp
    rw [nA, nB] at lM
    simp at lM
    omega
  · have hd : d ≠ [] := fun h => c3 (by rw [e4, h]; simp)
    by_cases hg : P ++ s2 = []
    · -- the square begins with the word, and its middle is a boundary
      obtain ⟨g1, g2⟩ := List.append_eq_nil_iff.1 hg
      subst g1 g2
      rw [List.nil_append] at es E
      have E2 : HmW h (a :: A) ++ p = HmW h B ++ t := by rw [HmW_cons, es, List.append_assoc]; exact E
      rw [List.append_nil] at m2
      obtain ⟨q3, q4⟩ := k.sync (by omega) (a :: A) B p t [] Q j z hj hz (by rw [m2, List.append_nil]) et m3 ht (by intro b hb; rcases List.mem_cons.1 hb with rfl | hb; exact ha; exact hA b hb) hB E2
      have q5 : z = j := k.pre (by omega) hz hj (by rw [et, ← q4, m2])
      subst q3 q5
      exact hf [] (a :: (A ++ [z])) [] (by simp) (by simp)
    · obtain ⟨d', r1, r2, r3⟩ := k.cross (by omega) ha hj hA (hf.part (p := []) (q := B ++ [z]) (by simp)) (by omega) m2 B t d (P ++ s2) hB (by rw [es, e4, List.append_assoc]) hg hd e5
      have l1 := lenP r1
      have l2 := congrArg List.length e4
      have l4 := congrArg List.length r2
      have l5 := congrArg List.length r3
      simp only [List.length_append] at l2 l4 l5
      have e1 : a = z := by
        by_cases e : a = z
        · exact e
        · refine absurd ?_ (k.ok [a, z] (by simp; omega) (sqf_two e) (by simp; omega) (P ++ (s2 ++ HmW h B)) d' ((HmW h A ++ p) ++ Q) r1)
          rw [HmW_cons, HmW_cons, HmW_nil, es, et, e4, r2, r3]; simp
      subst e1
      have g0 : h a = d' ++ ((HmW h A ++ p) ++ Q) := by rw [et, r3]; simp
      have nB : B = [] := by
        rcases List.eq_nil_or_concat B with h0 | ⟨B', y, h0⟩
        · exact h0
        · exfalso
          rw [List.concat_eq_append] at h0
          have hy := hB y (by rw [h0]; simp)
          have hm := HmW_mem (h := h) (c := y) (x := B) (by rw [h0]; simp)
          have hyj : y ≠ a := fun e => by rw [e] at hm; omega
          have g1 : h a = (P ++ (s2 ++ HmW h B')) ++ (h y ++ d') := by rw [es, e4, r2, h0, HmW_app, HmW_cons, HmW_nil]; simp
          refine k.ok [a, y, a] (by simp; omega) (sqf_three (fun e => hyj e.symm) hyj) (by simp; omega) (P ++ (s2 ++ HmW h B')) (h y ++ d') ((HmW h A ++ p) ++ Q) (by simp [r1]) ?_
          rw [HmW_cons, HmW_cons, HmW_cons, HmW_nil, List.append_nil]
          conv => lhs; rhs; rhs; rw [g0]
          conv => lhs; lhs; rw [g1]
          simp
      have nA : A = [] := by
        rcases hA0 : A with _ | ⟨x, A'⟩
        · rfl
        · exfalso
          have hx := hA x (by rw [hA0]; simp)
          have hm := HmW_mem (h := h) (c := x) (x := A) (by rw [hA0]; simp)
          have hxj : x ≠ a := fun e => by rw [e] at hm; omega
          have g1 : h a = (P ++ (s2 ++ HmW h B)) ++ d' := by rw [es, e4, r2]; simp
          have g2 : h a = (d' ++ h x) ++ ((HmW h A' ++ p) ++ Q) := by rw [g0, hA0, HmW_cons]; simp
          refine k.ok [a, x, a] (by simp; omega) (sqf_three (fun e => hxj e.symm) hxj) (by simp; omega) (P ++ (s2 ++ HmW h B)) (d' ++ h x) ((HmW h A' ++ p) ++ Q) (by simp [r1]) ?_
          rw [HmW_cons, HmW_cons, HmW_cons, HmW_nil, List.append_nil]
          conv => lhs; rhs; rhs; rw [g2]
          conv => lhs; lhs; rw [g1]
          simp
      rw [nA, nB] at lM
      simp at lM
      omega
/-- A map that keeps the free words of at most five letters keeps all free words. -/
theorem keep_all (h0 : ∀ c, c < 3 → h c ≠ []) (h1 : ∀ x, (∀ b ∈ x, b < 3) → SqF x → x.length ≤ 5 → SqF (HmW h x)) : ∀ x, (∀ b ∈ x, b < 3) → SqF x → SqF (HmW h x) := by
  have key : ∀ m, KpH h (6 + m) := fun m => by
    induction m with
    | zero => exact ⟨h0, fun x h2 h3 h4 => h1 x h2 h3 (by omega)⟩
    | succ m ih =>
      refine ⟨h0, fun x h2 h3 h4 => ?_⟩
      by_cases hx : x.length < 6 + m
      · exact ih.ok x h2 h3 hx
      · exact ih.step (by omega) h2 h3 (by omega)
  exact fun x h2 h3 => (key (x.length)).ok x h2 h3 (by omega)
end
end Go.Proofs.Ytoklnpiehbnalaa
