/- Searches over sets of states: mathematics. -/
import Derived.Test.YtignbpipdfjkeaaDoorRows
namespace Go.Proofs.YtignbpipdfjkeaaDoor
set_option maxHeartbeats 1000000
set_option maxRecDepth 100000
/-! Sets of states as numbers below 512, their images, words as lists of buttons. -/
abbrev Tab := List (List Nat)
def ld (L : Tab) (b q : Nat) : Nat := (L.getD b []).getD q 0
def bitsS (s : Nat) : List Nat := (List.range 9).filter (fun q => s.testBit q)
def szS (s : Nat) : Nat := (bitsS s).length
def orL (L : Tab) (b : Nat) (a : Nat) (l : List Nat) : Nat := l.foldl (fun a q => a ||| 2 ^ ld L b q) a
def prs (L : Tab) (s b : Nat) : Nat := orL L b 0 (bitsS s)
/-- A table of k buttons and n states. -/
structure IsM (L : Tab) (k n : Nat) : Prop where
  len : L.length = k
  k1 : 1 ≤ k
  k4 : k ≤ 4
  n1 : 1 ≤ n
  n9 : n ≤ 9
  row : ∀ b, b < k → (L.getD b []).length = n
  lt : ∀ b q, b < k → q < n → ld L b q < n
/-- A set of the states below n. -/
def IsS (n s : Nat) : Prop := s < 2 ^ n
theorem mem_bits {s q : Nat} : q ∈ bitsS s ↔ q < 9 ∧ s.testBit q = true := by simp [bitsS]
theorem bits_bound {n s q : Nat} (hs : s < 2 ^ n) (h : q ∈ bitsS s) : q < n := by
  have := (mem_bits.1 h).2
  rcases Nat.lt_or_ge q n with h1 | h1
  · exact h1
  · have h2 : s < 2 ^ q := Nat.lt_of_lt_of_le hs (Nat.pow_le_pow_right (by decide) h1)
    rw [Nat.testBit_lt_two_pow h2] at this; cases this
theorem or_bit (L : Tab) (b : Nat) (l : List Nat) (j : Nat) : ∀ a, (orL L b a l).testBit j = (a.testBit j || l.any (fun q => ld L b q == j)) := by
  induction l with
  | nil => intro a; simp [orL]
  | cons q l ih =>
    intro a
    have e : orL L b a (q :: l) = orL L b (a ||| 2 ^ ld L b q) l := rfl
    rw [e, ih, Nat.testBit_or, Nat.testBit_two_pow, List.any_cons, Bool.or_assoc]
    rfl
theorem prs_bit (L : Tab) (s b j : Nat) : (prs L s b).testBit j = (bitsS s).any (fun q => ld L b q == j) := by
  unfold prs; rw [or_bit]; simp
theorem lt_pow_of_bits {n s : Nat} (h : ∀ j, n ≤ j → s.testBit j = false) : s < 2 ^ n := Nat.lt_pow_two_of_testBit s h
theorem prs_set {L : Tab} {k n s b : Nat} (h : IsM L k n) (hs : IsS n s) (hb : b < k) : IsS n (prs L s b) := by
  refine lt_pow_of_bits (fun j hj => ?_)
  rw [prs_bit, Bool.eq_false_iff]
  intro h1
  obtain ⟨q, hq, e⟩ := List.any_eq_true.1 h1
  have h2 := h.lt b q hb (bits_bound hs hq)
  have := beq_iff_eq.1 e; omega
theorem nonzero_bit {s : Nat} (h : s ≠ 0) : ∃ q, s.testBit q = true := by
  apply Classical.byContradiction
  intro hn
  apply h
  apply Nat.eq_of_testBit_eq
  intro i
  rw [Nat.zero_testBit, Bool.eq_false_iff]
  intro h1; exact hn ⟨i, h1⟩
theorem bits_ne {n s : Nat} (hn : n ≤ 9) (hs : IsS n s) (h : s ≠ 0) : bitsS s ≠ [] := by
  obtain ⟨q, hq⟩ := nonzero_bit h
  have : q < 9 := by
    rcases Nat.lt_or_ge q 9 with h1 | h1
    · exact h1
    · rw [Nat.testBit_lt_two_pow (Nat.lt_of_lt_of_le hs (Nat.pow_le_pow_right (by decide) (by omega)))] at hq; cases hq
  exact List.ne_nil_of_mem (mem_bits.2 ⟨this, hq⟩)
theorem prs_ne {L : Tab} {n s b : Nat} (hn : n ≤ 9) (hs : IsS n s) (h0 : s ≠ 0) : prs L s b ≠ 0 := by
  intro h
  rcases e : bitsS s with _ | ⟨q, l⟩
  · exact bits_ne hn hs h0 e
  · have := prs_bit L s b (ld L b q)
    rw [h, e] at this; simp at this
/-- The image under a word. -/
def img (L : Tab) (s : Nat) (w : List Nat) : Nat := w.foldl (fun a b => prs L a b) s
def okW (k : Nat) (w : List Nat) : Prop := ∀ b, b ∈ w → b < k
theorem img_snoc (L : Tab) (s : Nat) (w : List Nat) (b : Nat) : img L s (w ++ [b]) = prs L (img L s w) b := by simp [img]
theorem img_app (L : Tab) (s : Nat) (v w : List Nat) : img L s (v ++ w) = img L (img L s v) w := by simp [img]
theorem img_set {L : Tab} {k n s : Nat} (h : IsM L k n) (hs : IsS n s) : ∀ {w : List Nat}, okW k w → IsS n (img L s w) := by
  intro w
  induction w generalizing s with
  | nil => intro _; exact hs
  | cons b w ih => intro hw; exact ih (prs_set h hs (hw b (by simp))) (fun c hc => hw c (by simp [hc]))
theorem img_ne {L : Tab} {k n s : Nat} (h : IsM L k n) (hs : IsS n s) (h0 : s ≠ 0) : ∀ {w : List Nat}, okW k w → img L s w ≠ 0 := by
  intro w
  induction w generalizing s with
  | nil => intro _; exact h0
  | cons b w ih => intro hw; exact ih (prs_set h hs (hw b (by simp))) (prs_ne h.n9 hs h0) (fun c hc => hw c (by simp [hc]))
theorem okW_snoc {k b : Nat} {w : List Nat} : okW k (w ++ [b]) ↔ okW k w ∧ b < k := by
  unfold okW
  constructor
  · intro h; exact ⟨fun c hc => h c (by simp [hc]), h b (by simp)⟩
  · rintro ⟨h1, h2⟩ c hc
    rcases List.mem_append.1 hc with h3 | h3
    · exact h1 c h3
    · simp at h3; omega
/-- The place of a word in the order of words (of at most four buttons). -/
def vw (w : List Nat) : Nat := w.foldl (fun a b => 4 * a + b + 1) 0
theorem vw_snoc (w : List Nat) (b : Nat) : vw (w ++ [b]) = 4 * vw w + b + 1 := by simp [vw]
theorem vw_inj : ∀ (n : Nat) (v w : List Nat), v.length = n → okW 4 v → okW 4 w → vw v = vw w → v = w := by
  intro n
  induction n with
  | zero =>
    intro v w hv _ _ e
    obtain rfl := List.length_eq_zero_iff.1 hv
    rcases List.eq_nil_or_concat w with rfl | ⟨w, b, rfl⟩
    · rfl
    · rw [List.concat_eq_append, vw_snoc] at e; simp [vw] at e
  | succ n ih =>
    intro v w hv h1 h2 e
    rcases List.eq_nil_or_concat v with rfl | ⟨v, c, rfl⟩
    · cases hv
    · rcases List.eq_nil_or_concat w with rfl | ⟨w, b, rfl⟩
      · rw [List.concat_eq_append, vw_snoc] at e; simp [vw] at e
      · rw [List.concat_eq_append] at *
        rw [List.concat_eq_append] at *
        rw [vw_snoc, vw_snoc] at e
        obtain ⟨h3, h4⟩ := okW_snoc.1 h1
        obtain ⟨h5, h6⟩ := okW_snoc.1 h2
        have : vw v = vw w ∧ c = b := by omega
        rw [ih v w (by simpa using hv) h3 h5 this.1, this.2]
/-! The sets that a search meets, with the words that lead to them. -/
abbrev Met := List (Nat × List Nat)
def hasS (R : Met) (t : Nat) : Bool := R.any (fun e => e.1 == t)
def elS (R : Met) (i : Nat) : Nat × List Nat := R.getD i (0, [])
def addS (L : Tab) (R : Met) (i b : Nat) : Met :=
  if hasS R (prs L (elS R i).1 b) then R else R ++ [(prs L (elS R i).1 b, (elS R i).2 ++ [b])]
/-- c buttons more, from the button b on. -/
def rowS (L : Tab) (i : Nat) : Nat → Nat → Met → Met
  | 0, _, R => R
  | c + 1, b, R => rowS L i c (b + 1) (addS L R i b)
def bfs (L : Tab) (k : Nat) : Nat → Nat → Met → Met
  | 0, _, R => R
  | f + 1, i, R => if i < R.length then bfs L k f (i + 1) (rowS L i k 0 R) else R
def reach (L : Tab) (k s : Nat) : Met := bfs L k 512 0 [(s, [])]
theorem addS_pre (L : Tab) (R : Met) (i b : Nat) : ∃ T, addS L R i b = R ++ T := by
  unfold addS; split
  · exact ⟨[], by simp⟩
  · exact ⟨_, rfl⟩
theorem rowS_pre (L : Tab) (i : Nat) : ∀ (c b : Nat) (R : Met), ∃ T, rowS L i c b R = R ++ T
  | 0, _, R => ⟨[], by simp [rowS]⟩
  | c + 1, b, R => by
    obtain ⟨T, hT⟩ := addS_pre L R i b
    obtain ⟨U, hU⟩ := rowS_pre L i c (b + 1) (addS L R i b)
    exact ⟨T ++ U, by rw [rowS, hU, hT, List.append_assoc]⟩
theorem bfs_pre (L : Tab) (k : Nat) : ∀ (f i : Nat) (R : Met), ∃ T, bfs L k f i R = R ++ T
  | 0, _, R => ⟨[], by simp [bfs]⟩
  | f + 1, i, R => by
    unfold bfs; split
    · obtain ⟨T, hT⟩ := rowS_pre L i k 0 R
      obtain ⟨U, hU⟩ := bfs_pre L k f (i + 1) (rowS L i k 0 R)
      exact ⟨T ++ U, by rw [hU, hT, List.append_assoc]⟩
    · exact ⟨[], by simp⟩
theorem elS_app {R T : Met} {i : Nat} (h : i < R.length) : elS (R ++ T) i = elS R i := by
  unfold elS; rw [List.getD_eq_getElem?_getD, List.getD_eq_getElem?_getD, List.getElem?_append_left h]
theorem elS_mem {R : Met} {i : Nat} (h : i < R.length) : elS R i ∈ R := by
  unfold elS; rw [List.getD_eq_getElem?_getD, List.getElem?_eq_getElem h]; exact List.getElem_mem h
theorem hasS_iff {R : Met} {t : Nat} : hasS R t = true ↔ ∃ w, (t, w) ∈ R := by
  unfold hasS
  rw [List.any_eq_true]
  constructor
  · rintro ⟨⟨a, w⟩, h, e⟩; obtain rfl : a = t := by simpa using e
    exact ⟨w, h⟩
  · rintro ⟨w, h⟩; exact ⟨_, h, by simp⟩
/-- What holds of the sets that are met when the button b is tried at the place i. -/
structure Srch (L : Tab) (k n s : Nat) (R : Met) (i b : Nat) : Prop where
  head : ∃ T, R = (s, []) :: T
  im : ∀ t w, (t, w) ∈ R → okW k w ∧ img L s w = t
  up : R.Pairwise (fun x y => vw x.2 < vw y.2)
  nd : R.Pairwise (fun x y => x.1 ≠ y.1)
  below : ∀ t w, (t, w) ∈ R → i < R.length → vw w < 4 * vw (elS R i).2 + b + 1
  shut : ∀ j c, j < R.length → c < k → (j < i ∨ j = i ∧ c < b) → ∃ t w, (t, w) ∈ R ∧ t = prs L (elS R j).1 c ∧ vw w ≤ 4 * vw (elS R j).2 + c + 1
theorem srch_start {L : Tab} {k n s : Nat} : Srch L k n s [(s, [])] 0 0 where
  head := ⟨[], rfl⟩
  im := by intro t w h; simp at h; obtain ⟨rfl, rfl⟩ := h; exact ⟨by intro b hb; simp at hb, rfl⟩
  up := by simp
  nd := by simp
  below := by intro t w h _; simp at h; obtain ⟨rfl, rfl⟩ := h; simp [vw]
  shut := by intro j c _ _ h; omega
theorem srch_button {L : Tab} {k n s : Nat} {R : Met} {i b : Nat} (h : Srch L k n s R i b) (hi : i < R.length) (hb : b < k) : Srch L k n s (addS L R i b) i (b + 1) := by
  have hel : okW k (elS R i).2 ∧ img L s (elS R i).2 = (elS R i).1 := h.im _ _ (elS_mem hi)
  unfold addS
  split
  · rename_i hh
    obtain ⟨w, hw⟩ := hasS_iff.1 hh
    refine ⟨h.head, h.im, h.up, h.nd, fun t w ht hi => ?_, fun j c hj hc hjc => ?_⟩
    · have := h.below t w ht hi; omega
    · by_cases e : j = i ∧ c = b
      · obtain ⟨rfl, rfl⟩ := e
        have := h.below _ _ hw hi
        exact ⟨_, w, hw, rfl, by omega⟩
      · exact h.shut j c hj hc (by omega)
  · rename_i hh
    have hno : ∀ w, (prs L (elS R i).1 b, w) ∉ R := fun w hw => hh (hasS_iff.2 ⟨w, hw⟩)
    obtain ⟨T, hT⟩ := h.head
    refine ⟨⟨T ++ _, by rw [hT]; rfl⟩, fun t w ht => ?_, ?_, ?_, fun t w ht _ => ?_, fun j c hj hc hjc => ?_⟩
    · rcases List.mem_append.1 ht with h1 | h1
      · exact h.im t w h1
      · simp at h1; obtain ⟨rfl, rfl⟩ := h1
        exact ⟨okW_snoc.2 ⟨hel.1, hb⟩, by rw [img_snoc, hel.2]⟩
    · rw [List.pairwise_append]
      refine ⟨h.up, by simp, fun x hx y hy => ?_⟩
      simp at hy; subst hy
      have := h.below x.1 x.2 hx hi
      rw [vw_snoc]; exact this
    · rw [List.pairwise_append]
      refine ⟨h.nd, by simp, fun x hx y hy => ?_⟩
      simp at hy; subst hy
      intro e
      have e2 : x.1 = prs L (elS R i).1 b := e
      exact hno x.2 (by rw [← e2]; exact hx)
    · rw [elS_app hi]
      rcases List.mem_append.1 ht with h1 | h1
      · have := h.below t w h1 hi; omega
      · simp at h1; obtain ⟨rfl, rfl⟩ := h1
        rw [vw_snoc]; omega
    · simp only [List.length_append, List.length_cons, List.length_nil] at hj
      by_cases hjR : j < R.length
      · rw [elS_app hjR]
        by_cases e : j = i ∧ c = b
        · obtain ⟨rfl, rfl⟩ := e
          exact ⟨_, (elS R j).2 ++ [c], by simp, rfl, by rw [vw_snoc]; omega⟩
        · obtain ⟨t, w, h1, h2, h3⟩ := h.shut j c hjR hc (by omega)
          exact ⟨t, w, by simp [h1], h2, h3⟩
      · omega
theorem pair_at {R : Met} {p : Nat × List Nat → Nat × List Nat → Prop} (h : R.Pairwise p) {i j : Nat} (hij : i < j) (hj : j < R.length) : p (elS R i) (elS R j) := by
  have := List.pairwise_iff_getElem.1 h i j (by omega) hj hij
  unfold elS
  rw [List.getD_eq_getElem?_getD, List.getD_eq_getElem?_getD, List.getElem?_eq_getElem hj, List.getElem?_eq_getElem (show i < R.length by omega)]
  exact this
theorem srch_next {L : Tab} {k n s : Nat} {R : Met} {i : Nat} (hk : k ≤ 4) (h : Srch L k n s R i k) (hi : i < R.length) : Srch L k n s R (i + 1) 0 := by
  refine ⟨h.head, h.im, h.up, h.nd, fun t w ht hi2 => ?_, fun j c hj hc hjc => h.shut j c hj hc (by omega)⟩
  have h1 := h.below t w ht hi
  have h2 := pair_at h.up (show i < i + 1 by omega) hi2
  try dsimp only at h2
  omega
theorem srch_row {L : Tab} {k n s : Nat} {i : Nat} : ∀ (c b : Nat) {R : Met}, Srch L k n s R i b → i < R.length → b + c = k → Srch L k n s (rowS L i c b R) i k
  | 0, b, R, h, _, e => by obtain rfl : b = k := by omega
                           exact h
  | c + 1, b, R, h, hi, e => by
    have h1 := srch_button h hi (by omega)
    obtain ⟨T, hT⟩ := addS_pre L R i b
    exact srch_row c (b + 1) h1 (by rw [hT]; simp; omega) (by omega)
theorem nodup_len : ∀ (m : Nat) (l : List Nat), (∀ x, x ∈ l → x < m) → l.Pairwise (· ≠ ·) → l.length ≤ m
  | 0, l, h, _ => by
    cases l with
    | nil => exact Nat.le_refl _
    | cons a l => exact absurd (h a (by simp)) (by omega)
  | m + 1, l, h, hn => by
    have h1 : (l.filter (fun x => decide (x ≠ m))).length ≤ m := nodup_len m _ (fun x hx => by
      have := List.mem_filter.1 hx
      have h2 := h x this.1
      have h3 : x ≠ m := by simpa using this.2
      omega) (hn.filter _)
    have h2 : l.length ≤ (l.filter (fun x => decide (x ≠ m))).length + 1 := by
      clear h h1
      induction l with
      | nil => simp
      | cons a l ih =>
        obtain ⟨ha, hl⟩ := List.pairwise_cons.1 hn
        by_cases e : a = m
        · have : l.filter (fun x => decide (x ≠ m)) = l := by
            rw [List.filter_eq_self]; intro x hx; have := ha x hx; simp; omega
          rw [List.filter_cons_of_neg (by simp [e]), this]; simp
        · rw [List.filter_cons_of_pos (by simp [e])]
          have := ih hl; simp at this ⊢; omega
    omega
theorem srch_len {L : Tab} {k n s : Nat} {R : Met} {i b : Nat} (hM : IsM L k n) (hs : IsS n s) (h : Srch L k n s R i b) : R.length ≤ 512 := by
  have h1 := nodup_len 512 (R.map (·.1)) (fun x hx => by
    obtain ⟨e, he, rfl⟩ := List.mem_map.1 hx
    obtain ⟨h1, h2⟩ := h.im e.1 e.2 he
    have h3 := img_set hM hs h1
    rw [h2] at h3
    exact Nat.lt_of_lt_of_le h3 (Nat.pow_le_pow_right (show 0 < 2 by decide) hM.n9)) (by rw [List.pairwise_map]; exact h.nd)
  simpa using h1
theorem srch_bfs {L : Tab} {k n s : Nat} (hM : IsM L k n) (hs : IsS n s) : ∀ (f i : Nat) {R : Met}, Srch L k n s R i 0 → i + f = 512 → ∃ i', Srch L k n s (bfs L k f i R) i' 0 ∧ (bfs L k f i R).length ≤ i'
  | 0, i, R, h, e => ⟨i, h, by have := srch_len hM hs h; unfold bfs; omega⟩
  | f + 1, i, R, h, e => by
    unfold bfs
    split
    · rename_i hi
      obtain ⟨T, hT⟩ := rowS_pre L i k 0 R
      exact srch_bfs hM hs f (i + 1) (srch_next hM.k4 (srch_row k 0 h hi (by omega)) (by rw [hT]; simp; omega)) (by omega)
    · exact ⟨i, h, by omega⟩
/-- What the sets that are met are: all images, with the first words. -/
structure Met1 (L : Tab) (k n s : Nat) (R : Met) : Prop where
  head : ∃ T, R = (s, []) :: T
  im : ∀ t w, (t, w) ∈ R → okW k w ∧ img L s w = t
  up : R.Pairwise (fun x y => vw x.2 < vw y.2)
  nd : R.Pairwise (fun x y => x.1 ≠ y.1)
  all : ∀ v, okW k v → ∃ w, (img L s v, w) ∈ R ∧ vw w ≤ vw v
theorem reach_met {L : Tab} {k n s : Nat} (hM : IsM L k n) (hs : IsS n s) : Met1 L k n s (reach L k s) := by
  obtain ⟨i, h, hi⟩ := srch_bfs hM hs 512 0 (srch_start (L := L) (k := k) (n := n) (s := s)) rfl
  refine ⟨h.head, h.im, h.up, h.nd, fun v hv => ?_⟩
  obtain ⟨m, hm⟩ : ∃ m, v.length = m := ⟨_, rfl⟩
  induction m generalizing v with
  | zero =>
    obtain rfl := List.length_eq_zero_iff.1 hm
    obtain ⟨T, hT⟩ := h.head
    exact ⟨[], by unfold reach; rw [hT]; simp [img], by simp⟩
  | succ m ih =>
    rcases List.eq_nil_or_concat v with rfl | ⟨v, c, rfl⟩
    · cases hm
    · rw [List.concat_eq_append] at *
      obtain ⟨h3, h4⟩ := okW_snoc.1 hv
      obtain ⟨w, hw, hle⟩ := ih v h3 (by simpa using hm)
      obtain ⟨j, hj, e⟩ := List.getElem_of_mem hw
      have ej : elS (reach L k s) j = (img L s v, w) := by
        unfold elS; rw [List.getD_eq_getElem?_getD, List.getElem?_eq_getElem hj, e]; rfl
      obtain ⟨t, u, h5, h6, h7⟩ := h.shut j c hj h4 (.inl (Nat.lt_of_lt_of_le hj hi))
      change (t, u) ∈ reach L k s at h5
      change t = prs L (elS (reach L k s) j).1 c at h6
      change vw u ≤ 4 * vw (elS (reach L k s) j).2 + c + 1 at h7
      rw [ej] at h6 h7
      refine ⟨u, by rw [img_snoc, ← h6]; exact h5, ?_⟩
      rw [vw_snoc]
      try dsimp only at h7
      omega
/-- The first set that is a goal, with its word. -/
def seek (L : Tab) (k s : Nat) (g : Nat → Bool) : Option (Nat × List Nat) := (reach L k s).find? (fun e => g e.1)
theorem find_first {R : Met} {g : Nat → Bool} {e : Nat × List Nat} (hu : R.Pairwise (fun x y => vw x.2 < vw y.2)) (h : R.find? (fun e => g e.1) = some e) :
    e ∈ R ∧ g e.1 = true ∧ ∀ x, x ∈ R → g x.1 = true → vw e.2 ≤ vw x.2 := by
  induction R with
  | nil => cases h
  | cons a R ih =>
    obtain ⟨ha, hR⟩ := List.pairwise_cons.1 hu
    rw [List.find?_cons] at h
    by_cases hg : g a.1 = true
    · rw [hg] at h; obtain rfl : a = e := by simpa using h
      refine ⟨by simp, hg, fun x hx _ => ?_⟩
      rcases List.mem_cons.1 hx with rfl | hx
      · exact Nat.le_refl _
      · exact Nat.le_of_lt (ha x hx)
    · have hg2 : g a.1 = false := Bool.eq_false_iff.2 hg
      rw [hg2] at h
      obtain ⟨h1, h2, h3⟩ := ih hR h
      refine ⟨by simp [h1], h2, fun x hx hgx => ?_⟩
      rcases List.mem_cons.1 hx with rfl | hx
      · exact absurd hgx hg
      · exact h3 x hx hgx
theorem seek_some {L : Tab} {k n s : Nat} (hM : IsM L k n) (hs : IsS n s) {g : Nat → Bool} {t : Nat} {w : List Nat} (h : seek L k s g = some (t, w)) :
    okW k w ∧ img L s w = t ∧ g t = true ∧ ∀ v, okW k v → g (img L s v) = true → vw w ≤ vw v := by
  have hm := reach_met hM hs
  obtain ⟨h1, h2, h3⟩ := find_first hm.up h
  obtain ⟨h4, h5⟩ := hm.im t w h1
  refine ⟨h4, h5, h2, fun v hv hg => ?_⟩
  obtain ⟨u, hu, hle⟩ := hm.all v hv
  have := h3 _ hu hg
  exact Nat.le_trans this hle
theorem seek_none {L : Tab} {k n s : Nat} (hM : IsM L k n) (hs : IsS n s) {g : Nat → Bool} : seek L k s g = none ↔ ∀ v, okW k v → g (img L s v) = false := by
  have hm := reach_met hM hs
  unfold seek
  rw [List.find?_eq_none]
  constructor
  · intro h v hv
    obtain ⟨u, hu, _⟩ := hm.all v hv
    have := h _ hu
    exact Bool.eq_false_iff.2 this
  · rintro h ⟨t, w⟩ he
    obtain ⟨h4, h5⟩ := hm.im t w he
    have := h w h4
    rw [h5] at this
    simp [this]
/-- The first word is determined by what it does. -/
theorem seek_eq {L : Tab} {k n s : Nat} (hM : IsM L k n) (hs : IsS n s) {g : Nat → Bool} {w : List Nat} (hw : okW k w) (hg : g (img L s w) = true) (hmin : ∀ v, okW k v → g (img L s v) = true → vw w ≤ vw v) :
    seek L k s g = some (img L s w, w) := by
  rcases e : seek L k s g with _ | ⟨t, u⟩
  · have := (seek_none hM hs).1 e w hw; rw [hg] at this; cases this
  · obtain ⟨h1, h2, h3, h4⟩ := seek_some hM hs e
    have h5 : vw u = vw w := Nat.le_antisymm (h4 w hw hg) (hmin u h1 (by rw [h2]; exact h3))
    have h6 : ∀ {v}, okW k v → okW 4 v := fun hv b hb => Nat.lt_of_lt_of_le (hv b hb) hM.k4
    obtain rfl := vw_inj _ u w rfl (h6 h1) (h6 hw) h5
    rw [← h2]
end Go.Proofs.YtignbpipdfjkeaaDoor
