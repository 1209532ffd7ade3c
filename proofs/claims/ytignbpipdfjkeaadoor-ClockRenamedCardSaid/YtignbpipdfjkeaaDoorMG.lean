/- Runs of single states; a machine resets exactly if all pairs merge. -/
import Derived.Test.YtignbpipdfjkeaaDoorME
import Derived.Test.YtignbpipdfjkeaaDoorAQ
namespace Go.Proofs.YtignbpipdfjkeaaDoor
set_option maxHeartbeats 1000000
set_option maxRecDepth 100000
theorem nd_sub : ∀ {l m : List Nat}, l.Pairwise (· ≠ ·) → (∀ x, x ∈ l → x ∈ m) → l.length ≤ m.length
  | [], _, _, _ => Nat.zero_le _
  | a :: l, m, h, s => by
    obtain ⟨h1, h2⟩ := List.pairwise_cons.1 h
    have ha : a ∈ m := s a List.mem_cons_self
    have := nd_sub (m := m.erase a) h2 (fun x hx => (List.mem_erase_of_ne (fun e => h1 x hx e.symm)).2 (s x (List.mem_cons_of_mem _ hx)))
    rw [List.length_erase_of_mem ha] at this
    have := List.length_pos_of_mem ha
    simp only [List.length_cons]
    omega
theorem bits_nd (s : Nat) : (bitsS s).Pairwise (· ≠ ·) := by
  unfold bitsS
  exact (List.nodup_range (n := 9)).filter _
/-- The state to which a word leads from a state. -/
def runS (T : Tab) (q : Nat) (x : List Nat) : Nat := x.foldl (fun a b => ld T b a) q
theorem runS_app (T : Tab) (q : Nat) (x y : List Nat) : runS T q (x ++ y) = runS T (runS T q x) y := by simp [runS]
variable {T : Tab} {k n : Nat}
theorem prs_mem {s b j : Nat} : (prs T s b).testBit j = true ↔ ∃ q, q ∈ bitsS s ∧ ld T b q = j := by
  rw [prs_bit, List.any_eq_true]
  constructor
  · rintro ⟨q, hq, e⟩; exact ⟨q, hq, beq_iff_eq.1 e⟩
  · rintro ⟨q, hq, e⟩; exact ⟨q, hq, beq_iff_eq.2 e⟩
theorem bit_lt9 {s j : Nat} (hn : n ≤ 9) (hs : IsS n s) (h : s.testBit j = true) : j < 9 := by
  rcases Nat.lt_or_ge j 9 with h1 | h1
  · exact h1
  · have h2 : s < 2 ^ j := Nat.lt_of_lt_of_le hs (Nat.pow_le_pow_right (by decide) (by omega))
    rw [Nat.testBit_lt_two_pow h2] at h
    cases h
theorem img_mem (hM : IsM T k n) : ∀ (x : List Nat) {s j : Nat}, IsS n s → okW k x → (j ∈ bitsS (img T s x) ↔ ∃ q, q ∈ bitsS s ∧ runS T q x = j)
  | [], s, j, _, _ => ⟨fun h => ⟨j, h, rfl⟩, fun ⟨q, h, e⟩ => by cases e; exact h⟩
  | b :: x, s, j, hs, hx => by
    have hb : b < k := hx b List.mem_cons_self
    have hp := prs_set hM hs hb
    have ih := img_mem hM x (s := prs T s b) (j := j) hp (fun c hc => hx c (List.mem_cons_of_mem _ hc))
    show j ∈ bitsS (img T (prs T s b) x) ↔ _
    rw [ih]
    constructor
    · rintro ⟨q, hq, e⟩
      obtain ⟨p, h1, h2⟩ := prs_mem.1 (mem_bits.1 hq).2
      exact ⟨p, h1, by show runS T (ld T b p) x = j; rw [h2]; exact e⟩
    · rintro ⟨p, hp1, e⟩
      have h1 : (prs T s b).testBit (ld T b p) = true := prs_mem.2 ⟨p, hp1, rfl⟩
      exact ⟨ld T b p, mem_bits.2 ⟨bit_lt9 hM.n9 hp h1, h1⟩, e⟩
/-- No image has more states than the set; fewer if two states merge. -/
theorem img_sz (hM : IsM T k n) {s : Nat} {x : List Nat} (hs : IsS n s) (hx : okW k x) : szS (img T s x) ≤ szS s := by
  have := nd_sub (l := bitsS (img T s x)) (m := (bitsS s).map fun q => runS T q x) (bits_nd _) (fun j hj => by
    obtain ⟨q, h1, h2⟩ := (img_mem hM x hs hx).1 hj
    exact List.mem_map.2 ⟨q, h1, h2⟩)
  rw [List.length_map] at this
  exact this
theorem img_less (hM : IsM T k n) {s p q : Nat} {x : List Nat} (hs : IsS n s) (hx : okW k x) (hp : p ∈ bitsS s) (hq : q ∈ bitsS s) (hpq : p ≠ q) (he : runS T p x = runS T q x) : szS (img T s x) < szS s := by
  have h1 := nd_sub (l := bitsS (img T s x)) (m := ((bitsS s).erase p).map fun q => runS T q x) (bits_nd _) (fun j hj => by
    obtain ⟨r, h1, h2⟩ := (img_mem hM x hs hx).1 hj
    by_cases e : r = p
    · subst e
      exact List.mem_map.2 ⟨q, (List.mem_erase_of_ne (fun e => hpq e.symm)).2 hq, by rw [← he]; exact h2⟩
    · exact List.mem_map.2 ⟨r, (List.mem_erase_of_ne e).2 h1, h2⟩)
  rw [List.length_map, List.length_erase_of_mem hp] at h1
  have := List.length_pos_of_mem hp
  unfold szS
  omega
theorem sz_one {t p q : Nat} (h : szS t ≤ 1) (hp : p ∈ bitsS t) (hq : q ∈ bitsS t) : p = q := by
  unfold szS at h
  rcases e : bitsS t with _ | ⟨a, _ | ⟨b, l⟩⟩
  · rw [e] at hp; cases hp
  · rw [e] at hp hq
    rw [List.mem_singleton] at hp hq
    rw [hp, hq]
  · rw [e] at h; simp at h
theorem one_sz {t : Nat} (h : ∀ p q, p ∈ bitsS t → q ∈ bitsS t → p = q) : szS t ≤ 1 := by
  unfold szS
  have hn := bits_nd t
  rcases e : bitsS t with _ | ⟨a, _ | ⟨b, l⟩⟩
  · simp
  · simp
  · rw [e] at hn h
    exact absurd (h a b List.mem_cons_self (List.mem_cons_of_mem _ List.mem_cons_self)) ((List.pairwise_cons.1 hn).1 b List.mem_cons_self)
theorem sg_bits {p q j : Nat} (hp : p < 9) (hq : q < 9) : j ∈ bitsS (sg p q) ↔ j = p ∨ j = q := by
  rw [mem_bits]
  unfold sg sWith
  rw [Nat.zero_or, Nat.testBit_or, Nat.testBit_two_pow, Nat.testBit_two_pow]
  simp only [Bool.or_eq_true, decide_eq_true_eq]
  omega
theorem sg_comm (p q : Nat) : sg p q = sg q p := by unfold sg sWith; rw [Nat.zero_or, Nat.zero_or, Nat.or_comm]
/-- Two states merge by a word. -/
theorem merge_iff (hM : IsM T k n) {p q : Nat} {x : List Nat} (hp : p < n) (hq : q < n) (hx : okW k x) : szS (img T (sg p q) x) ≤ 1 ↔ runS T p x = runS T q x := by
  have hn := hM.n9
  obtain ⟨s1, -, -⟩ := sg_set hn hp hq
  constructor
  · intro h
    exact sz_one h ((img_mem hM x s1 hx).2 ⟨p, (sg_bits (by omega) (by omega)).2 (.inl rfl), rfl⟩) ((img_mem hM x s1 hx).2 ⟨q, (sg_bits (by omega) (by omega)).2 (.inr rfl), rfl⟩)
  · intro h
    refine one_sz (fun a b ha hb => ?_)
    obtain ⟨c, hc, e1⟩ := (img_mem hM x s1 hx).1 ha
    obtain ⟨d, hd, e2⟩ := (img_mem hM x s1 hx).1 hb
    rcases (sg_bits (by omega) (by omega)).1 hc with rfl | rfl <;> rcases (sg_bits (by omega) (by omega)).1 hd with rfl | rfl <;> rw [← e1, ← e2] <;> first | rfl | exact h | exact h.symm
/-- If all pairs merge, every set shrinks to one state. -/
theorem reset_of (hM : IsM T k n) (h : ∀ p q, p < n → q < n → ∃ x, okW k x ∧ runS T p x = runS T q x) : ∀ (m s : Nat), szS s ≤ m → IsS n s → ∃ x, okW k x ∧ szS (img T s x) ≤ 1
  | 0, s, hm, _ => ⟨[], fun _ hb => absurd hb (List.not_mem_nil), by show szS s ≤ 1; omega⟩
  | m + 1, s, hm, hs => by
    by_cases h1 : szS s ≤ 1
    · exact ⟨[], fun _ hb => absurd hb (List.not_mem_nil), h1⟩
    · have : ¬ ∀ p q, p ∈ bitsS s → q ∈ bitsS s → p = q := fun e => h1 (one_sz e)
      simp only [Classical.not_forall] at this
      obtain ⟨p, q, hp, hq, hpq⟩ := this
      obtain ⟨x, hx, e⟩ := h p q (bits_bound hs hp) (bits_bound hs hq)
      have hl := img_less hM hs hx hp hq hpq e
      obtain ⟨y, hy, hz⟩ := reset_of hM h m (img T s x) (by omega) (img_set hM hs hx)
      exact ⟨x ++ y, fun b hb => by
        rcases List.mem_append.1 hb with h | h
        · exact hx b h
        · exact hy b h, by rw [img_app]; exact hz⟩
theorem all_bits {q : Nat} (hn : n ≤ 9) (h : q < n) : q ∈ bitsS (2 ^ n - 1) := by
  rw [mem_bits, Nat.testBit_two_pow_sub_one]
  exact ⟨by omega, decide_eq_true h⟩
/-- A machine resets exactly if all pairs merge. -/
theorem reset_iff (hM : IsM T k n) : (∃ x, okW k x ∧ szS (img T (2 ^ n - 1) x) ≤ 1) ↔ ∀ p q, p < n → q < n → ∃ x, okW k x ∧ szS (img T (sg p q) x) ≤ 1 := by
  have hs : IsS n (2 ^ n - 1) := by have := Nat.two_pow_pos n; unfold IsS; omega
  constructor
  · rintro ⟨x, hx, h⟩ p q hp hq
    refine ⟨x, hx, (merge_iff hM hp hq hx).2 ?_⟩
    exact sz_one h ((img_mem hM x hs hx).2 ⟨p, all_bits hM.n9 hp, rfl⟩) ((img_mem hM x hs hx).2 ⟨q, all_bits hM.n9 hq, rfl⟩)
  · intro h
    exact reset_of hM (fun p q hp hq => by
      obtain ⟨x, hx, e⟩ := h p q hp hq
      exact ⟨x, hx, (merge_iff hM hp hq hx).1 e⟩) _ _ (Nat.le_refl _) hs
/-- In the words of the search. -/
theorem seek_iff (hM : IsM T k n) {s : Nat} (hs : IsS n s) : (seek T k s (few 1)).isSome = true ↔ ∃ x, okW k x ∧ szS (img T s x) ≤ 1 := by
  constructor
  · intro h
    refine Classical.byContradiction (fun hc => ?_)
    have : seek T k s (few 1) = none := (seek_none hM hs).2 (fun v hv => by
      unfold few
      exact decide_eq_false (fun h => hc ⟨v, hv, h⟩))
    rw [this] at h
    cases h
  · rintro ⟨x, hx, h⟩
    cases e : seek T k s (few 1) with
    | some _ => rfl
    | none =>
      have := (seek_none hM hs).1 e x hx
      unfold few at this
      exact absurd h (of_decide_eq_false this)
theorem reset_pairs (hM : IsM T k n) : (seek T k (2 ^ n - 1) (few 1)).isSome = true ↔ ∀ p q, p < n → q < n → szS (shE T k (sg p q)).1 = 1 := by
  have hs : IsS n (2 ^ n - 1) := by have := Nat.two_pow_pos n; unfold IsS; omega
  rw [seek_iff hM hs, reset_iff hM]
  have e : ∀ p q, p < n → q < n → ((∃ x, okW k x ∧ szS (img T (sg p q) x) ≤ 1) ↔ szS (shE T k (sg p q)).1 = 1) := fun p q hp hq => by
    obtain ⟨s1, s2, -⟩ := sg_set hM.n9 hp hq
    rw [← seek_iff hM s1, seek_one hM s1 s2]
    split <;> simp [*]
  constructor
  · intro h p q hp hq; exact (e p q hp hq).1 (h p q hp hq)
  · intro h p q hp hq; exact (e p q hp hq).2 (h p q hp hq)
end Go.Proofs.YtignbpipdfjkeaaDoor
