/- Words as lists: parts, squares, searches. -/
import Derived.PlainAid
namespace Go.Proofs.Ytoklnpiehbnalaa
set_option maxHeartbeats 1000000
set_option maxRecDepth 100000
/-- A part of a word: so many letters from a position on. -/
def sub (x : List Nat) (a n : Nat) : List Nat := (x.drop a).take n
theorem sub_len (x : List Nat) (a n : Nat) : (sub x a n).length = min n (x.length - a) := by simp [sub]
theorem sub_get {x : List Nat} {a n i : Nat} (hi : i < n) : (sub x a n)[i]? = x[a + i]? := by
  unfold sub; rw [List.getElem?_take, if_pos hi, List.getElem?_drop]
theorem sub_eq_iff {x y : List Nat} {a b n : Nat} (_ha : a + n ≤ x.length) (_hb : b + n ≤ y.length) : sub x a n = sub y b n ↔ ∀ i, i < n → x[a + i]? = y[b + i]? := by
  constructor
  · intro h i hi
    rw [← sub_get (x := x) hi, ← sub_get (x := y) hi, h]
  · intro h
    apply List.ext_getElem?
    intro i
    rcases Nat.lt_or_ge i n with h1 | h1
    · rw [sub_get h1, sub_get h1]; exact h i h1
    · rw [List.getElem?_eq_none (by rw [sub_len]; omega), List.getElem?_eq_none (by rw [sub_len]; omega)]
theorem sub_sub (x : List Nat) {a n b m : Nat} (h : b + m ≤ n) : sub (sub x a n) b m = sub x (a + b) m := by
  unfold sub
  rw [List.drop_take, List.take_take, List.drop_drop, Nat.min_eq_left (by omega)]
theorem sub_take (x : List Nat) {a n k : Nat} (h : a + n ≤ k) : sub (x.take k) a n = sub x a n := by
  have := sub_sub x (a := 0) (n := k) (b := a) (m := n) h
  rw [Nat.zero_add] at this
  rw [← this]
  unfold sub
  simp
theorem sub_all (x : List Nat) : sub x 0 x.length = x := by simp [sub]
/-- The first pair of places at which something holds, by rows. -/
def srch (n : Nat) (m : Nat → Nat) (P : Nat → Nat → Bool) : Option (Nat × Nat) :=
  (List.range n).findSome? fun a => ((List.range (m a)).find? (P a)).map fun i => (a, i)
theorem find_range {n i : Nat} {P : Nat → Bool} (hi : i < n) (h : P i = true) (hb : ∀ j, j < i → P j = false) : (List.range n).find? P = some i := by
  have e : n = i + 1 + (n - i - 1) := by omega
  rw [e, List.range_add, List.range_succ, List.append_assoc, List.find?_append]
  have h1 : (List.range i).find? P = none := by
    rw [List.find?_eq_none]; intro j hj; rw [hb j (List.mem_range.1 hj)]; exact Bool.false_ne_true
  rw [h1]
  simp [h]
theorem find_range_none {n : Nat} {P : Nat → Bool} (h : ∀ j, j < n → P j = false) : (List.range n).find? P = none := by
  rw [List.find?_eq_none]; intro j hj; rw [h j (List.mem_range.1 hj)]; exact Bool.false_ne_true
theorem srch_hit {n a i : Nat} {m : Nat → Nat} {P : Nat → Nat → Bool} (ha : a < n) (hi : i < m a) (h : P a i = true)
    (h1 : ∀ b j, b < a → j < m b → P b j = false) (h2 : ∀ j, j < i → P a j = false) : srch n m P = some (a, i) := by
  unfold srch
  have e : n = a + 1 + (n - a - 1) := by omega
  rw [e, List.range_add, List.range_succ, List.append_assoc, List.findSome?_append]
  have h3 : (List.range a).findSome? (fun a => ((List.range (m a)).find? (P a)).map fun i => (a, i)) = none := by
    rw [List.findSome?_eq_none_iff]
    intro b hb
    rw [find_range_none (fun j hj => h1 b j (List.mem_range.1 hb) hj)]; rfl
  rw [h3]
  simp [find_range hi h h2]
theorem srch_no {n : Nat} {m : Nat → Nat} {P : Nat → Nat → Bool} (h : ∀ b j, b < n → j < m b → P b j = false) : srch n m P = none := by
  unfold srch
  rw [List.findSome?_eq_none_iff]
  intro b hb
  rw [find_range_none (fun j hj => h b j (List.mem_range.1 hb) hj)]; rfl
theorem srch_some {n a i : Nat} {m : Nat → Nat} {P : Nat → Nat → Bool} (h : srch n m P = some (a, i)) :
    a < n ∧ i < m a ∧ P a i = true ∧ (∀ b j, b < a → j < m b → P b j = false) ∧ ∀ j, j < i → P a j = false := by
  -- the least pair
  by_cases hex : ∃ b j, b < n ∧ j < m b ∧ P b j = true
  · have hrow : ∃ b, b < n ∧ ∃ j, j < m b ∧ P b j = true := by obtain ⟨b, j, h1, h2, h3⟩ := hex; exact ⟨b, h1, j, h2, h3⟩
    have least : ∀ (Q : Nat → Prop), (∃ b, Q b) → ∃ b, Q b ∧ ∀ c, c < b → ¬ Q c := fun Q hQ => by
      obtain ⟨b, hb⟩ := hQ
      induction b using Nat.strongRecOn with
      | ind b ih =>
        by_cases hc : ∃ c, c < b ∧ Q c
        · obtain ⟨c, h1, h2⟩ := hc; exact ih c h1 h2
        · exact ⟨b, hb, fun c h1 h2 => hc ⟨c, h1, h2⟩⟩
    obtain ⟨b, ⟨hb, hj⟩, hbm⟩ := least _ hrow
    obtain ⟨j, ⟨hj1, hj2⟩, hjm⟩ := least _ hj
    have h1 : ∀ c k, c < b → k < m c → P c k = false := fun c k hc hk => by
      cases hp : P c k
      · rfl
      · exact absurd ⟨by omega, k, hk, hp⟩ (hbm c hc)
    have h2 : ∀ k, k < j → P b k = false := fun k hk => by
      cases hp : P b k
      · rfl
      · exact absurd ⟨by omega, hp⟩ (hjm k hk)
    rw [srch_hit hb hj1 hj2 h1 h2] at h
    injection h with h
    injection h with e1 e2
    subst e1 e2
    exact ⟨hb, hj1, hj2, h1, h2⟩
  · rw [srch_no (fun b j hb hj => by
      cases hp : P b j
      · rfl
      · exact absurd ⟨b, j, hb, hj, hp⟩ hex)] at h
    cases h
theorem srch_none {n : Nat} {m : Nat → Nat} {P : Nat → Nat → Bool} (h : srch n m P = none) : ∀ b j, b < n → j < m b → P b j = false := fun b j hb hj => by
  cases hp : P b j
  · rfl
  · exfalso
    have hex : ∃ a i, srch n m P = some (a, i) := by
      unfold srch
      cases hh : (List.range n).findSome? (fun a => ((List.range (m a)).find? (P a)).map fun i => (a, i)) with
      | some x => exact ⟨x.1, x.2, rfl⟩
      | none =>
        rw [List.findSome?_eq_none_iff] at hh
        have h1 := hh b (List.mem_range.2 hb)
        rw [Option.map_eq_none_iff, List.find?_eq_none] at h1
        exact absurd hp (h1 j (List.mem_range.2 hj))
    obtain ⟨a, i, e⟩ := hex
    rw [h] at e; cases e
theorem srch_none_iff {n : Nat} {m : Nat → Nat} {P : Nat → Nat → Bool} : srch n m P = none ↔ ∀ b j, b < n → j < m b → P b j = false := ⟨srch_none, srch_no⟩
/-- How many halves a square that begins here may have. -/
def hlf (x : List Nat) (a : Nat) : Nat := (x.length - a) / 2
def sqP (x : List Nat) (a i : Nat) : Bool := decide (sub x a (i + 1) = sub x (a + (i + 1)) (i + 1))
/-- The first square: its position, and its period less one. -/
def sqS (x : List Nat) : Option (Nat × Nat) := srch x.length (hlf x) (sqP x)
/-- How often a letter occurs. -/
def cntL (x : List Nat) : List Nat := [x.count 0, x.count 1, x.count 2, x.count 3]
def abP (x : List Nat) (a i : Nat) : Bool := decide (cntL (sub x a (i + 1)) = cntL (sub x (a + (i + 1)) (i + 1)))
def abS (x : List Nat) : Option (Nat × Nat) := srch x.length (hlf x) (abP x)
/-- A square is the end of the word. -/
def endP (x : List Nat) (i : Nat) : Bool := decide (sub x (x.length - 2 * (i + 1)) (i + 1) = sub x (x.length - (i + 1)) (i + 1))
def endS (x : List Nat) : Bool := (List.range (x.length / 2)).any (endP x)
/-- The word has no square. -/
def free (x : List Nat) : Bool := (sqS x).isNone
theorem free_iff (x : List Nat) : free x = true ↔ ∀ a p, 1 ≤ p → a + 2 * p ≤ x.length → sub x a p ≠ sub x (a + p) p := by
  unfold free sqS
  rw [Option.isNone_iff_eq_none, srch_none_iff]
  unfold hlf
  constructor
  · intro h a p hp hl e
    have := h a (p - 1) (by omega) (by omega)
    unfold sqP at this
    rw [show p - 1 + 1 = p by omega] at this
    exact absurd e (of_decide_eq_false this)
  · intro h b j hb hj
    unfold sqP
    exact decide_eq_false (h b (j + 1) (by omega) (by omega))
theorem endS_iff (x : List Nat) : endS x = true ↔ ∃ p, 1 ≤ p ∧ 2 * p ≤ x.length ∧ sub x (x.length - 2 * p) p = sub x (x.length - p) p := by
  unfold endS
  rw [List.any_eq_true]
  constructor
  · rintro ⟨i, hi, h⟩
    have := List.mem_range.1 hi
    exact ⟨i + 1, by omega, by omega, of_decide_eq_true h⟩
  · rintro ⟨p, h1, h2, h⟩
    refine ⟨p - 1, List.mem_range.2 (by omega), ?_⟩
    unfold endP
    rw [show p - 1 + 1 = p by omega]
    exact decide_eq_true h
/-- A word is free if no beginning of it ends with a square. -/
theorem free_ends (x : List Nat) : free x = true ↔ ∀ k, k ≤ x.length → endS (x.take k) = false := by
  rw [free_iff]
  constructor
  · intro h k hk
    rw [Bool.eq_false_iff]
    intro he
    obtain ⟨p, h1, h2, h3⟩ := (endS_iff _).1 he
    rw [List.length_take, Nat.min_eq_left hk] at h2 h3
    rw [sub_take x (by omega), sub_take x (by omega)] at h3
    have := h (k - 2 * p) p h1 (by omega)
    rw [show k - 2 * p + p = k - p by omega] at this
    exact this h3
  · intro h a p hp hl e
    have h1 := h (a + 2 * p) hl
    rw [Bool.eq_false_iff] at h1
    apply h1
    rw [endS_iff]
    refine ⟨p, hp, by rw [List.length_take]; omega, ?_⟩
    rw [List.length_take, Nat.min_eq_left hl, sub_take x (by omega), sub_take x (by omega)]
    rw [show a + 2 * p - 2 * p = a by omega, show a + 2 * p - p = a + p by omega]
    exact e
theorem free_nil : free [] = true := rfl
theorem free_snoc (x : List Nat) (c : Nat) : free (x ++ [c]) = (free x && !endS (x ++ [c])) := by
  rw [Bool.eq_iff_iff, Bool.and_eq_true, Bool.not_eq_true', free_ends, free_ends]
  constructor
  · intro h
    refine ⟨fun k hk => ?_, ?_⟩
    · have := h k (by simp; omega)
      rwa [List.take_append_of_le_length hk] at this
    · have := h (x.length + 1) (by simp)
      rwa [List.take_of_length_le (by simp)] at this
  · rintro ⟨h1, h2⟩ k hk
    rw [List.length_append, List.length_singleton] at hk
    rcases Nat.lt_or_ge x.length k with hl | hl
    · rw [List.take_of_length_le (by simp; omega)]; exact h2
    · rw [List.take_append_of_le_length hl]; exact h1 k hl
/-- Parts of free words are free. -/
theorem free_sub {x : List Nat} (h : free x = true) (a n : Nat) : free (sub x a n) = true := by
  rw [free_iff] at h ⊢
  intro b p hp hl e
  rw [sub_len] at hl
  rw [sub_sub x (by omega), sub_sub x (by omega)] at e
  exact h (a + b) p hp (by omega) (by rw [Nat.add_assoc]; exact e)
theorem free_take {x : List Nat} (h : free x = true) (k : Nat) : free (x.take k) = true := by
  have := free_sub h 0 k
  unfold sub at this
  rwa [List.drop_zero] at this
/-- The free words of one letter more than a free word, of the first k letters. -/
def grow (k : Nat) (x : List Nat) : List (List Nat) := ((List.range k).map fun c => x ++ [c]).filter fun y => !endS y
/-- The free words with r letters more, in their order. -/
def exts (k : Nat) : Nat → List Nat → List (List Nat)
  | 0, x => [x]
  | r + 1, x => (grow k x).flatMap (exts k r)
end Go.Proofs.Ytoklnpiehbnalaa
