/- Frankl's bound for words that merge a pair, and the length of the word of Greedy: mathematics. -/
import Derived.Test.YtignbpipdfjkeaaDoorCK
namespace Go.Proofs.YtignbpipdfjkeaaDoor
set_option maxHeartbeats 2000000
set_option maxRecDepth 100000
def sumN (g : Nat → Int) : Nat → Int
  | 0 => 0
  | k + 1 => sumN g k + g k
/-- All numbers but one. -/
def skip (r i : Nat) : Nat := if i < r then i else i + 1
/-- The permanent of so many rows and a set of columns. -/
def pmF : Nat → (Nat → Nat → Int) → Nat → Int
  | 0, _, _ => 1
  | m + 1, F, S => sumN (fun c => if S.testBit c = true then F 0 c * pmF m (fun i => F (i + 1)) (sWithout S c) else 0) 10
theorem sumN_congr {g h : Nat → Int} : ∀ {k : Nat}, (∀ c, c < k → g c = h c) → sumN g k = sumN h k
  | 0, _ => rfl
  | k + 1, e => by
    show sumN g k + g k = sumN h k + h k
    rw [sumN_congr (fun c hc => e c (by omega)), e k (by omega)]
theorem sumN_mul (a : Int) (g : Nat → Int) : ∀ k, a * sumN g k = sumN (fun c => a * g c) k
  | 0 => by simp [sumN]
  | k + 1 => by
    show a * (sumN g k + g k) = sumN (fun c => a * g c) k + a * g k
    rw [Int.mul_add, sumN_mul a g k]
theorem sumN_add (g h : Nat → Int) : ∀ k, sumN (fun c => g c + h c) k = sumN g k + sumN h k
  | 0 => rfl
  | k + 1 => by
    show sumN (fun c => g c + h c) k + (g k + h k) = (sumN g k + g k) + (sumN h k + h k)
    rw [sumN_add g h k]; omega
theorem sumN_zero : ∀ k, sumN (fun _ => 0) k = 0
  | 0 => rfl
  | k + 1 => by
    show sumN (fun _ => 0) k + 0 = 0
    rw [sumN_zero k]; rfl
theorem sumN_skip {g : Nat → Int} {c : Nat} (hg : g c = 0) : ∀ {m : Nat}, c ≤ m → sumN g (m + 1) = sumN (fun k => g (skip c k)) m
  | 0, h => by
    obtain rfl : c = 0 := by omega
    show 0 + g 0 = 0
    rw [hg]; rfl
  | m + 1, h => by
    by_cases e : c = m + 1
    · subst e
      show sumN g (m + 1) + g (m + 1) = _
      rw [hg, Int.add_zero]
      exact sumN_congr (fun k hk => by unfold skip; rw [if_pos hk])
    · show sumN g (m + 1) + g (m + 1) = sumN (fun k => g (skip c k)) m + g (skip c m)
      rw [sumN_skip hg (show c ≤ m by omega)]
      congr 2
      unfold skip; rw [if_neg (by omega)]
theorem sumN_upd {g h : Nat → Int} {c : Nat} {d : Int} (hc : h c = g c + d) (hne : ∀ j, j ≠ c → h j = g j) : ∀ {n : Nat}, c < n → sumN h n = sumN g n + d
  | 0, h0 => absurd h0 (by omega)
  | n + 1, h0 => by
    show sumN h n + h n = sumN g n + g n + d
    by_cases e : c = n
    · subst e
      rw [hc, sumN_congr (fun j hj => hne j (by omega))]; omega
    · rw [sumN_upd hc hne (show c < n by omega), hne n (fun h => e h.symm)]; omega
def unsk (c j : Nat) : Nat := if j < c then j else j - 1
theorem unsk_skip (c j : Nat) : unsk c (skip c j) = j := by
  unfold unsk skip
  by_cases h : j < c
  · rw [if_pos h, if_pos h]
  · rw [if_neg h, if_neg (by omega)]; omega
theorem skip_ne (c j : Nat) : skip c j ≠ c := by unfold skip; split <;> omega
theorem skip_lt {c j m : Nat} (h : j < m) (_hc : c ≤ m) : skip c j < m + 1 := by unfold skip; split <;> omega
theorem dep : ∀ (d k : Nat) (v : Nat → Nat → Int), d < k → ∃ a : Nat → Int, (∃ j, j < k ∧ a j ≠ 0) ∧ ∀ i, i < d → sumN (fun j => a j * v j i) k = 0
  | 0, k, _, hk => ⟨fun _ => 1, ⟨0, hk, by decide⟩, fun i hi => absurd hi (by omega)⟩
  | d + 1, k, v, hk => by
    by_cases hz : ∀ j, j < k → v j d = 0
    · obtain ⟨a, ha, hs⟩ := dep d k v (by omega)
      refine ⟨a, ha, fun i hi => ?_⟩
      by_cases e : i = d
      · subst e
        rw [sumN_congr (h := fun _ => 0) (fun j hj => by rw [hz j hj, Int.mul_zero]), sumN_zero]
      · exact hs i (by omega)
    · obtain ⟨c, hc, hx⟩ : ∃ c, c < k ∧ v c d ≠ 0 := by
        apply Classical.byContradiction
        intro hno
        exact hz (fun j hj => Classical.byContradiction (fun h => hno ⟨j, hj, h⟩))
      obtain ⟨m, rfl⟩ : ∃ m, k = m + 1 := ⟨k - 1, by omega⟩
      obtain ⟨b, ⟨q, hq, hbq⟩, hs⟩ := dep d m (fun j i => v c d * v (skip c j) i - v (skip c j) d * v c i) (by omega)
      let S : Int := sumN (fun q => b q * v (skip c q) d) m
      let a : Nat → Int := fun j => if j = c then -S else v c d * b (unsk c j)
      have haS : ∀ q, a (skip c q) = v c d * b q := fun q => by
        show (if skip c q = c then -S else v c d * b (unsk c (skip c q))) = _
        rw [if_neg (skip_ne c q), unsk_skip]
      have hac : a c = -S := if_pos rfl
      have hsum : ∀ i, sumN (fun j => a j * v j i) (m + 1) = sumN (fun q => v c d * b q * v (skip c q) i) m + -S * v c i := fun i => by
        have e1 := sumN_upd (g := fun j => if j = c then 0 else a j * v j i) (h := fun j => a j * v j i) (c := c) (d := -S * v c i) (by rw [if_pos rfl, hac]; omega) (fun j hj => by rw [if_neg hj]) (n := m + 1) hc
        rw [e1, sumN_skip (g := fun j => if j = c then 0 else a j * v j i) (c := c) (if_pos rfl) (show c ≤ m by omega)]
        congr 1
        refine sumN_congr (fun q _ => ?_)
        try dsimp only
        rw [if_neg (skip_ne c q), haS]
      refine ⟨a, ⟨skip c q, skip_lt hq (by omega), by rw [haS]; exact Int.mul_ne_zero hx hbq⟩, fun i hi => ?_⟩
      rw [hsum]
      have e2 : sumN (fun q => v c d * b q * v (skip c q) i) m + -S * v c i = sumN (fun q => b q * (v c d * v (skip c q) i - v (skip c q) d * v c i)) m := by
        have e3 : -S * v c i = sumN (fun q => -(b q * v (skip c q) d) * v c i) m := by
          show -(sumN (fun q => b q * v (skip c q) d) m) * v c i = _
          rw [Int.neg_mul, Int.mul_comm, ← Int.mul_neg]
          rw [show -(sumN (fun q => b q * v (skip c q) d) m) = (-1) * sumN (fun q => b q * v (skip c q) d) m by omega, sumN_mul, sumN_mul]
          refine sumN_congr (fun q _ => ?_)
          try dsimp only
          rw [Int.mul_comm (v c i), Int.neg_mul, Int.one_mul]
        rw [e3, ← sumN_add]
        refine sumN_congr (fun q _ => ?_)
        try dsimp only
        rw [Int.mul_sub, Int.neg_mul, ← Int.sub_eq_add_neg]
        congr 1
        · rw [← Int.mul_assoc, Int.mul_comm (b q)]
        · rw [Int.mul_assoc]
      rw [e2]
      by_cases e : i = d
      · subst e
        rw [sumN_congr (h := fun _ => 0) (fun q _ => by (try dsimp only); rw [Int.mul_comm (v (skip c q) i), Int.sub_self, Int.mul_zero]), sumN_zero]
      · exact hs i (by omega)
/-- Vectors of which each has a place that the later ones lack are independent. -/
theorem tri {k : Nat} {a : Nat → Int} {p : Nat → Nat → Int} (h1 : ∀ j, j < k → p j j ≠ 0) (h2 : ∀ i j, i < k → j < i → p j i = 0) (hs : ∀ j, j < k → sumN (fun i => a i * p j i) k = 0) : ∀ j, j < k → a j = 0 := by
  have key : ∀ m, m ≤ k → ∀ j, j < m → a j = 0 := fun m => by
    induction m with
    | zero => intro _ j hj; omega
    | succ m ih =>
      intro hm j hj
      by_cases e : j = m
      · subst e
        have hz := hs j (by omega)
        have e1 := sumN_upd (g := fun _ => 0) (h := fun i => if i = j then a j * p j j else 0) (c := j) (d := a j * p j j) (by rw [if_pos rfl]; omega) (fun q hq => by rw [if_neg hq]) (n := k) (by omega)
        have e2 : sumN (fun i => a i * p j i) k = sumN (fun i => if i = j then a j * p j j else 0) k := sumN_congr (fun i hi => by
          by_cases e : i = j
          · subst e; rw [if_pos rfl]
          · rw [if_neg e]
            by_cases hlt : i < j
            · rw [ih (by omega) i hlt, Int.zero_mul]
            · rw [h2 i j hi (by omega), Int.mul_zero])
        rw [e2, e1, sumN_zero] at hz
        have hz2 : a j * p j j = 0 := by omega
        rcases Int.mul_eq_zero.1 hz2 with h | h
        · exact h
        · exact absurd h (h1 j (by omega))
      · exact ih (by omega) j (by omega)
  exact key k (Nat.le_refl _)

/-! Frankl's bound for words that merge a pair. -/
/-- Pairs of numbers whose sum is at most d. -/
def prs2 (d : Nat) : List (Nat × Nat) := (List.range (d + 1)).flatMap fun a => (List.range (d + 1 - a)).map fun b => (a, b)
theorem prs2_mem {d a b : Nat} (h : a + b ≤ d) : (a, b) ∈ prs2 d := by
  unfold prs2
  rw [List.mem_flatMap]
  exact ⟨a, List.mem_range.2 (by omega), List.mem_map.2 ⟨b, List.mem_range.2 (by omega), rfl⟩⟩
theorem prs2_len : ∀ d, d ≤ 9 → (prs2 d).length = (d + 1) * (d + 2) / 2 := by decide +kernel
/-- The product over the states of a list. -/
def prodC (C : List Nat) (u w : Int) : Int := C.foldr (fun (y : Nat) (a : Int) => ((y : Int) * y - y * u + w) * a) 1
theorem prodC_cons (y : Nat) (C : List Nat) (u w : Int) : prodC (y :: C) u w = ((y : Int) * y - y * u + w) * prodC C u w := rfl
theorem fac (y p q : Int) : y * y - y * (p + q) + p * q = (y - p) * (y - q) := by
  rw [Int.mul_sub, Int.sub_mul, Int.sub_mul, Int.mul_add, Int.mul_comm p y]; omega
theorem prodC_zero {C : List Nat} {p q y : Nat} (hy : y ∈ C) (h : y = p ∨ y = q) : prodC C ((p : Int) + q) ((p : Int) * q) = 0 := by
  induction C with
  | nil => cases hy
  | cons a C ih =>
    rw [prodC_cons]
    rcases List.mem_cons.1 hy with rfl | h2
    · rw [fac]
      rcases h with rfl | rfl
      · rw [Int.sub_self, Int.zero_mul, Int.zero_mul]
      · rw [Int.sub_self, Int.mul_zero, Int.zero_mul]
    · rw [ih h2, Int.mul_zero]
theorem prodC_ne {C : List Nat} {p q : Nat} (h : ∀ y, y ∈ C → y ≠ p ∧ y ≠ q) : prodC C ((p : Int) + q) ((p : Int) * q) ≠ 0 := by
  induction C with
  | nil => show (1 : Int) ≠ 0; decide
  | cons a C ih =>
    rw [prodC_cons, fac]
    obtain ⟨h1, h2⟩ := h a List.mem_cons_self
    exact Int.mul_ne_zero (Int.mul_ne_zero (by omega) (by omega)) (ih fun y hy => h y (List.mem_cons_of_mem _ hy))
theorem ann {L d : Nat} {c U W : Nat → Int} (h : ∀ a b, a + b ≤ d → sumN (fun j => c j * (U j ^ a * W j ^ b)) L = 0) : ∀ (C : List Nat) (a b : Nat), a + b + C.length ≤ d →
    sumN (fun j => c j * (U j ^ a * W j ^ b * prodC C (U j) (W j))) L = 0
  | [], a, b, hl => by
    rw [← h a b (by simpa using hl)]
    refine sumN_congr (fun j _ => ?_)
    show c j * (U j ^ a * W j ^ b * 1) = _
    rw [Int.mul_one]
  | y :: C, a, b, hl => by
    have hl' : a + b + C.length + 1 ≤ d := by rw [List.length_cons] at hl; omega
    have h1 := ann h C a b (by omega)
    have h2 := ann h C (a + 1) b (by omega)
    have h3 := ann h C a (b + 1) (by omega)
    have e : sumN (fun j => c j * (U j ^ a * W j ^ b * prodC (y :: C) (U j) (W j))) L = ((y : Int) * y) * sumN (fun j => c j * (U j ^ a * W j ^ b * prodC C (U j) (W j))) L + (-(y : Int)) * sumN (fun j => c j * (U j ^ (a + 1) * W j ^ b * prodC C (U j) (W j))) L + sumN (fun j => c j * (U j ^ a * W j ^ (b + 1) * prodC C (U j) (W j))) L := by
      rw [sumN_mul, sumN_mul, ← sumN_add, ← sumN_add]
      refine sumN_congr (fun j _ => ?_)
      rw [prodC_cons, Int.pow_succ (U j) a, Int.pow_succ (W j) b]
      generalize U j ^ a = A
      generalize W j ^ b = B
      generalize prodC C (U j) (W j) = p
      generalize U j = u
      generalize W j = v
      generalize c j = x
      generalize (y : Int) = z
      have e1 : x * (A * B * ((z * z - z * u + v) * p)) = x * (A * B * p) * (z * z - z * u + v) := by
        rw [Int.mul_comm (z * z - z * u + v) p, ← Int.mul_assoc (A * B), ← Int.mul_assoc x]
      have e2 : x * (A * u * B * p) = x * (A * B * p) * u := by
        rw [Int.mul_assoc A u B, Int.mul_comm u B, ← Int.mul_assoc A B u, Int.mul_assoc (A * B) u p, Int.mul_comm u p, ← Int.mul_assoc (A * B) p u, ← Int.mul_assoc x]
      have e3 : x * (A * (B * v) * p) = x * (A * B * p) * v := by
        rw [← Int.mul_assoc A B v, Int.mul_assoc (A * B) v p, Int.mul_comm v p, ← Int.mul_assoc (A * B) p v, ← Int.mul_assoc x]
      rw [e1, e2, e3]
      generalize x * (A * B * p) = K
      rw [Int.mul_add, Int.mul_sub, Int.mul_comm (z * z) K, Int.neg_mul, ← Int.mul_assoc z K u, Int.mul_comm z K, Int.mul_assoc K z u]
      omega
    rw [e, h1, h2, h3, Int.mul_zero, Int.mul_zero]; rfl
theorem pairs_few {L d : Nat} (hd : d ≤ 9) (P Q : Nat → Nat) (C : Nat → List Nat) (hC : ∀ i, i < L → (C i).length ≤ d) (h1 : ∀ i, i < L → ∀ y, y ∈ C i → y ≠ P i ∧ y ≠ Q i) (h2 : ∀ i j, i < L → j < i → ∃ y, y ∈ C j ∧ (y = P i ∨ y = Q i)) : L ≤ (d + 1) * (d + 2) / 2 := by
  rcases Nat.lt_or_ge ((d + 1) * (d + 2) / 2) L with hlt | hge
  · exfalso
    rw [← prs2_len d hd] at hlt
    obtain ⟨c, ⟨j0, hj0, hc0⟩, hz⟩ := dep (prs2 d).length L (fun j m => ((P j : Int) + Q j) ^ ((prs2 d).getD m (0, 0)).1 * ((P j : Int) * Q j) ^ ((prs2 d).getD m (0, 0)).2) hlt
    have hann : ∀ a b, a + b ≤ d → sumN (fun j => c j * (((P j : Int) + Q j) ^ a * ((P j : Int) * Q j) ^ b)) L = 0 := fun a b hab => by
      obtain ⟨m, hm, e⟩ := List.getElem_of_mem (prs2_mem hab)
      have := hz m hm
      rw [show (prs2 d).getD m (0, 0) = (a, b) by rw [List.getD_eq_getElem?_getD, List.getElem?_eq_getElem hm, e]; rfl] at this
      exact this
    have := tri (k := L) (a := c) (p := fun j i => prodC (C j) ((P i : Int) + Q i) ((P i : Int) * Q i)) (fun j hj => prodC_ne (h1 j hj)) (fun i j hi hji => by
      obtain ⟨y, hy, e⟩ := h2 i j hi hji
      show prodC (C j) ((P i : Int) + Q i) ((P i : Int) * Q i) = 0
      exact prodC_zero hy e) (fun j hj => by
      have := ann hann (C j) 0 0 (by have := hC j hj; omega)
      rw [← this]
      refine sumN_congr (fun i _ => ?_)
      rw [Int.pow_zero, Int.pow_zero, Int.one_mul, Int.one_mul])
    exact hc0 (this j0 hj0)
  · exact hge
variable {T : Tab} {k n : Nat}
/-- The states that are not in a set. -/
def comp (n s : Nat) : List Nat := (List.range n).filter fun q => !s.testBit q
theorem filt_len (p : Nat → Bool) : ∀ l : List Nat, (l.filter p).length + (l.filter fun q => !p q).length = l.length
  | [] => rfl
  | a :: l => by
    have := filt_len p l
    cases h : p a <;> simp [h] <;> omega
theorem comp_len {s : Nat} (hn : n ≤ 9) (hs : IsS n s) : (comp n s).length + szS s = n := by
  have h1 := filt_len (fun q => s.testBit q) (List.range n)
  rw [List.length_range] at h1
  have h2 : (lsF s n).length = szS s := by rw [lsF_end hs hn, lsI_len]
  unfold lsF at h2
  rw [List.length_map] at h2
  unfold comp
  omega
/-- The shortest word that makes a set smaller. -/
theorem frankl (hM : IsM T k n) {s : Nat} {x : List Nat} (hs : IsS n s) (hx : okW k x) (hless : szS (img T s x) < szS s) (hmin : ∀ v, okW k v → szS (img T s v) < szS s → x.length ≤ v.length) : x.length ≤ (n - szS s + 1) * (n - szS s + 2) / 2 := by
  have hn := hM.n9
  obtain ⟨p, q, hp, hq, hpq, hr⟩ := less_pair hM hs hx hless
  have hpre : ∀ i, okW k (x.take i) := fun i b hb => hx b (List.mem_of_mem_take hb)
  have hsuf : ∀ i, okW k (x.drop i) := fun i b hb => hx b (List.mem_of_mem_drop hb)
  have hS : ∀ i, IsS n (img T s (x.take i)) := fun i => img_set hM hs (hpre i)
  have hP : ∀ i, runS T p (x.take i) ∈ bitsS (img T s (x.take i)) := fun i => (img_mem hM _ hs (hpre i)).2 ⟨p, hp, rfl⟩
  have hQ : ∀ i, runS T q (x.take i) ∈ bitsS (img T s (x.take i)) := fun i => (img_mem hM _ hs (hpre i)).2 ⟨q, hq, rfl⟩
  have hne : ∀ i, i < x.length → runS T p (x.take i) ≠ runS T q (x.take i) := fun i hi e => by
    have := hmin _ (hpre i) (img_less hM hs (hpre i) hp hq hpq e)
    rw [List.length_take] at this
    omega
  have hsz : ∀ i, i < x.length → szS s ≤ szS (img T s (x.take i)) := fun i hi => by
    rcases Nat.lt_or_ge (szS (img T s (x.take i))) (szS s) with h | h
    · have := hmin _ (hpre i) h
      rw [List.length_take] at this
      omega
    · exact h
  have hrun : ∀ i r, runS T (runS T r (x.take i)) (x.drop i) = runS T r x := fun i r => by rw [← runS_app, List.take_append_drop]
  refine pairs_few (by omega) (fun i => runS T p (x.take i)) (fun i => runS T q (x.take i)) (fun i => comp n (img T s (x.take i))) (fun i hi => ?_) (fun i hi y hy => ?_) (fun i j hi hji => ?_)
  · have := comp_len hn (hS i)
    have := hsz i hi
    omega
  · unfold comp at hy
    have h1 := (List.mem_filter.1 hy).2
    have h2 := (mem_bits.1 (hP i)).2
    have h3 := (mem_bits.1 (hQ i)).2
    constructor
    · rintro rfl; rw [h2] at h1; cases h1
    · rintro rfl; rw [h3] at h1; cases h1
  · refine Classical.byContradiction (fun hc => ?_)
    have hin : ∀ r, r < n → (¬ ∃ y, y ∈ comp n (img T s (x.take j)) ∧ y = r) → r ∈ bitsS (img T s (x.take j)) := fun r hr h => by
      rw [mem_bits]
      refine ⟨by omega, ?_⟩
      cases e : (img T s (x.take j)).testBit r
      · exact absurd ⟨r, by unfold comp; exact List.mem_filter.2 ⟨List.mem_range.2 hr, by rw [e]; rfl⟩, rfl⟩ h
      · rfl
    have h1 := hin _ (bits_bound (hS i) (hP i)) (fun ⟨y, hy, e⟩ => hc ⟨y, hy, .inl e⟩)
    have h2 := hin _ (bits_bound (hS i) (hQ i)) (fun ⟨y, hy, e⟩ => hc ⟨y, hy, .inr e⟩)
    have h3 := img_less hM (hS j) (hsuf i) h1 h2 (hne i hi) (by rw [hrun, hrun]; exact hr)
    have h4 := img_sz hM hs (hpre j)
    have h5 := hmin (x.take j ++ x.drop i) (okW_app.2 ⟨hpre j, hsuf i⟩) (by rw [img_app]; omega)
    rw [List.length_append, List.length_take, List.length_drop] at h5
    omega
/-- All steps together. -/
def FB (n : Nat) : Nat → Nat
  | 0 => 0
  | 1 => 0
  | r + 2 => FB n (r + 1) + (n - (r + 2) + 1) * (n - (r + 2) + 2) / 2
theorem FB_all : ∀ n, n ≤ 9 → FB n n ≤ (n * n * n - n) / 6 := by decide +kernel
theorem FB_mono (n : Nat) : ∀ (r d : Nat), FB n r ≤ FB n (r + d)
  | r, 0 => Nat.le_refl _
  | r, d + 1 => by
    have h := FB_mono n r d
    have e : FB n (r + d) ≤ FB n (r + d + 1) := by
      rcases hrd : r + d with _ | m
      · exact Nat.le_refl _
      · show FB n (m + 1) ≤ FB n (m + 1) + _
        omega
    exact Nat.le_trans h e
theorem gr_len (hM : IsM T k n) : ∀ (f s : Nat) (x R : List Nat), IsS n s → s ≠ 0 → gr T k f s x = some R → R.length ≤ x.length + FB n (szS s)
  | 0, s, x, R, _, _, h => by
    have : x = R := by simpa [gr] using h
    subst this; omega
  | f + 1, s, x, R, hs, h0, h => by
    by_cases h1 : 1 < szS s
    · rw [gr_go h1] at h
      rcases e : seek T k s (few (szS s - 1)) with _ | ⟨t, y⟩
      · rw [e] at h; cases h
      · rw [e] at h
        obtain ⟨a1, a2, a3, -, a5, a6, a7⟩ := seek_facts hM hs h0 e
        have h2 := gr_len hM f t (x ++ y) R a5 a6 h
        have h3 := frankl hM hs a1 (by rw [a2]; omega) (fun v hv hl => vw_le_len (okW4 hM.k4 a1) (okW4 hM.k4 hv) (a7 v hv (by omega)))
        obtain ⟨r, hr⟩ : ∃ r, szS s = r + 2 := ⟨szS s - 2, by omega⟩
        have h4 := FB_mono n (szS t) (r + 1 - szS t)
        rw [show szS t + (r + 1 - szS t) = r + 1 by omega] at h4
        rw [List.length_append] at h2
        rw [hr] at h3 ⊢
        show R.length ≤ x.length + (FB n (r + 1) + (n - (r + 2) + 1) * (n - (r + 2) + 2) / 2)
        omega
    · rw [gr_end (by omega)] at h
      have : x = R := by simpa using h
      subst this; omega
end Go.Proofs.YtignbpipdfjkeaaDoor
