/- Necklaces: the parity of alternating simplices, and a lemma of Tucker's for small simplices of lists of cuts (plain mathematics). -/
import Derived.Test.YtopeppnajbnfgaaFA
namespace Go.Proofs.Ytopeppnajbnfgaa.Neck
/-- Sums of tests below a number, by exclusive or. -/
def xs : Nat → (Nat → Bool) → Bool
  | 0, _ => false
  | n + 1, f => xor (xs n f) (f n)
theorem xs_congr {n : Nat} {f g : Nat → Bool} (h : ∀ i, i < n → f i = g i) : xs n f = xs n g := by
  induction n with
  | zero => rfl
  | succ n ih => simp only [xs]; rw [ih (fun i hi => h i (by omega)), h n (by omega)]
theorem xor4 (a b c d : Bool) : xor (xor a b) (xor c d) = xor (xor a c) (xor b d) := by
  cases a <;> cases b <;> cases c <;> cases d <;> rfl
theorem xs_xor (n : Nat) (f g : Nat → Bool) : xs n (fun i => xor (f i) (g i)) = xor (xs n f) (xs n g) := by
  induction n with
  | zero => rfl
  | succ n ih => simp only [xs]; rw [ih, xor4]
theorem xs_false (n : Nat) : xs n (fun _ => false) = false := by
  induction n with
  | zero => rfl
  | succ n ih => simp only [xs]; rw [ih]; rfl
theorem xs_comm (n m : Nat) (f : Nat → Nat → Bool) : xs n (fun i => xs m (f i)) = xs m (fun j => xs n (fun i => f i j)) := by
  induction n with
  | zero => simp only [xs]; rw [xs_false]
  | succ n ih => simp only [xs]; rw [ih, ← xs_xor]
theorem xs_sym (n : Nat) (h : Nat → Nat → Bool) (h1 : ∀ x y, h x y = h y x) (h2 : ∀ x, h x x = false) : xs n (fun x => xs n (h x)) = false := by
  induction n with
  | zero => rfl
  | succ n ih =>
    simp only [xs]
    rw [xs_xor, ih, h2 n, xs_congr (f := h n) (g := fun x => h x n) (fun i _ => h1 n i)]
    cases xs n fun x => h x n <;> rfl
theorem xs_shift (n : Nat) (f : Nat → Bool) : xor (xs n (fun a => f (a + 1))) (xs n f) = xor (f n) (f 0) := by
  induction n with
  | zero => simp only [xs]; cases f 0 <;> rfl
  | succ n ih =>
    simp only [xs]
    rw [xor4, ih]
    cases f n <;> cases f 0 <;> cases f (n + 1) <;> rfl
/-- Sums over all lists of so many numbers below L. -/
def sm (L : Nat) : Nat → (List Nat → Bool) → Bool
  | 0, F => F []
  | k + 1, F => xs L fun a => sm L k fun q => F (a :: q)
theorem sm_congr (L : Nat) : ∀ (k : Nat) {F G : List Nat → Bool}, (∀ q, q.length = k → (∀ x ∈ q, x < L) → F q = G q) → sm L k F = sm L k G
  | 0, F, G, h => h [] rfl (by simp)
  | k + 1, F, G, h => xs_congr fun a ha => sm_congr L k fun q hq hx => h (a :: q) (by simp [hq]) (by
      intro x hx2
      rcases List.mem_cons.1 hx2 with rfl | h3
      · exact ha
      · exact hx x h3)
theorem sm_xor (L : Nat) : ∀ (k : Nat) (F G : List Nat → Bool), sm L k (fun q => xor (F q) (G q)) = xor (sm L k F) (sm L k G)
  | 0, F, G => rfl
  | k + 1, F, G => by
    simp only [sm]
    rw [← xs_xor]
    exact xs_congr fun a _ => sm_xor L k _ _
theorem sm_false (L : Nat) : ∀ (k : Nat), sm L k (fun _ => false) = false
  | 0 => rfl
  | k + 1 => by
    simp only [sm]
    rw [xs_congr (g := fun _ => false) (fun a _ => sm_false L k), xs_false]
theorem sm_xs (L : Nat) (n : Nat) (F : Nat → List Nat → Bool) : ∀ (k : Nat), sm L k (fun q => xs n fun i => F i q) = xs n fun i => sm L k (F i) := by
  induction n with
  | zero => intro k; exact sm_false L k
  | succ n ih =>
    intro k
    simp only [xs]
    rw [sm_xor, ih]
/-- The last number apart. -/
theorem sm_last (L : Nat) : ∀ (k : Nat) (F : List Nat → Bool), sm L (k + 1) F = sm L k fun q => xs L fun a => F (q ++ [a])
  | 0, F => rfl
  | k + 1, F => by
    show xs L (fun a => sm L (k + 1) fun q => F (a :: q)) = xs L fun a => sm L k fun q => xs L fun b => F (a :: q ++ [b])
    exact xs_congr fun a _ => sm_last L k _
theorem sm_app (L : Nat) (n : Nat) : ∀ (j : Nat) (F : List Nat → Bool), sm L (j + n) F = sm L j fun u => sm L n fun v => F (u ++ v)
  | 0, F => by rw [Nat.zero_add]; rfl
  | j + 1, F => by
    rw [show j + 1 + n = (j + n) + 1 by omega]
    show xs L (fun a => sm L (j + n) fun q => F (a :: q)) = xs L fun a => sm L j fun u => sm L n fun v => F (a :: u ++ v)
    exact xs_congr fun a _ => sm_app L n j _
/-- What is symmetric in two neighbors, and false where they are equal, has the sum false. -/
theorem sm_swap (L j m : Nat) (F : List Nat → Bool) (h1 : ∀ u v x y, u.length = j → v.length = m → F (u ++ x :: y :: v) = F (u ++ y :: x :: v)) (h2 : ∀ u v x, u.length = j → v.length = m → F (u ++ x :: x :: v) = false) : sm L (j + (m + 2)) F = false := by
  rw [sm_app]
  rw [sm_congr L j (G := fun _ => false), sm_false]
  intro u hu _
  show xs L (fun x => xs L fun y => sm L m fun v => F (u ++ x :: y :: v)) = false
  exact xs_sym L (fun x y => sm L m fun v => F (u ++ x :: y :: v)) (fun x y => sm_congr L m fun v hv _ => h1 u v x y hu hv)
    (fun x => by rw [sm_congr L m (G := fun _ => false) (fun v hv _ => h2 u v x hu hv), sm_false])
theorem sm_some {L k : Nat} {F : List Nat → Bool} (h : sm L k F = true) : ∃ q, q.length = k ∧ (∀ x ∈ q, x < L) ∧ F q = true := by
  apply Classical.byContradiction
  intro hn
  have : sm L k F = false := by
    rw [sm_congr L k (G := fun _ => false), sm_false]
    intro q hq hx
    cases hF : F q
    · rfl
    · exact absurd ⟨q, hq, hx, hF⟩ hn
  rw [this] at h; cases h
theorem xs_head (n : Nat) (f : Nat → Bool) : xs (n + 1) f = xor (f 0) (xs n fun i => f (i + 1)) := by
  induction n with
  | zero => simp only [xs]; cases f 0 <;> rfl
  | succ n ih =>
    rw [show xs (n + 1 + 1) f = xor (xs (n + 1) f) (f (n + 1)) from rfl, ih]
    show _ = xor (f 0) (xor (xs n fun i => f (i + 1)) (f (n + 1)))
    rw [Bool.xor_assoc]
theorem xs_ends (k : Nat) (f : Nat → Bool) (h : ∀ i, 0 < i → i < k + 1 → f i = false) : xs (k + 2) f = xor (f 0) (f (k + 1)) := by
  rw [show xs (k + 2) f = xor (xs (k + 1) f) (f (k + 1)) from rfl, xs_head, xs_congr (g := fun _ => false) (fun i hi => h (i + 1) (by omega) (by omega)), xs_false, Bool.xor_false]
/-- The sum of a test over a list without one of its members. -/
def E {α : Type} (g : List α → Bool) : List α → Bool
  | [] => false
  | a :: W => xor (g W) (E (fun V => g (a :: V)) W)
theorem E_xs {α : Type} : ∀ (W : List α) (g : List α → Bool), E g W = xs W.length fun i => g (W.eraseIdx i)
  | [], g => rfl
  | a :: W, g => by
    rw [List.length_cons, xs_head]
    show xor (g W) (E (fun V => g (a :: V)) W) = _
    rw [E_xs W]
    rfl
theorem E_congr {α : Type} : ∀ (W : List α) {g h : List α → Bool}, (∀ V, V.Sublist W → g V = h V) → E g W = E h W
  | [], g, h, _ => rfl
  | a :: W, g, h, H => by
    show xor (g W) _ = xor (h W) _
    rw [H W (List.sublist_cons_self a W), E_congr W (g := fun V => g (a :: V)) (h := fun V => h (a :: V)) (fun V hV => H _ (hV.cons_cons a))]
theorem E_false {α : Type} : ∀ (W : List α), E (fun _ => false) W = false
  | [] => rfl
  | _ :: W => by
    show xor false (E (fun _ => false) W) = false
    rw [E_false W]; rfl
theorem E_and {α : Type} (b : Bool) (g : List α → Bool) (W : List α) : E (fun V => b && g V) W = (b && E g W) := by
  cases b
  · exact E_false W
  · rfl
theorem E_perm {α : Type} {W W' : List α} (p : W.Perm W') : ∀ (g : List α → Bool), (∀ V V' : List α, V.Perm V' → g V = g V') → E g W = E g W' := by
  induction p with
  | nil => intro g _; rfl
  | cons a p ih =>
    intro g hg
    show xor (g _) _ = xor (g _) _
    rw [hg _ _ p, ih _ (fun V V' h => hg _ _ (h.cons a))]
  | swap a b W =>
    intro g hg
    show xor (g (a :: W)) (xor (g (b :: W)) (E (fun V => g (b :: a :: V)) W)) = xor (g (b :: W)) (xor (g (a :: W)) (E (fun V => g (a :: b :: V)) W))
    rw [show (fun V => g (b :: a :: V)) = fun V => g (a :: b :: V) from funext fun V => hg _ _ (List.Perm.swap a b V)]
    cases g (a :: W) <;> cases g (b :: W) <;> cases E (fun V => g (a :: b :: V)) W <;> rfl
  | trans _ _ ih1 ih2 => intro g hg; rw [ih1 g hg, ih2 g hg]
/-- Signs that alternate, sizes that grow. -/
def altS (sg : Bool) (m : Nat) : List Int → Bool
  | [] => true
  | x :: W => (decide (decide (0 < x) = sg) && decide (m < x.natAbs)) && altS (!sg) x.natAbs W
def Sorted (W : List Int) : Prop := W.Pairwise fun a b => a.natAbs ≤ b.natAbs
def NoOpp (W : List Int) : Prop := (∀ x ∈ W, x ≠ 0) ∧ ∀ x ∈ W, -x ∉ W
theorem altS_low {sg : Bool} {m m' : Nat} {y : Int} {W : List Int} (h : m < y.natAbs) (h' : m' < y.natAbs) : altS sg m (y :: W) = altS sg m' (y :: W) := by
  unfold altS
  rw [decide_eq_true h, decide_eq_true h']
theorem same_abs {x y : Int} (h : x.natAbs = y.natAbs) : y = x ∨ y = -x := by omega
theorem facets : ∀ (W : List Int) (sg : Bool) (m : Nat), W ≠ [] → Sorted W → NoOpp W → (∀ x ∈ W, m < x.natAbs) → E (altS sg m) W = xor (altS sg m W) (altS (!sg) m W)
  | [], _, _, h, _, _, _ => absurd rfl h
  | [x], sg, m, _, _, _, hm => by
    have := hm x (by simp)
    show xor true false = xor ((decide (decide (0 < x) = sg) && decide (m < x.natAbs)) && true) ((decide (decide (0 < x) = !sg) && decide (m < x.natAbs)) && true)
    rw [decide_eq_true this]
    cases decide (0 < x) <;> cases sg <;> rfl
  | x :: y :: W, sg, m, _, hs, hn, hm => by
    have hx := hm x (by simp)
    have hs' : Sorted (y :: W) := (List.pairwise_cons.1 hs).2
    have hn' : NoOpp (y :: W) := ⟨fun z hz => hn.1 z (List.mem_cons_of_mem _ hz), fun z hz hz2 => hn.2 z (List.mem_cons_of_mem _ hz) (List.mem_cons_of_mem _ hz2)⟩
    have hxy := (List.pairwise_cons.1 hs).1 y (by simp)
    have e1 : E (altS sg m) (x :: y :: W) = xor (altS sg m (y :: W)) ((decide (decide (0 < x) = sg) && decide (m < x.natAbs)) && E (altS (!sg) x.natAbs) (y :: W)) := by
      rw [← E_and]; rfl
    have e2 : ∀ s, altS s m (x :: y :: W) = ((decide (decide (0 < x) = s) && decide (m < x.natAbs)) && altS (!s) x.natAbs (y :: W)) := fun s => rfl
    rw [e1, e2, e2, decide_eq_true hx, Bool.and_true, Bool.and_true]
    rcases Nat.lt_or_ge x.natAbs y.natAbs with hlt | hge
    · have ih := facets (y :: W) (!sg) x.natAbs (by simp) hs' hn' (fun z hz => by
        rcases List.mem_cons.1 hz with rfl | hz
        · exact hlt
        · have := (List.pairwise_cons.1 hs').1 z hz
          omega)
      rw [ih, altS_low (m' := x.natAbs) (by omega) hlt, Bool.not_not]
      generalize decide (0 < x) = d
      cases sg
      · simp only [Bool.not_false]
        generalize altS true x.natAbs (y :: W) = p
        generalize altS false x.natAbs (y :: W) = q
        cases d <;> cases p <;> cases q <;> rfl
      · simp only [Bool.not_true]
        generalize altS true x.natAbs (y :: W) = p
        generalize altS false x.natAbs (y :: W) = q
        cases d <;> cases p <;> cases q <;> rfl
    · have hyx : y = x := by
        rcases same_abs (x := x) (y := y) (by omega) with h | h
        · exact h
        · exact absurd (by rw [← h]; simp) (hn.2 x (by simp))
      subst hyx
      have e3 : ∀ s, altS s y.natAbs (y :: W) = false := fun s => by
        unfold altS
        rw [decide_eq_false (Nat.lt_irrefl _), Bool.and_false, Bool.false_and]
      have e4 : E (altS (!sg) y.natAbs) (y :: W) = altS (!sg) y.natAbs W := by
        show xor _ (E (fun V => altS (!sg) y.natAbs (y :: V)) W) = _
        rw [show (fun V => altS (!sg) y.natAbs (y :: V)) = fun _ => false from funext fun V => by
          unfold altS
          rw [decide_eq_false (Nat.lt_irrefl _), Bool.and_false, Bool.false_and], E_false, Bool.xor_false]
      have e5 : altS sg m (y :: W) = (decide (decide (0 < y) = sg) && altS (!sg) y.natAbs W) := by
        show ((decide (decide (0 < y) = sg) && decide (m < y.natAbs)) && altS (!sg) y.natAbs W) = _
        rw [decide_eq_true hx, Bool.and_true]
      rw [e3, e3, e4, e5, Bool.and_false, Bool.and_false, Bool.xor_self]; rfl
/-- Can the labels be put in such an order? -/
noncomputable def alt (sg : Bool) (W : List Int) : Bool := @decide (∃ V, V.Perm W ∧ altS sg 0 V = true) (Classical.propDecidable _)
theorem alt_iff {sg : Bool} {W : List Int} : alt sg W = true ↔ ∃ V, V.Perm W ∧ altS sg 0 V = true := by
  unfold alt
  exact @decide_eq_true_iff _ (Classical.propDecidable _)
theorem alt_perm (sg : Bool) {W W' : List Int} (p : W.Perm W') : alt sg W = alt sg W' := by
  rw [Bool.eq_iff_iff, alt_iff, alt_iff]
  exact ⟨fun ⟨V, h, k⟩ => ⟨V, h.trans p, k⟩, fun ⟨V, h, k⟩ => ⟨V, h.trans p.symm, k⟩⟩
theorem altS_lt : ∀ (V : List Int) (sg : Bool) (m : Nat), altS sg m V = true → (∀ x ∈ V, m < x.natAbs) ∧ V.Pairwise fun a b => a.natAbs < b.natAbs
  | [], _, _, _ => ⟨by simp, List.Pairwise.nil⟩
  | x :: V, sg, m, h => by
    unfold altS at h
    simp only [Bool.and_eq_true, decide_eq_true_iff] at h
    have ih := altS_lt V _ _ h.2
    exact ⟨fun z hz => by
      rcases List.mem_cons.1 hz with rfl | hz
      · exact h.1.2
      · have := ih.1 z hz; omega, List.pairwise_cons.2 ⟨ih.1, ih.2⟩⟩
theorem alt_sorted (sg : Bool) {W : List Int} (h : Sorted W) : alt sg W = altS sg 0 W := by
  rw [Bool.eq_iff_iff, alt_iff]
  constructor
  · rintro ⟨V, p, hV⟩
    have h2 := (altS_lt V sg 0 hV).2
    have e : V = W := by
      refine List.Perm.eq_of_pairwise (le := fun a b : Int => a.natAbs ≤ b.natAbs) (fun a b ha hb h3 h4 => ?_) (h2.imp (fun h => Nat.le_of_lt h)) h p
      have hb' := p.mem_iff.2 hb
      have e3 : a.natAbs = b.natAbs := by omega
      have hne : ∀ (V : List Int), V.Pairwise (fun a b => a.natAbs < b.natAbs) → ∀ a ∈ V, ∀ b ∈ V, a.natAbs = b.natAbs → a = b := by
        intro V
        induction V with
        | nil => intro _ a ha; simp at ha
        | cons c V ih =>
          intro hp a ha b hb e
          have hp := List.pairwise_cons.1 hp
          rcases List.mem_cons.1 ha with rfl | ha
          · rcases List.mem_cons.1 hb with rfl | hb
            · rfl
            · have := hp.1 b hb; omega
          · rcases List.mem_cons.1 hb with e2 | hb
            · have := hp.1 a ha; rw [e2] at e; omega
            · exact ih hp.2 a ha b hb e
      exact hne V h2 a ha b hb' e3
    rw [← e]; exact hV
  · intro hV; exact ⟨W, List.Perm.refl _, hV⟩
theorem NoOpp.perm {W W' : List Int} (h : NoOpp W) (p : W.Perm W') : NoOpp W' :=
  ⟨fun x hx => h.1 x (p.mem_iff.2 hx), fun x hx hx2 => h.2 x (p.mem_iff.2 hx) (p.mem_iff.2 hx2)⟩
/-- Of the parts without one label as many alternate as whole ones, by parity. -/
theorem facet_sum {W : List Int} (h0 : W ≠ []) (h : NoOpp W) : (xs W.length fun i => alt true (W.eraseIdx i)) = xor (alt true W) (alt false W) := by
  rw [← E_xs]
  have p := List.mergeSort_perm W (fun a b : Int => decide (a.natAbs ≤ b.natAbs))
  have hs : Sorted (W.mergeSort fun a b : Int => decide (a.natAbs ≤ b.natAbs)) := by
    refine (List.pairwise_mergeSort (le := fun a b : Int => decide (a.natAbs ≤ b.natAbs)) ?_ ?_ W).imp ?_
    · intro a b c h1 h2
      simp only [decide_eq_true_iff] at *; omega
    · intro a b
      simp only [Bool.or_eq_true, decide_eq_true_iff]; omega
    · intro a b h; exact of_decide_eq_true h
  generalize W.mergeSort (fun a b : Int => decide (a.natAbs ≤ b.natAbs)) = W' at p hs
  rw [E_perm p.symm (alt true) (fun V V' q => alt_perm true q), alt_perm true p.symm, alt_perm false p.symm, alt_sorted true hs, alt_sorted false hs,
    E_congr W' (h := altS true 0) (fun V hV => alt_sorted true (hs.sublist hV))]
  refine facets W' true 0 (fun e => h0 ?_) hs (h.perm p.symm) (fun x hx => ?_)
  · subst e; exact List.Perm.eq_nil p.symm
  · have := (h.perm p.symm).1 x hx; omega
/-- Twice the same label: no part alternates. -/
theorem alt_dup {sg : Bool} {W : List Int} (h : ¬ W.Nodup) : alt sg W = false := by
  cases ha : alt sg W
  · rfl
  · obtain ⟨V, p, hV⟩ := alt_iff.1 ha
    refine absurd (p.nodup_iff.1 ?_) h
    exact (altS_lt V sg 0 hV).2.imp fun {a b} h e => by rw [e] at h; omega
theorem altS_neg : ∀ (V : List Int) (sg : Bool) (m : Nat), (∀ x ∈ V, x ≠ 0) → altS sg m (V.map fun x => -x) = altS (!sg) m V
  | [], _, _, _ => rfl
  | x :: V, sg, m, h => by
    have hx := h x (by simp)
    show ((decide (decide (0 < -x) = sg) && decide (m < (-x).natAbs)) && altS (!sg) (-x).natAbs (V.map fun x => -x)) = _
    rw [altS_neg V _ _ (fun y hy => h y (List.mem_cons_of_mem _ hy)), Int.natAbs_neg]
    show _ = ((decide (decide (0 < x) = !sg) && decide (m < x.natAbs)) && altS (!!sg) x.natAbs V)
    have : decide (0 < -x) = !decide (0 < x) := by
      by_cases h1 : 0 < x
      · rw [decide_eq_true h1, decide_eq_false (by omega)]; rfl
      · rw [decide_eq_false h1, decide_eq_true (by omega)]; rfl
    rw [this]
    cases decide (0 < x) <;> cases sg <;> rfl
theorem alt_neg {W : List Int} (h : ∀ x ∈ W, x ≠ 0) : alt true (W.map fun x => -x) = alt false W := by
  rw [Bool.eq_iff_iff, alt_iff, alt_iff]
  constructor
  · rintro ⟨V, p, hV⟩
    refine ⟨V.map fun x => -x, ?_, ?_⟩
    · have := p.map fun x : Int => -x
      rw [List.map_map] at this
      rwa [show ((fun x : Int => -x) ∘ fun x : Int => -x) = id from funext fun x => by simp, List.map_id] at this
    · rw [altS_neg V false 0]
      · exact hV
      · intro x hx
        have hx2 := p.mem_iff.1 hx
        obtain ⟨y, hy, rfl⟩ := List.mem_map.1 hx2
        have := h y hy
        omega
  · rintro ⟨V, p, hV⟩
    refine ⟨V.map fun x => -x, p.map _, ?_⟩
    rw [altS_neg V true 0 (fun x hx => h x (p.mem_iff.1 hx))]
    exact hV
/-- The corners of the small simplex that begins at a list: its last numbers are one greater. -/
def pts : List Nat → List (List Nat)
  | [] => [[]]
  | a :: q => (pts q).map (fun p => a :: p) ++ [(a + 1) :: q.map (· + 1)]
theorem pts_len : ∀ q, (pts q).length = q.length + 1
  | [] => rfl
  | a :: q => by unfold pts; simp [pts_len q]
theorem pts_ne (q : List Nat) : pts q ≠ [] := fun e => by
  have := pts_len q
  rw [e] at this; simp at this
theorem pts_last (a : Nat) : ∀ q, pts (q ++ [a]) = (q ++ [a]) :: (pts q).map fun p => p ++ [a + 1]
  | [] => rfl
  | b :: q => by
    show (pts (q ++ [a])).map (fun p => b :: p) ++ [(b + 1) :: (q ++ [a]).map (· + 1)] = _
    rw [pts_last a q]
    simp [pts]
theorem pts_app (r : List Nat) : ∀ u, pts (u ++ r) = (pts r).map (fun p => u ++ p) ++ (pts u).tail.map fun p => p ++ r.map (· + 1)
  | [] => by simp [pts]
  | a :: u => by
    show (pts (u ++ r)).map (fun p => a :: p) ++ [(a + 1) :: (u ++ r).map (· + 1)] = _
    rw [pts_app r u]
    cases hp : pts u with
    | nil => exact absurd hp (pts_ne u)
    | cons x xs => simp [pts, hp, Function.comp_def]
theorem pts_end : ∀ v : List Nat, ∃ A, pts v = A ++ [v.map (· + 1)] ∧ A.length = v.length
  | [] => ⟨[], rfl, rfl⟩
  | a :: v => ⟨(pts v).map (fun p => a :: p), rfl, by simp [pts_len]⟩
theorem pts_mid (u v : List Nat) (x y : Nat) : ∃ A B, pts (u ++ x :: y :: v) = A ++ [u ++ x :: (y + 1) :: v.map (· + 1)] ++ B ∧ A.length = v.length + 1 ∧
    A = (pts v).map (fun p => u ++ x :: y :: p) ∧ B = (u ++ (x + 1) :: (y + 1) :: v.map (· + 1)) :: ((pts u).tail.map fun p => p ++ (x + 1) :: (y + 1) :: v.map (· + 1)) := by
  refine ⟨_, _, ?_, ?_, rfl, rfl⟩
  · rw [pts_app]
    simp [pts]
  · simp [pts_len]
theorem erase_mid {α : Type} (A B : List α) (m : α) {n : Nat} (h : A.length = n) : (A ++ [m] ++ B).eraseIdx n = A ++ B := by
  subst h
  rw [List.append_assoc, List.eraseIdx_append_of_length_le (Nat.le_refl _), Nat.sub_self]
  rfl
/-- What is asked of the labels. -/
structure Lab (L : Nat) (l : List Nat → Int) : Prop where
  perm : ∀ p p', p.Perm p' → l p = l p'
  last : ∀ p, l (L :: p) = l p
  zero : ∀ p, l (0 :: p) = -l p
  twice : ∀ x p, l (x :: x :: p) = l p
noncomputable def T (L : Nat) (l : List Nat → Int) (k : Nat) : Bool := sm L k fun q => xor (alt true ((pts q).map l)) (alt false ((pts q).map l))
theorem mid_swap {L : Nat} {l : List Nat → Int} (h : Lab L l) (u v : List Nat) (x y : Nat) :
    ((pts (u ++ x :: y :: v)).map l).eraseIdx (v.length + 1) = ((pts (u ++ y :: x :: v)).map l).eraseIdx (v.length + 1) := by
  obtain ⟨A, B, e, hl, hA, hB⟩ := pts_mid u v x y
  obtain ⟨A', B', e', hl', hA', hB'⟩ := pts_mid u v y x
  have hs : ∀ (a b : Nat) (w p : List Nat), l (w ++ a :: b :: p) = l (w ++ b :: a :: p) := fun a b w p => h.perm _ _ ((List.Perm.swap b a p).append_left w)
  rw [e, e', List.map_append, List.map_append, List.map_append, List.map_append, List.map_cons, List.map_nil, List.map_cons, List.map_nil,
    erase_mid _ _ _ (by rw [List.length_map, hl]), erase_mid _ _ _ (by rw [List.length_map, hl'])]
  rw [hA, hA', hB, hB']
  simp only [List.map_map, List.map_cons]
  congr 1
  · exact List.map_congr_left fun p _ => hs x y u p
  · congr 1
    · exact hs _ _ _ _
    · exact List.map_congr_left fun p _ => hs _ _ _ _
theorem mid_same {L : Nat} {l : List Nat → Int} (h : Lab L l) (sg : Bool) (u v : List Nat) (x : Nat) :
    alt sg (((pts (u ++ x :: x :: v)).map l).eraseIdx (v.length + 1)) = false := by
  obtain ⟨A, B, e, hl, hA, hB⟩ := pts_mid u v x x
  have hs : ∀ (a : Nat) (w p : List Nat), l (w ++ a :: a :: p) = l (w ++ p) := fun a w p => by
    rw [h.perm (w ++ a :: a :: p) (a :: a :: (w ++ p)) (by
      refine List.perm_middle.trans ?_
      exact List.Perm.cons a List.perm_middle), h.twice]
  rw [e, List.map_append, List.map_append, List.map_cons, List.map_nil, erase_mid _ _ _ (by rw [List.length_map, hl])]
  apply alt_dup
  intro hn
  obtain ⟨V, hV, _⟩ := pts_end v
  have hd := (List.nodup_append.1 hn).2.2
  refine hd (l (u ++ v.map (· + 1))) ?_ (l (u ++ v.map (· + 1))) ?_ rfl
  · rw [hA, hV]
    simp only [List.map_map, List.map_append, List.map_cons, List.map_nil]
    refine List.mem_append_right _ ?_
    simp only [List.mem_singleton]
    exact (hs x u _).symm
  · rw [hB]
    simp only [List.map_cons]
    refine List.mem_cons.2 (.inl ?_)
    exact (hs (x + 1) u _).symm
theorem T_step {L : Nat} {l : List Nat → Int} (h : Lab L l) (k : Nat) (hn : ∀ q, q.length = k + 1 → (∀ x ∈ q, x < L) → NoOpp ((pts q).map l)) (hz : ∀ q, q.length = k → (∀ x ∈ q, x < L) → ∀ y ∈ (pts q).map l, y ≠ 0) : T L l (k + 1) = T L l k := by
  unfold T
  rw [sm_congr L (k + 1) (G := fun q => xs (k + 2) fun i => alt true (((pts q).map l).eraseIdx i)) (fun q hq hx => by
    rw [← facet_sum (by simp [pts_ne]) (hn q hq hx)]
    simp [pts_len, hq])]
  rw [sm_xs L (k + 2) (fun i q => alt true (((pts q).map l).eraseIdx i)) (k + 1), xs_ends k]
  · have e0 : sm L (k + 1) (fun q => alt true (((pts q).map l).eraseIdx 0)) = sm L k fun q => xs L fun a => alt true ((pts q).map fun p => l ((a + 1) :: p)) := by
      rw [sm_last]
      refine sm_congr L k fun q _ _ => xs_congr fun a _ => ?_
      rw [pts_last]
      simp only [List.map_cons, List.eraseIdx_cons_zero, List.map_map]
      exact congrArg (alt true) (List.map_congr_left fun p _ => h.perm _ _ (List.perm_append_comm (l₁ := p) (l₂ := [a + 1])))
    have e1 : sm L (k + 1) (fun q => alt true (((pts q).map l).eraseIdx (k + 1))) = sm L k fun q => xs L fun a => alt true ((pts q).map fun p => l (a :: p)) := by
      rw [sm_xs L L (fun a q => alt true ((pts q).map fun p => l (a :: p)))]
      show xs L (fun a => sm L k fun q => alt true (((pts (a :: q)).map l).eraseIdx (k + 1))) = _
      refine xs_congr fun a _ => sm_congr L k fun q hq _ => ?_
      show alt true (((pts q).map (fun p => a :: p) ++ [(a + 1) :: q.map (· + 1)]).map l |>.eraseIdx (k + 1)) = _
      rw [List.map_append, ← List.append_nil (List.map l ((pts q).map fun p => a :: p) ++ _), List.map_cons, List.map_nil, erase_mid _ [] _ (by rw [List.length_map, List.length_map, pts_len, hq]), List.append_nil, List.map_map]
      rfl
    rw [e0, e1, ← sm_xor]
    refine sm_congr L k fun q hq hx => ?_
    rw [xs_shift L fun a => alt true ((pts q).map fun p => l (a :: p))]
    congr 1
    · exact congrArg (alt true) (List.map_congr_left fun p _ => h.last p)
    · rw [← alt_neg (hz q hq hx), List.map_map]
      exact congrArg (alt true) (List.map_congr_left fun p _ => h.zero p)
  · intro i h1 h2
    -- a facet in the middle
    obtain ⟨m, rfl⟩ : ∃ m, i = m + 1 := ⟨i - 1, by omega⟩
    obtain ⟨j, rfl⟩ : ∃ j, k = j + m + 1 := ⟨k - m - 1, by omega⟩
    rw [show j + m + 1 + 1 = j + (m + 2) by omega]
    refine sm_swap L j m (fun q => alt true (((pts q).map l).eraseIdx (m + 1))) (fun u v x y _ hv => ?_) (fun u v x _ hv => ?_)
    · show alt true (((pts (u ++ x :: y :: v)).map l).eraseIdx (m + 1)) = alt true (((pts (u ++ y :: x :: v)).map l).eraseIdx (m + 1))
      rw [← hv, mid_swap h]
    · show alt true (((pts (u ++ x :: x :: v)).map l).eraseIdx (m + 1)) = false
      rw [← hv]; exact mid_same h true u v x
theorem T_zero {L : Nat} {l : List Nat → Int} (h0 : l [] ≠ 0) : T L l 0 = true := by
  show xor (alt true [l []]) (alt false [l []]) = true
  have hs : Sorted [l []] := by simp [Sorted]
  rw [alt_sorted true hs, alt_sorted false hs]
  show xor ((decide (decide (0 < l []) = true) && decide (0 < (l []).natAbs)) && true) ((decide (decide (0 < l []) = false) && decide (0 < (l []).natAbs)) && true) = true
  rw [decide_eq_true (show 0 < (l []).natAbs by omega)]
  cases decide (0 < l []) <;> rfl
theorem len_le {α : Type} [DecidableEq α] : ∀ (A B : List α), A.Nodup → (∀ x ∈ A, x ∈ B) → A.length ≤ B.length
  | [], B, _, _ => by simp
  | a :: A, B, hn, h => by
    have hn := List.nodup_cons.1 hn
    have hb := h a (by simp)
    have := len_le A (B.erase a) hn.2 fun x hx => (List.mem_erase_of_ne (fun e => hn.1 (by rw [← e]; exact hx))).2 (h x (List.mem_cons_of_mem _ hx))
    rw [List.length_erase_of_mem hb] at this
    have := List.length_pos_of_mem hb
    simp only [List.length_cons]
    omega
/-- There are as many sizes of labels as numbers, and one more, if no two are opposite. -/
theorem tucker {L t : Nat} {l : List Nat → Int} (h : Lab L l) (KS : List Nat) (hK : KS.length ≤ t) (hn : ∀ q, q.length ≤ t → (∀ x ∈ q, x < L) → NoOpp ((pts q).map l))
    (hs : ∀ q, q.length ≤ t → (∀ x ∈ q, x < L) → ∀ y ∈ (pts q).map l, y.natAbs ∈ KS) : False := by
  have hT : ∀ k, k ≤ t → T L l k = true := by
    intro k
    induction k with
    | zero =>
      intro _
      refine T_zero ?_
      exact (hn [] (by simp) (by simp)).1 _ (by simp [pts])
    | succ k ih =>
      intro hk
      rw [T_step h k (fun q hq hx => hn q (by omega) hx) (fun q hq hx => (hn q (by omega) hx).1)]
      exact ih (by omega)
  obtain ⟨q, hq, hx, ha⟩ := sm_some (hT t (Nat.le_refl _))
  have ha : alt true ((pts q).map l) = true ∨ alt false ((pts q).map l) = true := by
    revert ha
    cases alt true ((pts q).map l) <;> cases alt false ((pts q).map l) <;> simp
  obtain ⟨sg, ha⟩ : ∃ sg, alt sg ((pts q).map l) = true := by
    rcases ha with h | h
    · exact ⟨_, h⟩
    · exact ⟨_, h⟩
  obtain ⟨V, p, hV⟩ := alt_iff.1 ha
  have h2 := (altS_lt V sg 0 hV).2
  have h3 := len_le (V.map Int.natAbs) KS (by
    refine List.Pairwise.map _ (fun a b h => ?_) h2
    omega) (fun x hx2 => by
    obtain ⟨y, hy, rfl⟩ := List.mem_map.1 hx2
    exact hs q (by omega) hx y (p.mem_iff.1 hy))
  have h4 := p.length_eq
  simp only [List.length_map, pts_len] at h3 h4
  omega
end Go.Proofs.Ytopeppnajbnfgaa.Neck
