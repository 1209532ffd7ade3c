/- Renamings of machines: mathematics. -/
import Derived.Test.YtignbpipdfjkeaaDoorMG
import Derived.Test.YtignbpipdfjkeaaDoorAC
namespace Go.Proofs.YtignbpipdfjkeaaDoor
set_option maxHeartbeats 2000000
set_option maxRecDepth 100000
/-- Names for some states: which have one, which names are taken, and the names. -/
structure Rn where
  dom : Nat
  tak : Nat
  nm : List Nat
def zeroR : Rn := ⟨0, 0, List.replicate 9 0⟩
def nmR (r : Rn) (q : Nat) : Nat := r.nm.getD q 0
def hasR (r : Rn) (q : Nat) : Bool := r.dom.testBit q
def addR (r : Rn) (s m : Nat) : Rn := ⟨sWith r.dom s, sWith r.tak m, r.nm.set s m⟩
def wnL (g : Rn → Nat → Nat → Option Rn) (T U : Tab) (s m : Nat) : Nat → Nat → Rn → Option Rn
  | 0, _, r => some r
  | c + 1, b, r => match g r (ld T b s) (ld U b m) with
    | none => none
    | some r' => wnL g T U s m c (b + 1) r'
def wn (T U : Tab) (k : Nat) : Nat → Rn → Nat → Nat → Option Rn
  | 0, _, _, _ => none
  | f + 1, r, s, m => if (hasR r s || r.tak.testBit m) = true then (if (hasR r s && nmR r s == m) = true then some r else none) else wnL (wn T U k f) T U s m k 0 (addR r s m)
def frS (d : Nat) : Nat := tzS (65535 - d)
theorem frS_D : ((List.range 512).all fun d => decide (frS d ≤ 9) && !d.testBit (frS d) && (List.range (frS d)).all fun j => d.testBit j) = true := by decide +kernel
theorem frS_ok {d : Nat} (h : d < 512) : d.testBit (frS d) = false ∧ ∀ j, j < frS d → d.testBit j = true := by
  have := List.all_eq_true.1 frS_D d (List.mem_range.2 h)
  rw [Bool.and_eq_true, Bool.and_eq_true, List.all_eq_true, Bool.not_eq_true'] at this
  exact ⟨this.1.2, fun j hj => this.2 j (List.mem_range.2 hj)⟩
def cc (T U : Tab) (k n : Nat) : Nat → Rn → Bool
  | 0, _ => false
  | f + 1, r => if frS r.dom = n then true else (List.range n).any fun m => match wn T U k 10 r (frS r.dom) m with
    | none => false
    | some r' => cc T U k n f r'
/-- A renaming of all states. -/
structure Iso (T U : Tab) (k n : Nat) (φ : Nat → Nat) : Prop where
  lt : ∀ q, q < n → φ q < n
  inj : ∀ p q, p < n → q < n → φ p = φ q → p = q
  com : ∀ b q, b < k → q < n → φ (ld T b q) = ld U b (φ q)
structure GoodR (n : Nat) (r : Rn) : Prop where
  dn : r.dom < 2 ^ n
  tn : r.tak < 2 ^ n
  len : r.nm.length = 9
  small : ∀ q, q < 9 → nmR r q < 9
  lt : ∀ q, q < n → hasR r q = true → nmR r q < n
  inj : ∀ p q, p < n → q < n → hasR r p = true → hasR r q = true → nmR r p = nmR r q → p = q
  tak : ∀ j, r.tak.testBit j = true ↔ ∃ q, q < n ∧ hasR r q = true ∧ nmR r q = j
def LeR (n : Nat) (r r' : Rn) : Prop := ∀ q, q < n → hasR r q = true → hasR r' q = true ∧ nmR r' q = nmR r q
theorem LeR.refl (n : Nat) (r : Rn) : LeR n r r := fun _ _ h => ⟨h, rfl⟩
theorem LeR.trans {n : Nat} {a b c : Rn} (h1 : LeR n a b) (h2 : LeR n b c) : LeR n a c := fun q hq h => by
  obtain ⟨h3, h4⟩ := h1 q hq h
  obtain ⟨h5, h6⟩ := h2 q hq h3
  exact ⟨h5, by rw [h6, h4]⟩
/-- The states without a name. -/
def unn (n : Nat) (r : Rn) : Nat := ((List.range n).filter fun q => !hasR r q).length
theorem unn_le {n : Nat} {r r' : Rn} (h : LeR n r r') : unn n r' ≤ unn n r := by
  unfold unn
  refine nd_sub ((List.nodup_range (n := n)).filter _) (fun q hq => ?_)
  obtain ⟨h1, h2⟩ := List.mem_filter.1 hq
  refine List.mem_filter.2 ⟨h1, ?_⟩
  cases e : hasR r q
  · rfl
  · rw [(h q (List.mem_range.1 h1) e).1] at h2; cases h2
theorem unn_lt {n s : Nat} {r r' : Rn} (h : LeR n r r') (hs : s < n) (h1 : hasR r s = false) (h2 : hasR r' s = true) : unn n r' < unn n r := by
  unfold unn
  have hm : s ∈ (List.range n).filter fun q => !hasR r q := List.mem_filter.2 ⟨List.mem_range.2 hs, by rw [h1]; rfl⟩
  have := nd_sub (l := (List.range n).filter fun q => !hasR r' q) (m := ((List.range n).filter fun q => !hasR r q).erase s) ((List.nodup_range (n := n)).filter _) (fun q hq => by
    obtain ⟨h3, h4⟩ := List.mem_filter.1 hq
    have hne : q ≠ s := by rintro rfl; rw [h2] at h4; cases h4
    refine (List.mem_erase_of_ne hne).2 (List.mem_filter.2 ⟨h3, ?_⟩)
    cases e : hasR r q
    · rfl
    · rw [(h q (List.mem_range.1 h3) e).1] at h4; cases h4)
  rw [List.length_erase_of_mem hm] at this
  have := List.length_pos_of_mem hm
  omega
theorem unn_n (n : Nat) (r : Rn) : unn n r ≤ n := by
  unfold unn; have := List.length_filter_le (fun q => !hasR r q) (List.range n); simpa using this
theorem has_add (r : Rn) (s m q : Nat) : hasR (addR r s m) q = (hasR r q || decide (s = q)) := by
  unfold hasR addR sWith; rw [Nat.testBit_or, Nat.testBit_two_pow]
theorem nm_add {r : Rn} {s m q : Nat} (hl : r.nm.length = 9) (hs : s < 9) : nmR (addR r s m) q = if s = q then m else nmR r q := by
  unfold nmR addR
  rw [List.getD_eq_getElem?_getD, List.getElem?_set, List.getD_eq_getElem?_getD]
  by_cases e : s = q
  · subst e; rw [if_pos rfl, if_pos (by omega), if_pos rfl]; rfl
  · rw [if_neg e, if_neg e]
theorem good_zero (n : Nat) : GoodR n zeroR := by
  refine ⟨Nat.two_pow_pos n, Nat.two_pow_pos n, rfl, fun q _ => ?_, fun q _ h => ?_, fun p q _ _ h => ?_, fun j => ⟨fun h => ?_, fun ⟨q, _, h, _⟩ => ?_⟩⟩
  · have : nmR zeroR q = 0 := by
      unfold nmR zeroR
      rw [List.getD_eq_getElem?_getD, List.getElem?_replicate]
      split <;> rfl
    omega
  all_goals (unfold hasR zeroR at *; simp at h)
theorem good_add {n : Nat} {r : Rn} (hn : n ≤ 9) (h : GoodR n r) {s m : Nat} (hs : s < n) (hm : m < n) (h1 : hasR r s = false) (h2 : r.tak.testBit m = false) : GoodR n (addR r s m) := by
  have hl := h.len
  have hnm := fun q => nm_add (r := r) (s := s) (m := m) (q := q) hl (by omega)
  refine ⟨Nat.or_lt_two_pow h.dn (Nat.pow_lt_pow_right (by decide) hs), Nat.or_lt_two_pow h.tn (Nat.pow_lt_pow_right (by decide) hm), by unfold addR; rw [List.length_set]; exact hl, fun q hq => ?_, fun q hq hh => ?_, fun p q hp hq hhp hhq e => ?_, fun j => ?_⟩
  · rw [hnm]; split
    · omega
    · exact h.small q hq
  · rw [hnm]; split
    · exact hm
    · rename_i e
      rw [has_add, decide_eq_false e, Bool.or_false] at hh
      exact h.lt q hq hh
  · rw [hnm, hnm] at e
    rw [has_add] at hhp hhq
    have key : ∀ x, x < n → hasR r x = true → nmR r x = m → False := fun x hx h3 h4 => by
      have := (h.tak m).2 ⟨x, hx, h3, h4⟩
      rw [h2] at this; cases this
    by_cases e1 : s = p
    · by_cases e2 : s = q
      · omega
      · rw [if_pos e1, if_neg e2] at e
        rw [decide_eq_false e2, Bool.or_false] at hhq
        exact absurd e.symm (fun h5 => key q hq hhq h5)
    · rw [decide_eq_false e1, Bool.or_false] at hhp
      by_cases e2 : s = q
      · rw [if_neg e1, if_pos e2] at e
        exact absurd e (fun h5 => key p hp hhp h5)
      · rw [if_neg e1, if_neg e2] at e
        rw [decide_eq_false e2, Bool.or_false] at hhq
        exact h.inj p q hp hq hhp hhq e
  · have e0 : (addR r s m).tak.testBit j = (r.tak.testBit j || decide (m = j)) := by unfold addR sWith; rw [Nat.testBit_or, Nat.testBit_two_pow]
    rw [e0, Bool.or_eq_true, decide_eq_true_eq]
    constructor
    · rintro (h3 | h3)
      · obtain ⟨q, hq, h4, h5⟩ := (h.tak j).1 h3
        refine ⟨q, hq, by rw [has_add, h4, Bool.true_or], ?_⟩
        rw [hnm, if_neg (fun e => by subst e; rw [h1] at h4; cases h4)]; exact h5
      · exact ⟨s, hs, by rw [has_add]; simp, by rw [hnm, if_pos rfl]; exact h3⟩
    · rintro ⟨q, hq, h4, h5⟩
      rw [hnm] at h5
      by_cases e : s = q
      · rw [if_pos e] at h5; exact .inr h5
      · rw [if_neg e] at h5
        rw [has_add, decide_eq_false e, Bool.or_false] at h4
        exact .inl ((h.tak j).2 ⟨q, hq, h4, h5⟩)
theorem le_add {n : Nat} {r : Rn} (hn : n ≤ 9) (h : GoodR n r) {s m : Nat} (hs : s < n) (h1 : hasR r s = false) : LeR n r (addR r s m) := fun q hq hh => by
  refine ⟨by rw [has_add, hh, Bool.true_or], ?_⟩
  rw [nm_add h.len (by omega), if_neg (fun e => by subst e; rw [h1] at hh; cases hh)]
def ClosedAt (T U : Tab) (_k : Nat) (r : Rn) (q : Nat) (c : Nat) : Prop := ∀ b, b < c → hasR r (ld T b q) = true ∧ nmR r (ld T b q) = ld U b (nmR r q)
theorem ClosedAt.up {T U : Tab} {k n : Nat} {r r' : Rn} {q c : Nat} (hT : ∀ b q, b < k → q < n → ld T b q < n) (h : ClosedAt T U k r q c) (hl : LeR n r r') (hq : q < n) (hc : c ≤ k) (hh : hasR r q = true) : ClosedAt T U k r' q c := fun b hb => by
  obtain ⟨h1, h2⟩ := h b hb
  obtain ⟨h3, h4⟩ := hl _ (hT b q (by omega) hq) h1
  exact ⟨h3, by rw [h4, h2, (hl q hq hh).2]⟩
/-- What a naming that fits gives. -/
structure WnS (T U : Tab) (k n : Nat) (r : Rn) (s m : Nat) (r' : Rn) : Prop where
  good : GoodR n r'
  le : LeR n r r'
  has : hasR r' s = true
  nm : nmR r' s = m
  cl : ∀ q, q < n → hasR r' q = true → hasR r q = false → ClosedAt T U k r' q k
variable {T U : Tab} {k n : Nat}
theorem wnL_sound (hT : ∀ b q, b < k → q < n → ld T b q < n) (hU : ∀ b q, b < k → q < n → ld U b q < n) {g : Rn → Nat → Nat → Option Rn} (hg : ∀ r s m r', GoodR n r → s < n → m < n → g r s m = some r' → WnS T U k n r s m r') {r0 : Rn} {s m : Nat} (hs : s < n) (hm : m < n) :
    ∀ (c b : Nat) (r r' : Rn), b + c = k → GoodR n r → LeR n r0 r → hasR r s = true → nmR r s = m → ClosedAt T U k r s b → (∀ q, q < n → q ≠ s → hasR r q = true → hasR r0 q = false → ClosedAt T U k r q k) → wnL g T U s m c b r = some r' →
      GoodR n r' ∧ LeR n r r' ∧ ClosedAt T U k r' s k ∧ (∀ q, q < n → q ≠ s → hasR r' q = true → hasR r0 q = false → ClosedAt T U k r' q k)
  | 0, b, r, r', hb, hG, h0, hh, hnm, hc, hcl, e => by
    have : r = r' := by simpa [wnL] using e
    subst this
    obtain rfl : b = k := by omega
    exact ⟨hG, LeR.refl n r, hc, hcl⟩
  | c + 1, b, r, r', hb, hG, h0, hh, hnm, hc, hcl, e => by
    unfold wnL at e
    rcases e1 : g r (ld T b s) (ld U b m) with _ | r1
    · rw [e1] at e; cases e
    · rw [e1] at e
      have hw := hg r _ _ r1 hG (hT b s (by omega) hs) (hU b m (by omega) hm) e1
      have h1 := hw.le s hs hh
      have hc1 : ClosedAt T U k r1 s (b + 1) := fun d hd => by
        by_cases ed : d = b
        · subst ed
          exact ⟨hw.has, by rw [hw.nm, h1.2, hnm]⟩
        · exact (hc.up hT hw.le hs (by omega) hh) d (by omega)
      obtain ⟨a1, a2, a3, a4⟩ := wnL_sound hT hU hg hs hm c (b + 1) r1 r' (by omega) hw.good (h0.trans hw.le) h1.1 (by rw [h1.2, hnm]) hc1 (fun q hq hqs hq1 hq0 => by
        cases e2 : hasR r q
        · exact hw.cl q hq hq1 e2
        · exact (hcl q hq hqs e2 hq0).up hT hw.le hq (Nat.le_refl _) e2) e
      exact ⟨a1, hw.le.trans a2, a3, a4⟩
theorem wn_sound (hn : n ≤ 9) (hT : ∀ b q, b < k → q < n → ld T b q < n) (hU : ∀ b q, b < k → q < n → ld U b q < n) : ∀ (f : Nat) (r : Rn) (s m : Nat) (r' : Rn), GoodR n r → s < n → m < n → wn T U k f r s m = some r' → WnS T U k n r s m r'
  | 0, r, s, m, r', _, _, _, e => by cases e
  | f + 1, r, s, m, r', hG, hs, hm, e => by
    unfold wn at e
    by_cases h : (hasR r s || r.tak.testBit m) = true
    · rw [if_pos h] at e
      by_cases h2 : (hasR r s && nmR r s == m) = true
      · rw [if_pos h2] at e
        have : r = r' := by simpa using e
        subst this
        rw [Bool.and_eq_true, beq_iff_eq] at h2
        exact ⟨hG, LeR.refl n r, h2.1, h2.2, fun q _ h3 h4 => by rw [h3] at h4; cases h4⟩
      · rw [if_neg h2] at e; cases e
    · rw [if_neg h] at e
      have h1 : hasR r s = false := by cases e1 : hasR r s with
        | false => rfl
        | true => exact absurd (by rw [e1]; rfl) h
      have h2 : r.tak.testBit m = false := by cases e1 : r.tak.testBit m with
        | false => rfl
        | true => exact absurd (by rw [e1, Bool.or_true]) h
      have hGA := good_add hn hG hs hm h1 h2
      have hA1 : hasR (addR r s m) s = true := by rw [has_add]; simp
      have hA2 : nmR (addR r s m) s = m := by rw [nm_add hG.len (by omega), if_pos rfl]
      have hle := le_add (m := m) hn hG hs h1
      obtain ⟨a1, a2, a3, a4⟩ := wnL_sound hT hU (wn_sound hn hT hU f) (r0 := r) hs hm k 0 (addR r s m) r' (by omega) hGA hle hA1 hA2 (fun b hb => absurd hb (by omega)) (fun q hq hqs h3 h4 => by
        rw [has_add, h4, Bool.false_or, decide_eq_true_eq] at h3
        exact absurd h3.symm hqs) e
      have h5 := a2 s hs hA1
      refine ⟨a1, hle.trans a2, h5.1, by rw [h5.2, hA2], fun q hq h6 h7 => ?_⟩
      by_cases e2 : q = s
      · subst e2; exact a3
      · exact a4 q hq e2 h6 h7
/-- A renaming that extends the names is kept. -/
def ExtR (n : Nat) (φ : Nat → Nat) (r : Rn) : Prop := ∀ q, q < n → hasR r q = true → nmR r q = φ q
theorem wnL_keep {φ : Nat → Nat} (hφ : Iso T U k n φ) (hT : ∀ b q, b < k → q < n → ld T b q < n) {f : Nat} {g : Rn → Nat → Nat → Option Rn} (hg : ∀ r s, GoodR n r → ExtR n φ r → s < n → unn n r < f → ∃ r', g r s (φ s) = some r' ∧ GoodR n r' ∧ ExtR n φ r' ∧ LeR n r r') {s : Nat} (hs : s < n) :
    ∀ (c b : Nat) (r : Rn), b + c = k → GoodR n r → ExtR n φ r → unn n r < f → ∃ r', wnL g T U s (φ s) c b r = some r' ∧ GoodR n r' ∧ ExtR n φ r' ∧ LeR n r r'
  | 0, b, r, _, hG, hE, _ => ⟨r, rfl, hG, hE, LeR.refl n r⟩
  | c + 1, b, r, hb, hG, hE, hu => by
    obtain ⟨r1, e1, g1, x1, l1⟩ := hg r (ld T b s) hG hE (hT b s (by omega) hs) hu
    rw [hφ.com b s (by omega) hs] at e1
    obtain ⟨r2, e2, g2, x2, l2⟩ := wnL_keep hφ hT hg hs c (b + 1) r1 (by omega) g1 x1 (Nat.lt_of_le_of_lt (unn_le l1) hu)
    refine ⟨r2, ?_, g2, x2, l1.trans l2⟩
    unfold wnL
    rw [e1]; exact e2
theorem wn_keep {φ : Nat → Nat} (hn : n ≤ 9) (hφ : Iso T U k n φ) (hT : ∀ b q, b < k → q < n → ld T b q < n) : ∀ (f : Nat) (r : Rn) (s : Nat), GoodR n r → ExtR n φ r → s < n → unn n r < f → ∃ r', wn T U k f r s (φ s) = some r' ∧ GoodR n r' ∧ ExtR n φ r' ∧ LeR n r r'
  | 0, _, _, _, _, _, h => by omega
  | f + 1, r, s, hG, hE, hs, hu => by
    unfold wn
    cases h1 : hasR r s with
    | true =>
      rw [if_pos (by rw [Bool.true_or]), if_pos (by rw [Bool.true_and, beq_iff_eq]; exact hE s hs h1)]
      exact ⟨r, rfl, hG, hE, LeR.refl n r⟩
    | false =>
      have h2 : r.tak.testBit (φ s) = false := by
        cases e : r.tak.testBit (φ s) with
        | false => rfl
        | true =>
          obtain ⟨q, hq, h3, h4⟩ := (hG.tak _).1 e
          have h5 := hφ.inj q s hq hs (by rw [← hE q hq h3, h4])
          subst h5
          rw [h1] at h3; cases h3
      rw [h2, if_neg (by decide)]
      have hle := le_add (m := φ s) hn hG hs h1
      have hGA := good_add hn hG hs (hφ.lt s hs) h1 h2
      have hEA : ExtR n φ (addR r s (φ s)) := fun q hq h3 => by
        rw [nm_add hG.len (by omega)]
        by_cases e : s = q
        · rw [if_pos e, e]
        · rw [if_neg e]
          rw [has_add, decide_eq_false e, Bool.or_false] at h3
          exact hE q hq h3
      have hlt := unn_lt hle hs h1 (show hasR (addR r s (φ s)) s = true by rw [has_add]; simp)
      obtain ⟨r', e, a1, a2, a3⟩ := wnL_keep hφ hT (wn_keep hn hφ hT f) hs k 0 (addR r s (φ s)) (by omega) hGA hEA (by omega)
      exact ⟨r', e, a1, a2, hle.trans a3⟩
def ClosedR (T U : Tab) (k n : Nat) (r : Rn) : Prop := ∀ q, q < n → hasR r q = true → ClosedAt T U k r q k
theorem cc_iff (hn : n ≤ 9) (hT : ∀ b q, b < k → q < n → ld T b q < n) (hU : ∀ b q, b < k → q < n → ld U b q < n) : ∀ (f : Nat) (r : Rn), GoodR n r → ClosedR T U k n r → unn n r < f → (cc T U k n f r = true ↔ ∃ φ, Iso T U k n φ ∧ ExtR n φ r)
  | 0, _, _, _, h => by omega
  | f + 1, r, hG, hC, hu => by
    have hd : r.dom < 512 := Nat.lt_of_lt_of_le hG.dn (Nat.pow_le_pow_right (by decide) hn)
    obtain ⟨f1, f2⟩ := frS_ok hd
    have hfn : frS r.dom ≤ n := by
      rcases Nat.lt_or_ge n (frS r.dom) with h | h
      · have := f2 n h
        rw [Nat.testBit_lt_two_pow hG.dn] at this; cases this
      · exact h
    unfold cc
    by_cases hs : frS r.dom = n
    · rw [if_pos hs]
      refine ⟨fun _ => ⟨nmR r, ⟨fun q hq => hG.lt q hq (f2 q (by omega)), fun p q hp hq e => hG.inj p q hp hq (f2 p (by omega)) (f2 q (by omega)) e, fun b q hb hq => (hC q hq (f2 q (by omega)) b hb).2⟩, fun q _ _ => rfl⟩, fun _ => rfl⟩
    · rw [if_neg hs]
      have hsn : frS r.dom < n := by omega
      rw [List.any_eq_true]
      constructor
      · rintro ⟨m, hm, e⟩
        have hm := List.mem_range.1 hm
        rcases e1 : wn T U k 10 r (frS r.dom) m with _ | r1
        · rw [e1] at e; cases e
        · rw [e1] at e
          have hw := wn_sound hn hT hU 10 r _ m r1 hG hsn hm e1
          have hC1 : ClosedR T U k n r1 := fun q hq h3 => by
            cases h4 : hasR r q with
            | false => exact hw.cl q hq h3 h4
            | true => exact (hC q hq h4).up hT hw.le hq (Nat.le_refl _) h4
          have hlt := unn_lt hw.le hsn f1 hw.has
          obtain ⟨φ, h5, h6⟩ := (cc_iff hn hT hU f r1 hw.good hC1 (by omega)).1 e
          refine ⟨φ, h5, fun q hq h7 => ?_⟩
          obtain ⟨h8, h9⟩ := hw.le q hq h7
          rw [← h9]; exact h6 q hq h8
      · rintro ⟨φ, h5, h6⟩
        refine ⟨φ (frS r.dom), List.mem_range.2 (h5.lt _ hsn), ?_⟩
        obtain ⟨r1, e1, g1, x1, l1⟩ := wn_keep hn h5 hT 10 r (frS r.dom) hG h6 hsn (by have := unn_n n r; omega)
        rw [e1]
        have hw := wn_sound hn hT hU 10 r _ _ r1 hG hsn (h5.lt _ hsn) e1
        have hC1 : ClosedR T U k n r1 := fun q hq h3 => by
          cases h4 : hasR r q with
          | false => exact hw.cl q hq h3 h4
          | true => exact (hC q hq h4).up hT hw.le hq (Nat.le_refl _) h4
        have hlt := unn_lt hw.le hsn f1 hw.has
        exact (cc_iff hn hT hU f r1 g1 hC1 (by omega)).2 ⟨φ, h5, x1⟩
end Go.Proofs.YtignbpipdfjkeaaDoor
