/- SealsHalves: the counting. -/
import Derived.Test.YtopeppnajbnfgaaHM
import Derived.Test.YtopeppnajbnfgaaGF
namespace Go.Proofs.Ytopeppnajbnfgaa
open Go.RowKit
set_option maxHeartbeats 1000000
set_option maxRecDepth 100000
theorem half_sum {s : ByteArray} (ho : ∀ i, i < s.size → okC s i) (hev : evV s = true) : s.size = 2 * (s.size / 2) ∧ cnt s s.size 0 / 2 + cnt s s.size 1 / 2 + cnt s s.size 2 / 2 + cnt s s.size 3 / 2 = ((s.size / 2 : Nat) : Int) := by
  have h := cnt_all ho s.size (Nat.le_refl _)
  have e := (evV_iff s).1 hev
  have e0 := e 0 (by omega); have e1 := e 1 (by omega); have e2 := e 2 (by omega); have e3 := e 3 (by omega)
  omega
/-- Half of all seals, letter by letter, from one place to another. -/
theorem pr_cnt {s : ByteArray} {m a : Nat} : pr s m a = true ↔ ∀ c, c < 4 → cnt s (a + m) c - cnt s s.size c / 2 = cnt s a c := by
  unfold pr
  rw [decide_eq_true_iff]
  constructor
  · intro h c hc
    have h2 : geti (subL (sumL s (a + m)) (halfL (sumL s s.size))) c = geti (sumL s a) c := by rw [h]
    rwa [subL_at (by exact hc) (by exact hc), sumL_at s _ hc, sumL_at s _ hc, halfS_at s _ hc] at h2
  · intro h
    refine ext_geti rfl fun c hc => ?_
    have hc4 : c < 4 := hc
    rw [subL_at (by exact hc4) (by exact hc4), sumL_at s _ hc4, sumL_at s _ hc4, halfS_at s _ hc4]
    exact h c hc4
theorem pr_half {s : ByteArray} (ho : ∀ i, i < s.size → okC s i) (hev : evV s = true) {m a : Nat} (h : a + m ≤ s.size) (hp : pr s m a = true) : m = s.size / 2 := by
  have h1 := pr_cnt.1 hp
  have h2 := cnt_all ho (a + m) h
  have h3 := cnt_all ho a (by omega)
  have h4 := half_sum ho hev
  have e0 := h1 0 (by omega); have e1 := h1 1 (by omega); have e2 := h1 2 (by omega); have e3 := h1 3 (by omega)
  omega
theorem cntA_zero {s : ByteArray} (ho : ∀ i, i < s.size → okC s i) (hev : evV s = true) {m : Nat} (hm : m ≠ s.size / 2) : ∀ a, a + m ≤ s.size + 1 → cntA s m a = 0
  | 0, _ => rfl
  | a + 1, h => by
    have ih := cntA_zero ho hev hm a (by omega)
    have : pr s m a = false := by
      cases hp : pr s m a
      · rfl
      · exact absurd (pr_half ho hev (by omega) hp) hm
    simp only [cntA, this, ih]; rfl
/-- One cut is fair only in the middle; two are so only half of the chain apart. -/
theorem fair_one {s : ByteArray} (ho : ∀ i, i < s.size → okC s i) (hev : evV s = true) {p : Nat} (hp : p ≤ s.size) : fairV s [(p : Int)] = (decide (p = s.size / 2) && pr s (s.size / 2) 0) := by
  have hP : Pad s.size 1 [(p : Int)] p s.size s.size s.size := ⟨hp, Nat.le_refl _, Nat.le_refl _, Nat.le_refl _, rfl, fun h => by omega, fun _ => rfl, fun _ => rfl, fun _ => rfl⟩
  have hf := fair_pad (by omega) hP
  have e := (evV_iff s).1 hev
  rw [Bool.eq_iff_iff, hf, Bool.and_eq_true, decide_eq_true_iff]
  constructor
  · intro h
    have hpr : pr s p 0 = true := pr_cnt.2 fun c hc => by
      have h1 := h c hc
      have h2 := e c hc
      rw [Nat.zero_add]
      show _ = (0 : Int)
      omega
    have := pr_half ho hev (by omega) hpr
    exact ⟨this, this ▸ hpr⟩
  · rintro ⟨rfl, h⟩ c hc
    have h1 := pr_cnt.1 h c hc
    have h2 := e c hc
    rw [Nat.zero_add] at h1
    have h3 : cnt s 0 c = 0 := rfl
    omega
theorem fair_two {s : ByteArray} (ho : ∀ i, i < s.size → okC s i) (hev : evV s = true) {p q : Nat} (hpq : p ≤ q) (hq : q ≤ s.size) : fairV s [(p : Int), (q : Int)] = (decide (q = p + s.size / 2) && pr s (s.size / 2) p) := by
  have hP : Pad s.size 2 [(p : Int), (q : Int)] p q s.size s.size := ⟨hpq, hq, Nat.le_refl _, Nat.le_refl _, rfl, fun h => by omega, fun h => by omega, fun _ => rfl, fun _ => rfl⟩
  have hf := fair_pad (by omega) hP
  have e := (evV_iff s).1 hev
  rw [Bool.eq_iff_iff, hf, Bool.and_eq_true, decide_eq_true_iff]
  constructor
  · intro h
    have hpr : pr s (q - p) p = true := pr_cnt.2 fun c hc => by
      have h1 := h c hc
      rw [show p + (q - p) = q by omega]
      omega
    have := pr_half ho hev (by omega) hpr
    exact ⟨by omega, this ▸ hpr⟩
  · rintro ⟨rfl, h⟩ c hc
    have h1 := pr_cnt.1 h c hc
    omega
def bn (b : Bool) : Nat := if b then 1 else 0
theorem wL_zero (s : ByteArray) (p : List Int) (f : Nat) : wL s 0 p f = bn (fairV s p) := by
  unfold wL bn
  show ([p].filter (fairV s)).length = _
  cases h : fairV s p <;> simp [h]
theorem one_T {s : ByteArray} (ho : ∀ i, i < s.size → okC s i) (hev : evV s = true) (h0 : 1 ≤ s.size / 2) : ∀ q, q + 1 ≤ s.size → wT s 0 [] 1 q = if s.size / 2 ≤ q then bn (pr s (s.size / 2) 0) else 0
  | 0, _ => by rw [if_neg (by omega)]; rfl
  | q + 1, hq => by
    have ih := one_T ho hev h0 q (by omega)
    have hn := wT_next (s := s) (m := 0) (p := []) (f := 1) (q := q + 1) (by omega)
    rw [show q + 1 + 1 - 1 = q + 1 by omega, show q + 1 - 1 = q by omega] at hn
    rw [hn, ih, wL_zero]
    show _ + bn (fairV s [((q + 1 : Nat) : Int)]) = _
    rw [fair_one ho hev (by omega)]
    rcases Nat.lt_trichotomy (q + 1) (s.size / 2) with h | h | h
    · rw [if_neg (by omega), if_neg (by omega), decide_eq_false (by omega)]; rfl
    · rw [if_neg (by omega), if_pos (by omega), decide_eq_true h, Bool.true_and]; omega
    · rw [if_pos (by omega), if_pos (by omega), decide_eq_false (by omega)]; rfl
theorem ways_one {s : ByteArray} (ho : ∀ i, i < s.size → okC s i) (hev : evV s = true) (h0 : 1 ≤ s.size / 2) : wL s 1 [] 1 = bn (pr s (s.size / 2) 0) := by
  have h := one_T ho hev h0 (s.size - 1) (by omega)
  have hh := (half_sum ho hev).1
  rw [if_pos (by omega)] at h
  exact h
theorem two_U {s : ByteArray} (ho : ∀ i, i < s.size → okC s i) (hev : evV s = true) (h0 : 1 ≤ s.size / 2) (p : Nat) : ∀ r, p + 1 + r ≤ s.size → wT s 0 [(p : Int)] (p + 1) r = if s.size / 2 ≤ r then bn (pr s (s.size / 2) p) else 0
  | 0, _ => by rw [if_neg (by omega)]; rfl
  | r + 1, hr => by
    have ih := two_U ho hev h0 p r (by omega)
    have hn := wT_next (s := s) (m := 0) (p := [(p : Int)]) (f := p + 1) (q := p + 1 + r) (by omega)
    rw [show p + 1 + r + 1 - (p + 1) = r + 1 by omega, show p + 1 + r - (p + 1) = r by omega] at hn
    rw [hn, ih, wL_zero]
    show _ + bn (fairV s [(p : Int), ((p + 1 + r : Nat) : Int)]) = _
    rw [fair_two ho hev (by omega) (by omega)]
    rcases Nat.lt_trichotomy (r + 1) (s.size / 2) with h | h | h
    · rw [if_neg (by omega), if_neg (by omega), decide_eq_false (by omega)]; rfl
    · rw [if_neg (by omega), if_pos (by omega), decide_eq_true (by omega), Bool.true_and]; omega
    · rw [if_pos (by omega), if_pos (by omega), decide_eq_false (by omega)]; rfl
theorem two_T {s : ByteArray} (ho : ∀ i, i < s.size → okC s i) (hev : evV s = true) (h0 : 1 ≤ s.size / 2) : ∀ q, q + 1 ≤ s.size → wT s 1 [] 1 q + bn (pr s (s.size / 2) 0) = cntA s (s.size / 2) (min (q + 1) (s.size / 2))
  | 0, _ => by
    rw [show min (0 + 1) (s.size / 2) = 0 + 1 by omega]
    show 0 + _ = 0 + _
    rfl
  | q + 1, hq => by
    have ih := two_T ho hev h0 q (by omega)
    have hh := (half_sum ho hev).1
    have hn := wT_next (s := s) (m := 1) (p := []) (f := 1) (q := q + 1) (by omega)
    rw [show q + 1 + 1 - 1 = q + 1 by omega, show q + 1 - 1 = q by omega] at hn
    have hu := two_U ho hev h0 (q + 1) (s.size - (q + 1 + 1)) (by omega)
    have e : wL s 1 ([] ++ [((q + 1 : Nat) : Int)]) (q + 1 + 1) = wT s 0 [((q + 1 : Nat) : Int)] (q + 1 + 1) (s.size - (q + 1 + 1)) := rfl
    rw [hn, e, hu]
    rcases Nat.lt_or_ge (q + 1) (s.size / 2) with h | h
    · rw [if_pos (by omega), show min (q + 1 + 1) (s.size / 2) = (q + 1) + 1 by omega]
      rw [show min (q + 1) (s.size / 2) = q + 1 by omega] at ih
      show _ = cntA s (s.size / 2) (q + 1) + bn (pr s (s.size / 2) (q + 1))
      omega
    · rw [if_neg (by omega), show min (q + 1 + 1) (s.size / 2) = s.size / 2 by omega]
      rw [show min (q + 1) (s.size / 2) = s.size / 2 by omega] at ih
      omega
theorem pr_ends {s : ByteArray} (ho : ∀ i, i < s.size → okC s i) (hev : evV s = true) : pr s (s.size / 2) (s.size / 2) = pr s (s.size / 2) 0 := by
  have hh := (half_sum ho hev).1
  have e := (evV_iff s).1 hev
  rw [Bool.eq_iff_iff, pr_cnt, pr_cnt]
  refine forall_congr' fun c => forall_congr' fun hc => ?_
  have h2 := e c hc
  rw [show s.size / 2 + s.size / 2 = s.size by omega, Nat.zero_add]
  have h3 : cnt s 0 c = 0 := rfl
  omega
theorem halves_count {s : ByteArray} (ho : ∀ i, i < s.size → okC s i) (hev : evV s = true) (h0 : 1 ≤ s.size / 2) : cntA s (s.size / 2) (s.size / 2 + 1) = wL s 2 [] 1 + 2 * wL s 1 [] 1 := by
  have hh := (half_sum ho hev).1
  have h1 := ways_one ho hev h0
  have h2 := two_T ho hev h0 (s.size - 1) (by omega)
  rw [show min (s.size - 1 + 1) (s.size / 2) = s.size / 2 by omega] at h2
  have e : wL s 2 [] 1 = wT s 1 [] 1 (s.size - 1) := rfl
  have e2 : cntA s (s.size / 2) (s.size / 2 + 1) = cntA s (s.size / 2) (s.size / 2) + bn (pr s (s.size / 2) (s.size / 2)) := rfl
  rw [e2, pr_ends ho hev, e, h1]
  omega
end Go.Proofs.Ytopeppnajbnfgaa
