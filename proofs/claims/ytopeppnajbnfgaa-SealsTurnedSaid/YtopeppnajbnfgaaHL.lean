/- The reference's halves: the same counts. -/
import Derived.Test.YtopeppnajbnfgaaHK
namespace Go.Proofs.Ytopeppnajbnfgaa
open Go.RowKit
set_option maxHeartbeats 1000000
set_option maxRecDepth 100000
/-- From this place on, so many seals are half of all. -/
def pr (s : ByteArray) (m a : Nat) : Bool := decide (subL (sumL s (a + m)) (halfL (sumL s s.size)) = sumL s a)
def cntA (s : ByteArray) (m : Nat) : Nat → Nat
  | 0 => 0
  | a + 1 => cntA s m a + if pr s m a then 1 else 0
theorem cntA_le (s : ByteArray) (m : Nat) : ∀ a, cntA s m a ≤ a
  | 0 => Nat.le_refl _
  | a + 1 => by
    have := cntA_le s m a
    simp only [cntA]
    split <;> omega
theorem hlvL_at {s : ByteArray} (hs : s.size ≤ 24) (ho : ∀ i, i < s.size → okC s i) {m : Nat} (hm : m ≤ s.size) : ∀ k, k ≤ s.size + 1 → geti (hlvL s k) m = (cntA s m (k - m) : Nat)
  | 0, _ => by
    have h0 : geti (hlvL s 0) m = 0 := by
      have := hlvL_rng s 0 m
      omega
    rw [h0, Nat.zero_sub]; rfl
  | k + 1, hk => by
    have ih := hlvL_at hs ho hm k (by omega)
    show geti (stepH s (hlvL s k) k) m = _
    unfold stepH halfS
    have hlen := hlvL_len s k
    cases hf : findP s (k + 1) (subL (sumL s k) (halfL (sumL s s.size))) with
    | none =>
      have hn := findP_none hf
      show geti (hlvL s k) m = _
      rw [ih]
      rcases Nat.lt_or_ge k m with h | h
      · rw [show k + 1 - m = k - m by omega]
      · rw [show k + 1 - m = (k - m) + 1 by omega]
        simp only [cntA]
        have : pr s m (k - m) = false := decide_eq_false fun e => by
          rw [show k - m + m = k by omega] at e
          exact hn (k - m) (by omega) e.symm
        rw [this]; simp
    | some j =>
      obtain ⟨hj, hj2⟩ := findP_some hf
      show geti ((hlvL s k).set (k - j) (geti (hlvL s k) (k - j) + 1)) m = _
      rw [geti_put]
      rcases Nat.lt_or_ge k m with h | h
      · rw [if_neg (by omega), ih, show k + 1 - m = k - m by omega]
      · rw [show k + 1 - m = (k - m) + 1 by omega]
        simp only [cntA]
        by_cases e : k - j = m
        · have : pr s m (k - m) = true := decide_eq_true (by rw [show k - m + m = k by omega, show k - m = j by omega]; exact hj2.symm)
          rw [if_pos ⟨e, by omega⟩, e, ih, this]; simp
        · have : pr s m (k - m) = false := decide_eq_false fun e2 => by
            rw [show k - m + m = k by omega] at e2
            have := sumL_inj ho (p := k - m) (q := j) (by omega) (by omega) (by rw [← e2, hj2])
            omega
          rw [if_neg (fun hh => e hh.1), ih, this]; simp
theorem hlvL_all {s : ByteArray} (hs : s.size ≤ 24) (ho : ∀ i, i < s.size → okC s i) {xs : List Int} (hl : xs.length = s.size + 1) (h : ∀ m, m ≤ s.size → geti xs m = (cntA s m (s.size + 1 - m) : Nat)) : xs = hlvL s (s.size + 1) := by
  refine ext_geti (by rw [hl, hlvL_len]) fun i hi => ?_
  rw [h i (by omega), hlvL_at hs ho (by omega) _ (Nat.le_refl _)]
theorem pr_iff {s : ByteArray} {m a : Nat} (h : a + m ≤ s.size) : decide (sumL (s.extract a (a + m)) (s.extract a (a + m)).size = halfL (sumL s s.size)) = pr s m a := by
  refine decide_eq_decide.2 ?_
  have ht := fun c => tot_ext (s := s) (f := a) (e := a + m) (by omega) h c
  unfold tot at ht
  constructor
  · intro h1
    refine ext_geti rfl fun c hc => ?_
    have hc4 : c < 4 := hc
    have h2 : geti (sumL (s.extract a (a + m)) (s.extract a (a + m)).size) c = geti (halfL (sumL s s.size)) c := by rw [h1]
    rw [sumL_at _ _ hc4, ht c] at h2
    rw [subL_at (by exact hc4) (by exact hc4), sumL_at s _ hc4, sumL_at s _ hc4, ← h2]; omega
  · intro h1
    refine ext_geti rfl fun c hc => ?_
    have hc4 : c < 4 := hc
    have h2 : geti (subL (sumL s (a + m)) (halfL (sumL s s.size))) c = geti (sumL s a) c := by rw [h1]
    rw [subL_at (by exact hc4) (by exact hc4), sumL_at s _ hc4, sumL_at s _ hc4] at h2
    rw [sumL_at _ _ hc4, ht c]; omega
end Go.Proofs.Ytopeppnajbnfgaa
