/- Sums over sets of vertices: a set from which nothing can be given away is denser. -/
import Derived.Test.YtmfpegadcecknaaAL
namespace Go.Proofs.Ytmfpegadcecknaa
set_option maxHeartbeats 400000
theorem sumN_s (n : Nat) (f : Nat → Int) : sumN (n + 1) f = sumN n f + f n := rfl
theorem sumN_add (f g : Nat → Int) : ∀ n, sumN n (fun i => f i + g i) = sumN n f + sumN n g
  | 0 => rfl
  | n + 1 => by rw [sumN_s, sumN_s, sumN_s, sumN_add f g n]; omega
theorem sumN_mul (c : Int) (f : Nat → Int) : ∀ n, sumN n (fun i => c * f i) = c * sumN n f
  | 0 => by simp [sumN]
  | n + 1 => by rw [sumN_s, sumN_s, sumN_mul c f n, Int.mul_add]
theorem sumN_zero : ∀ n, sumN n (fun _ => 0) = 0
  | 0 => rfl
  | n + 1 => by unfold sumN; rw [sumN_zero n]; rfl
theorem sumN_swap (f : Nat → Nat → Int) (m : Nat) : ∀ n, sumN n (fun i => sumN m (f i)) = sumN m (fun j => sumN n (fun i => f i j))
  | 0 => (sumN_zero m).symm
  | n + 1 => by
    show sumN n (fun i => sumN m (f i)) + sumN m (f n) = _
    rw [sumN_swap f m n, ← sumN_add]; rfl
theorem sum_upTo (s : Nat) (f : Nat → Nat) : ∀ k, (((upTo s k).map f).sum : Int) = sumN k (fun v => if sHas s v = true then (f v : Int) else 0)
  | 0 => by simp [upTo, sumN]
  | k + 1 => by
    rw [sumN_s]
    cases h : sHas s k
    · rw [upTo_no h, sum_upTo s f k, if_neg (by simp)]; omega
    · rw [upTo_yes h, List.map_append, List.sum_append, if_pos rfl]
      have := sum_upTo s f k
      simp only [List.map_cons, List.map_nil, List.sum_cons, List.sum_nil]
      omega
theorem sum_ms (s : Nat) (f : Nat → Nat) : (((ms s).map f).sum : Int) = sumN 16 (fun v => if sHas s v = true then (f v : Int) else 0) := sum_upTo s f 16
theorem pc_sum (s : Nat) : (pc 16 s : Int) = sumN 16 (fun v => if sHas s v = true then 1 else 0) := by
  have h := sum_ms s (fun _ => 1)
  have e : ((ms s).map (fun _ => 1)).sum = pc 16 s := by
    unfold pc ms sHas; rw [List.map_const', List.sum_replicate_nat]; simp
  rw [e] at h; rw [h]; rfl
theorem sumN_lt {f g : Nat → Int} : ∀ n, (∀ i, i < n → f i ≤ g i) → ∀ k, k < n → f k < g k → sumN n f < sumN n g
  | 0, _, k, hk, _ => absurd hk (by omega)
  | n + 1, h, k, hk, hl => by
    unfold sumN
    by_cases e : k = n
    · subst e
      have : sumN k f ≤ sumN k g := by
        have := sumN_nn (f := fun i => g i - f i) k (fun i hi => by have := h i (by omega); omega)
        have e2 : sumN k (fun i => g i - f i) = sumN k g + sumN k (fun i => (-1) * f i) := by rw [← sumN_add]; exact sumN_congr k (fun i _ => by omega)
        rw [e2, sumN_mul] at this; omega
      omega
    · have := sumN_lt n (fun i hi => h i (by omega)) k (by omega) hl
      have := h n (by omega); omega
/-- The load of a closed set is that of the edges inside it. -/
theorem Spread.closed {gs : List Nat} {pcs : Int} {H : Nat → Nat → Int} {L : Nat → Int} (s : Spread gs pcs H L) (hsym : ∀ u v, sHas (near gs u) v = sHas (near gs v) u) {R : Nat}
    (hc : ∀ v, v < 16 → sHas R v = true → ∀ u, u < 16 → sHas (near gs v) u = true → H v u ≠ 0 → sHas R u = true) :
    2 * sumN 16 (fun v => if sHas R v = true then L v else 0) = pcs * (endsOf gs R (ms R) : Int) := by
  have h1 : sumN 16 (fun v => if sHas R v = true then L v else 0) = sumN 16 (fun v => sumN 16 (fun u => if sHas R v = true ∧ sHas R u = true then H v u else 0)) := by
    refine sumN_congr 16 (fun v hv => ?_)
    by_cases e : sHas R v = true
    · rw [if_pos e, s.load v hv]; unfold outF
      refine sumN_congr 16 (fun u hu => ?_)
      by_cases e2 : sHas R u = true
      · rw [if_pos ⟨e, e2⟩]
      · rw [if_neg (fun h => e2 h.2)]
        cases hn : sHas (near gs v) u
        · exact s.no v u hv hu hn
        · exact Decidable.byContradiction fun h0 => e2 (hc v hv e u hu hn h0)
    · rw [if_neg e]
      exact ((sumN_congr 16 (fun u _ => if_neg (fun h => e h.1))).trans (sumN_zero 16)).symm
  have h2 : sumN 16 (fun v => sumN 16 (fun u => if sHas R v = true ∧ sHas R u = true then H v u else 0)) = sumN 16 (fun v => sumN 16 (fun u => if sHas R v = true ∧ sHas R u = true then H u v else 0)) := by
    rw [sumN_swap]
    refine sumN_congr 16 (fun v _ => sumN_congr 16 (fun u _ => ?_))
    by_cases e : sHas R v = true ∧ sHas R u = true
    · rw [if_pos e, if_pos ⟨e.2, e.1⟩]
    · rw [if_neg e, if_neg (fun h => e ⟨h.2, h.1⟩)]
  have h3 : (endsOf gs R (ms R) : Int) = sumN 16 (fun v => sumN 16 (fun u => if sHas R v = true ∧ sHas R u = true ∧ sHas (near gs v) u = true then 1 else 0)) := by
    unfold endsOf
    rw [sum_ms]
    refine sumN_congr 16 (fun v hv => ?_)
    by_cases e : sHas R v = true
    · rw [if_pos e, pc_sum]
      refine sumN_congr 16 (fun u hu => ?_)
      have hb : sHas (sAnd (near gs v) R) u = ((near gs v).testBit u && R.testBit u) := sAnd_bit _ _ _
      rw [hb]
      unfold sHas at *
      by_cases e1 : R.testBit u = true <;> by_cases e2 : (near gs v).testBit u = true <;> simp [e, e1, e2]
    · rw [if_neg e]
      exact ((sumN_congr 16 (fun u _ => if_neg (fun h => e h.1))).trans (sumN_zero 16)).symm
  have h4 : 2 * sumN 16 (fun v => if sHas R v = true then L v else 0) = sumN 16 (fun v => sumN 16 (fun u => if sHas R v = true ∧ sHas R u = true then H v u else 0)) + sumN 16 (fun v => sumN 16 (fun u => if sHas R v = true ∧ sHas R u = true then H u v else 0)) := by rw [← h2, ← h1]; omega
  rw [h4, h3, ← sumN_mul, ← sumN_add]
  refine sumN_congr 16 (fun v hv => ?_)
  rw [← sumN_add, ← sumN_mul]
  refine sumN_congr 16 (fun u hu => ?_)
  by_cases e : sHas R v = true ∧ sHas R u = true
  · rw [if_pos e, if_pos e]
    cases hn : sHas (near gs v) u
    · rw [s.no v u hv hu hn, s.no u v hu hv (by rw [← hsym]; exact hn)]; simp
    · rw [s.sum v u hv hu hn, if_pos ⟨e.1, e.2, rfl⟩]; simp
  · rw [if_neg e, if_neg e, if_neg (fun h => e ⟨h.1, h.2.1⟩)]; simp
/-- A vertex with too great a load from which no way leads on: what it reaches is denser than the limit. -/
theorem Spread.denser {gs : List Nat} {pcs : Int} {H : Nat → Nat → Int} {L : Nat → Int} (s : Spread gs pcs H L) (hsym : ∀ u v, sHas (near gs u) v = sHas (near gs v) u) {f : Nat} {lim : Int} {R : Nat} (hf : f < 16) (hl : lim < L f) (w : WayPost gs H L f lim R []) :
    2 * (lim * (pc 16 R : Int)) < pcs * (endsOf gs R (ms R) : Int) := by
  obtain ⟨h1, h2⟩ := w.stuck rfl
  rw [← s.closed hsym h1, pc_sum, ← sumN_mul]
  have : sumN 16 (fun v => lim * (if sHas R v = true then 1 else 0)) < sumN 16 (fun v => if sHas R v = true then L v else 0) := by
    refine sumN_lt 16 (fun v hv => ?_) f hf ?_
    · by_cases e : sHas R v = true
      · rw [if_pos e, if_pos e, Int.mul_one]
        by_cases e2 : v = f
        · subst e2; omega
        · exact h2 v hv e e2
      · rw [if_neg e, if_neg e]; simp
    · rw [if_pos w.root, if_pos w.root, Int.mul_one]; exact hl
  omega
/-- Where no load is too great, no set is denser than the limit. -/
theorem Spread.none_denser {gs : List Nat} {pcs : Int} {H : Nat → Nat → Int} {L : Nat → Int} (s : Spread gs pcs H L) (hsym : ∀ u v, sHas (near gs u) v = sHas (near gs v) u) {lim : Int} {S : Nat} (hl : ∀ v, v < 16 → sHas S v = true → L v ≤ lim) :
    pcs * (endsOf gs S (ms S) : Int) ≤ 2 * (lim * (pc 16 S : Int)) := by
  have h3 : (endsOf gs S (ms S) : Int) = sumN 16 (fun v => sumN 16 (fun u => if sHas S v = true ∧ sHas S u = true ∧ sHas (near gs v) u = true then 1 else 0)) := by
    unfold endsOf
    rw [sum_ms]
    refine sumN_congr 16 (fun v hv => ?_)
    by_cases e : sHas S v = true
    · rw [if_pos e, pc_sum]
      refine sumN_congr 16 (fun u hu => ?_)
      have hb : sHas (sAnd (near gs v) S) u = ((near gs v).testBit u && S.testBit u) := sAnd_bit _ _ _
      rw [hb]
      unfold sHas at *
      by_cases e1 : S.testBit u = true <;> by_cases e2 : (near gs v).testBit u = true <;> simp [e, e1, e2]
    · rw [if_neg e]
      exact ((sumN_congr 16 (fun u _ => if_neg (fun h => e h.1))).trans (sumN_zero 16)).symm
  have sumN_mono : ∀ {f g : Nat → Int} n, (∀ i, i < n → f i ≤ g i) → sumN n f ≤ sumN n g := by
    intro f g n
    induction n with
    | zero => intro _; exact Int.le_refl _
    | succ n ih => intro h; rw [sumN_s, sumN_s]; have := ih (fun i hi => h i (by omega)); have := h n (by omega); omega
  have h2 : sumN 16 (fun v => sumN 16 (fun u => if sHas S v = true ∧ sHas S u = true then H v u else 0)) = sumN 16 (fun v => sumN 16 (fun u => if sHas S v = true ∧ sHas S u = true then H u v else 0)) := by
    rw [sumN_swap]
    refine sumN_congr 16 (fun v _ => sumN_congr 16 (fun u _ => ?_))
    by_cases e : sHas S v = true ∧ sHas S u = true
    · rw [if_pos e, if_pos ⟨e.2, e.1⟩]
    · rw [if_neg e, if_neg (fun h => e ⟨h.2, h.1⟩)]
  have h4 : pcs * (endsOf gs S (ms S) : Int) = 2 * sumN 16 (fun v => sumN 16 (fun u => if sHas S v = true ∧ sHas S u = true then H v u else 0)) := by
    have e1 : 2 * sumN 16 (fun v => sumN 16 (fun u => if sHas S v = true ∧ sHas S u = true then H v u else 0)) = sumN 16 (fun v => sumN 16 (fun u => if sHas S v = true ∧ sHas S u = true then H v u else 0)) + sumN 16 (fun v => sumN 16 (fun u => if sHas S v = true ∧ sHas S u = true then H u v else 0)) := by rw [← h2]; omega
    rw [e1, h3, ← sumN_mul, ← sumN_add]
    refine sumN_congr 16 (fun v hv => ?_)
    rw [← sumN_add, ← sumN_mul]
    refine sumN_congr 16 (fun u hu => ?_)
    by_cases e : sHas S v = true ∧ sHas S u = true
    · rw [if_pos e, if_pos e]
      cases hn : sHas (near gs v) u
      · rw [s.no v u hv hu hn, s.no u v hu hv (by rw [← hsym]; exact hn)]; simp
      · rw [s.sum v u hv hu hn, if_pos ⟨e.1, e.2, rfl⟩]; simp
    · rw [if_neg e, if_neg e, if_neg (fun h => e ⟨h.1, h.2.1⟩)]; simp
  rw [h4, pc_sum]
  have h5 : sumN 16 (fun v => sumN 16 (fun u => if sHas S v = true ∧ sHas S u = true then H v u else 0)) ≤ sumN 16 (fun v => lim * (if sHas S v = true then 1 else 0)) := by
    refine sumN_mono 16 (fun v hv => ?_)
    by_cases e : sHas S v = true
    · rw [if_pos e, Int.mul_one]
      refine Int.le_trans ?_ (hl v hv e)
      rw [s.load v hv]; unfold outF
      refine sumN_mono 16 (fun u hu => ?_)
      have := s.nn v u hv hu
      split <;> omega
    · rw [if_neg e]
      have : sumN 16 (fun u => if sHas S v = true ∧ sHas S u = true then H v u else 0) = 0 := (sumN_congr 16 (fun u _ => if_neg (fun h => e h.1))).trans (sumN_zero 16)
      rw [this]; simp
  rw [sumN_mul] at h5
  omega
end Go.Proofs.Ytmfpegadcecknaa
