/- The first smallest list of fair cuts: there is one, and what it is; also for rings. -/
import Derived.Test.YtopeppnajbnfgaaJC
import Derived.Test.YtopeppnajbnfgaaHF
namespace Go.Proofs.Ytopeppnajbnfgaa
open Go.RowKit
set_option maxHeartbeats 1000000
set_option maxRecDepth 100000
theorem cut_cons {f n y : Nat} {l : List Int} (h1 : f ≤ y) (h2 : y < n) (h : cutV ((y + 1 : Nat) : Int) n l = true) : cutV (f : Int) n ((y : Int) :: l) = true := by
  have h := of_decide_eq_true h
  refine decide_eq_true fun i hi => ?_
  rcases i with _ | i
  · show (f : Int) ≤ (y : Int) ∧ (y : Int) < n
    omega
  · have hi : i < l.length := by simpa using hi
    have h3 := h i hi
    unfold okCut fromC at h3 ⊢
    rw [if_neg (by omega), Nat.add_sub_cancel]
    have e1 : geti ((y : Int) :: l) (i + 1) = geti l i := rfl
    rw [e1]
    rcases i with _ | i
    · rw [if_pos rfl] at h3
      have e2 : geti ((y : Int) :: l) 0 = y := rfl
      rw [e2]; omega
    · rw [if_neg (by omega), Nat.add_sub_cancel] at h3
      have e2 : geti ((y : Int) :: l) (i + 1) = geti l i := rfl
      rw [e2]; exact h3
theorem cut_asc {n : Nat} : ∀ (k f : Nat) {y : List Int}, AscL n k f y → cutV (f : Int) n y = true
  | 0, _, y, h => by
    have h : y = [] := h
    subst h
    exact decide_eq_true fun i hi => absurd hi (by simp)
  | k + 1, f, y, ⟨i, y', h1, h2, h3⟩ => by
    subst h2
    exact cut_cons (by omega) h1 (cut_asc k (f + i + 1) h3)
theorem asc_cut {n : Nat} : ∀ (l : List Int) (f : Nat), cutV (f : Int) n l = true → AscL n l.length f l
  | [], _, _ => rfl
  | x :: l, f, h => by
    have h := of_decide_eq_true h
    have h0 := h 0 (by simp)
    have h0 : (f : Int) ≤ x ∧ x < n := h0
    obtain ⟨y, rfl⟩ : ∃ y : Nat, x = y := ⟨x.toNat, by omega⟩
    refine asc_cons (by omega) (by omega) (asc_cut l (y + 1) (decide_eq_true fun i hi => ?_))
    have h3 := h (i + 1) (by simpa using hi)
    unfold okCut fromC at h3 ⊢
    rw [if_neg (by omega), Nat.add_sub_cancel] at h3
    have e1 : geti ((y : Int) :: l) (i + 1) = geti l i := rfl
    rw [e1] at h3
    rcases i with _ | i
    · rw [if_pos rfl]
      have e2 : geti ((y : Int) :: l) 0 = y := rfl
      rw [e2] at h3; omega
    · rw [if_neg (by omega), Nat.add_sub_cancel]
      have e2 : geti ((y : Int) :: l) (i + 1) = geti l i := rfl
      rw [e2] at h3; exact h3
/-- What a search finds, if there is something to be found. -/
theorem fewL_first {s : ByteArray} {f step : Nat} (hst : 1 ≤ step) : ∀ (r m M : Nat), M ≤ 4 → m ≤ M → (∃ k, M = m + k * step ∧ k < r) → (∃ x ∈ exts s.size M [] f, fairV s x = true) →
    ∃ M' x, (∃ k, M' = m + k * step) ∧ M' ≤ M ∧ fewL s f step r m = some x ∧ AscL s.size M' f x ∧ fairV s x = true ∧ ∀ k, m + k * step < M' → ∀ y ∈ exts s.size (m + k * step) [] f, fairV s y = false
  | 0, m, M, _, _, ⟨k, _, hk⟩, _ => absurd hk (by omega)
  | r + 1, m, M, h4, hm, ⟨k, hk, hr⟩, hx => by
    rw [show fewL s f step (r + 1) m = if 4 < m then none else match (exts s.size m [] f).find? (fairV s) with | some x => some x | none => fewL s f step r (m + step) from rfl, if_neg (by omega)]
    cases hf : (exts s.size m [] f).find? (fairV s) with
    | some x => exact ⟨m, x, ⟨0, by omega⟩, hm, rfl, mem_exts0.1 (List.mem_of_find?_eq_some hf), List.find?_some hf, fun k hk => by omega⟩
    | none =>
      have hno : ∀ y ∈ exts s.size m [] f, fairV s y = false := fun y hy => by
        have := (List.find?_eq_none.1 hf) y hy
        cases h : fairV s y
        · rfl
        · exact absurd h this
      rcases k with _ | k
      · rw [Nat.zero_mul, Nat.add_zero] at hk
        subst hk
        obtain ⟨x, h1, h2⟩ := hx
        rw [hno x h1] at h2; cases h2
      · rw [Nat.succ_mul] at hk
        obtain ⟨M', x, ⟨k', e1⟩, h1, h2, h3, h5, h6⟩ := fewL_first hst r (m + step) M h4 (by omega) ⟨k, by omega, by omega⟩ hx
        refine ⟨M', x, ⟨k' + 1, by rw [Nat.succ_mul]; omega⟩, h1, h2, h3, h5, fun j hj y hy => ?_⟩
        rcases j with _ | j
        · rw [Nat.zero_mul, Nat.add_zero] at hy
          exact hno y hy
        · rw [Nat.succ_mul] at hj hy
          exact h6 j (by omega) y (by rw [show m + step + j * step = m + (j * step + step) by omega]; exact hy)
/-- The first smallest list of fair cuts of an even chain. -/
theorem few_some {s : ByteArray} (hc : chV s = true) (he : evV s = true) : ∃ x, fewV s 1 1 = some x ∧ x.length ≤ (kin s).length ∧ AscL s.size x.length 1 x ∧ fairV s x = true ∧
    ∀ k, k < x.length → ∀ y ∈ exts s.size k [] 1, fairV s y = false := by
  obtain ⟨m, x, h1, h2, h3⟩ := fair_some hc he
  have h4 := kin_le s
  obtain ⟨M, y, -, e1, e2, e3, e4, e5⟩ := fewL_first (s := s) (f := 1) (step := 1) (by omega) 6 0 m (by omega) (by omega) ⟨m, by omega, by omega⟩ ⟨x, mem_exts0.2 h2, h3⟩
  have hl := asc_len M 1 e3
  subst hl
  refine ⟨y, e2, by omega, e3, e4, fun k hk z hz => e5 k (by omega) z ?_⟩
  rw [Nat.zero_add, Nat.mul_one]; exact hz
theorem pad0 {n m : Nat} {x : List Int} (hm : m ≤ 4) (h : AscL n m 0 x) : ∃ a b d e, Pad n m x a b d e := by
  match m, hm, h with
  | 0, _, h => exact ⟨n, n, n, n, by omega, by omega, by omega, by omega, h, fun _ => rfl, fun _ => rfl, fun _ => rfl, fun _ => rfl⟩
  | 1, _, ⟨i, y, h1, h2, h3⟩ =>
    have h3 : y = [] := h3
    subst h3
    exact ⟨0 + i, n, n, n, by omega, by omega, by omega, by omega, h2, fun h => by omega, fun _ => rfl, fun _ => rfl, fun _ => rfl⟩
  | 2, _, ⟨i, y, h1, h2, j, y2, h3, h4, h5⟩ =>
    have h5 : y2 = [] := h5
    subst h5 h4
    exact ⟨0 + i, 0 + i + 1 + j, n, n, by omega, by omega, by omega, by omega, h2, fun h => by omega, fun h => by omega, fun _ => rfl, fun _ => rfl⟩
  | 3, _, ⟨i, y, h1, h2, j, y2, h3, h4, k, y3, h5, h6, h7⟩ =>
    have h7 : y3 = [] := h7
    subst h7 h6 h4
    exact ⟨0 + i, 0 + i + 1 + j, 0 + i + 1 + j + 1 + k, n, by omega, by omega, by omega, by omega, h2, fun h => by omega, fun h => by omega, fun h => by omega, fun _ => rfl⟩
  | 4, _, ⟨i, y, h1, h2, j, y2, h3, h4, k, y3, h5, h6, l, y4, h7, h8, h9⟩ =>
    have h9 : y4 = [] := h9
    subst h9 h8 h6 h4
    exact ⟨0 + i, 0 + i + 1 + j, 0 + i + 1 + j + 1 + k, 0 + i + 1 + j + 1 + k + 1 + l, by omega, by omega, by omega, by omega, h2, fun h => by omega, fun h => by omega, fun h => by omega, fun h => by omega⟩
theorem asc_from {n : Nat} : ∀ (k f g : Nat) {y : List Int}, g ≤ f → AscL n k f y → AscL n k g y
  | 0, _, _, _, _, h => h
  | k + 1, f, g, y, hg, ⟨i, y', h1, h2, h3⟩ => by
    subst h2
    exact asc_cons (by omega) h1 h3
/-- A cut at the beginning more: the other carrier gets the shares. -/
theorem fair_zero {s : ByteArray} (he : evV s = true) {m : Nat} {x : List Int} (hm : m + 1 ≤ 4) (hx : AscL s.size m 1 x) (h : fairV s x = true) (h0 : 0 < s.size) : AscL s.size (m + 1) 0 (((0 : Nat) : Int) :: x) ∧ fairV s (((0 : Nat) : Int) :: x) = true := by
  have hA : AscL s.size (m + 1) 0 (((0 : Nat) : Int) :: x) := asc_cons (Nat.le_refl _) h0 hx
  refine ⟨hA, ?_⟩
  have hev := (evV_iff s).1 he
  obtain ⟨a, b, d, e, hP⟩ := pad_of (by omega) hx
  have hf := (fair_pad (by omega) hP).1 h
  obtain ⟨p1, p2, p3, p4, p5, p6, p7, p8, p9⟩ := hP
  have hP2 : Pad s.size (m + 1) (((0 : Nat) : Int) :: x) 0 a b d := ⟨Nat.zero_le _, p1, p2, by omega, by
    rw [p5]
    rcases m with _ | _ | _ | _ | m
    · rfl
    · rfl
    · rfl
    · rfl
    · omega, fun h => by omega, fun h => p6 (by omega), fun h => p7 (by omega), fun h => p8 (by omega)⟩
  rw [fair_pad hm hP2]
  intro c hc
  have h1 := hf c hc
  have h2 := hev c hc
  have h3 : cnt s 0 c = 0 := rfl
  have h4 := p9 (by omega)
  subst h4
  omega
/-- The first smallest list of cuts of an even ring. -/
theorem ring_some {s : ByteArray} (hc : chV s = true) (he : evV s = true) : ∃ x k, fewV s 0 2 = some x ∧ x.length = 2 * k ∧ x.length ≤ ((kin s).length + 1) / 2 * 2 ∧ AscL s.size x.length 0 x ∧ fairV s x = true ∧
    ∀ k, 2 * k < x.length → ∀ y ∈ exts s.size (2 * k) [] 0, fairV s y = false := by
  obtain ⟨m, x, h1, h2, h3⟩ := fair_some hc he
  have h4 := kin_le s
  have hz : s.size = 0 → m = 0 := fun hz => by
    rcases m with _ | m
    · rfl
    · obtain ⟨i, y, h5, _⟩ := h2
      omega
  obtain ⟨M, z, hM, hk, hA, hF⟩ : ∃ (M : Nat) (z : List Int), M % 2 = 0 ∧ M ≤ ((kin s).length + 1) / 2 * 2 ∧ AscL s.size M 0 z ∧ fairV s z = true := by
    rcases Nat.mod_two_eq_zero_or_one m with h5 | h5
    · exact ⟨m, x, h5, by omega, asc_from m 1 0 (by omega) h2, h3⟩
    · have := fair_zero he (m := m) (by omega) h2 h3 (by
        rcases Nat.eq_zero_or_pos s.size with h6 | h6
        · have := hz h6; omega
        · exact h6)
      exact ⟨m + 1, _, by omega, by omega, this.1, this.2⟩
  obtain ⟨M', y, ⟨k, e0⟩, e1, e2, e3, e4, e5⟩ := fewL_first (s := s) (f := 0) (step := 2) (by omega) 6 0 M (by omega) (by omega) ⟨M / 2, by omega, by omega⟩ ⟨z, mem_exts0.2 hA, hF⟩
  have hl := asc_len M' 0 e3
  subst hl
  refine ⟨y, k, e2, by omega, by omega, e3, e4, fun k hk z hz => e5 k (by omega) z ?_⟩
  rw [show 0 + k * 2 = 2 * k by omega]; exact hz
end Go.Proofs.Ytopeppnajbnfgaa
