/- What a search knows while it goes on: mathematics. -/
import Derived.Test.YtignbpipdfjkeaaDoorMB
namespace Go.Proofs.YtignbpipdfjkeaaDoor
set_option maxHeartbeats 1000000
set_option maxRecDepth 100000
/-- The steps that a map tells are those of the sets that were met. -/
structure StepsOk (F : Nat → Option (Nat × Nat)) (R : Met) : Prop where
  dom : ∀ s, (F s).isSome = hasS R s
  start : ∀ t, (t, []) ∈ R → F t = some (0, 0)
  step : ∀ t u b, (t, u ++ [b]) ∈ R → b < 4 ∧ ∃ p, (p, u) ∈ R ∧ F t = some (p, b) ∧ 0 < p ∧ p < 512
def putF (F : Nat → Option (Nat × Nat)) (t : Nat) (p : Nat × Nat) : Nat → Option (Nat × Nat) := fun s => if s = t then some p else F s
structure SI (T : Tab) (k n s : Nat) (g : Nat → Bool) (F : Nat → Option (Nat × Nat)) (R : Met) (i b : Nat) : Prop where
  srch : Srch T k n s R i b
  nog : ∀ e, e ∈ R → g e.1 = false
  st : StepsOk F R
  wl : ∀ j, j < R.length → (elS R j).2.length ≤ j
variable {T : Tab} {k n s : Nat} {g : Nat → Bool} {F : Nat → Option (Nat × Nat)} {R : Met} {i b : Nat}
theorem si_start (hg : g s = false) : SI T k n s g (putF (fun _ => none) s (0, 0)) [(s, [])] 0 0 where
  srch := srch_start
  nog := by intro e he; simp at he; subst he; exact hg
  st := {
    dom := fun t => by
      unfold putF hasS
      by_cases e : t = s
      · subst e; simp
      · have : ¬ s = t := fun h => e h.symm
        simp [e, this]
    start := fun t ht => by simp at ht; subst ht; simp [putF]
    step := fun t u b ht => by simp at ht }
  wl := by
    intro j hj
    simp at hj; subst hj
    simp [elS]
theorem SI.el (h : SI T k n s g F R i b) (hi : i < R.length) : (elS R i).1 = img T s (elS R i).2 ∧ okW k (elS R i).2 := by
  have := h.srch.im (elS R i).1 (elS R i).2 (elS_mem hi)
  exact ⟨this.2.symm, this.1⟩
theorem SI.el_set (hM : IsM T k n) (hs : IsS n s) (h0 : s ≠ 0) (h : SI T k n s g F R i b) {j : Nat} (hj : j < R.length) : IsS n (elS R j).1 ∧ (elS R j).1 ≠ 0 := by
  have := h.srch.im (elS R j).1 (elS R j).2 (elS_mem hj)
  rw [← this.2]
  exact ⟨img_set hM hs this.1, img_ne hM hs h0 this.1⟩
theorem SI.known (h : SI T k n s g F R i b) (hi : i < R.length) (hb : b < k) (hF : (F (prs T (elS R i).1 b)).isSome = true) : addS T R i b = R ∧ SI T k n s g F R i (b + 1) := by
  have e : addS T R i b = R := by
    unfold addS; rw [if_pos (by rw [← h.st.dom]; exact hF)]
  have h2 := srch_button h.srch hi hb
  rw [e] at h2
  exact ⟨e, h2, h.nog, h.st, h.wl⟩
theorem steps_add (hM : IsM T k n) (hs : IsS n s) (h0 : s ≠ 0) (h : SI T k n s g F R i b) (hi : i < R.length) (hb : b < k) (hF : (F (prs T (elS R i).1 b)).isSome = false) :
    StepsOk (putF F (prs T (elS R i).1 b) ((elS R i).1, b)) (R ++ [(prs T (elS R i).1 b, (elS R i).2 ++ [b])]) := by
  obtain ⟨hp, hp0⟩ := h.el_set hM hs h0 hi
  have h512 := set512 hM.n9 hp
  have hno : ∀ w, (prs T (elS R i).1 b, w) ∉ R := fun w hw => by
    have := h.st.dom (prs T (elS R i).1 b)
    rw [hF] at this
    rw [hasS_iff.2 ⟨w, hw⟩] at this; cases this
  have hk4 := hM.k4
  refine ⟨fun t => ?_, fun t ht => ?_, fun t u c ht => ?_⟩
  · unfold putF
    by_cases e : t = prs T (elS R i).1 b
    · rw [if_pos e]
      symm; exact hasS_iff.2 ⟨(elS R i).2 ++ [b], by rw [e]; simp⟩
    · rw [if_neg e, h.st.dom]
      unfold hasS
      rw [List.any_append]
      have : ((prs T (elS R i).1 b) == t) = false := by simp; exact fun h => e h.symm
      simp [this]
  · unfold putF
    rcases List.mem_append.1 ht with h1 | h1
    · rw [if_neg (fun e => hno [] (by rw [← e]; exact h1))]
      exact h.st.start t h1
    · simp at h1
  · unfold putF
    rcases List.mem_append.1 ht with h1 | h1
    · rw [if_neg (fun e => hno _ (by rw [← e]; exact h1))]
      obtain ⟨a, p, hp1, hp2, hp3⟩ := h.st.step t u c h1
      exact ⟨a, p, by simp [hp1], hp2, hp3⟩
    · rw [List.mem_singleton] at h1
      injection h1 with h2 h3
      obtain ⟨h4, h5⟩ := List.append_inj' h3 rfl
      injection h5 with h5
      subst h4 h5
      refine ⟨by omega, (elS R i).1, ?_, by rw [if_pos h2], by omega, h512⟩
      exact List.mem_append_left _ (elS_mem hi)
theorem SI.new (hM : IsM T k n) (hs : IsS n s) (h0 : s ≠ 0) (h : SI T k n s g F R i b) (hi : i < R.length) (hb : b < k) (hF : (F (prs T (elS R i).1 b)).isSome = false) (hg : g (prs T (elS R i).1 b) = false) :
    addS T R i b = R ++ [(prs T (elS R i).1 b, (elS R i).2 ++ [b])] ∧ SI T k n s g (putF F (prs T (elS R i).1 b) ((elS R i).1, b)) (R ++ [(prs T (elS R i).1 b, (elS R i).2 ++ [b])]) i (b + 1) := by
  have e : addS T R i b = R ++ [(prs T (elS R i).1 b, (elS R i).2 ++ [b])] := by
    unfold addS; rw [if_neg (by rw [← h.st.dom, hF]; decide)]
  have h2 := srch_button h.srch hi hb
  rw [e] at h2
  refine ⟨e, h2, fun x hx => ?_, steps_add hM hs h0 h hi hb hF, fun j hj => ?_⟩
  · rcases List.mem_append.1 hx with h1 | h1
    · exact h.nog x h1
    · simp at h1; subst h1; exact hg
  · simp only [List.length_append, List.length_cons, List.length_nil] at hj
    by_cases hjR : j < R.length
    · rw [elS_app hjR]; exact h.wl j hjR
    · obtain rfl : j = R.length := by omega
      have e2 : elS (R ++ [(prs T (elS R i).1 b, (elS R i).2 ++ [b])]) R.length = (prs T (elS R i).1 b, (elS R i).2 ++ [b]) := by
        unfold elS; rw [List.getD_eq_getElem?_getD]; simp
      rw [e2]
      have := h.wl i hi
      simp; omega
theorem SI.hit (_hM : IsM T k n) (_hs : IsS n s) (_h0 : s ≠ 0) (h : SI T k n s g F R i b) (_hi : i < R.length) (_hb : b < k) (hF : (F (prs T (elS R i).1 b)).isSome = false) (hg : g (prs T (elS R i).1 b) = true) {f c : Nat}
    (hr : reach T k s = bfs T k f (i + 1) (rowS T i (c + 1) b R)) : seek T k s g = some (prs T (elS R i).1 b, (elS R i).2 ++ [b]) := by
  have e : addS T R i b = R ++ [(prs T (elS R i).1 b, (elS R i).2 ++ [b])] := by
    unfold addS; rw [if_neg (by rw [← h.st.dom, hF]; decide)]
  obtain ⟨U, hU⟩ := rowS_pre T i c (b + 1) (addS T R i b)
  obtain ⟨V, hV⟩ := bfs_pre T k f (i + 1) (rowS T i (c + 1) b R)
  unfold seek
  rw [hr, hV, rowS, hU, e, List.find?_append, List.find?_append, List.find?_append]
  have h1 : R.find? (fun e => g e.1) = none := List.find?_eq_none.2 (fun x hx => by rw [h.nog x hx]; decide)
  rw [h1]
  simp [hg]
theorem SI.miss (h : SI T k n s g F R i b) (hr : reach T k s = R) : seek T k s g = none := by
  unfold seek
  rw [hr, List.find?_eq_none]
  intro x hx; rw [h.nog x hx]; decide
theorem SI.next (hM : IsM T k n) (h : SI T k n s g F R i k) (hi : i < R.length) : SI T k n s g F R (i + 1) 0 := ⟨srch_next hM.k4 h.srch hi, h.nog, h.st, h.wl⟩
theorem SI.len (hM : IsM T k n) (hs : IsS n s) (h : SI T k n s g F R i b) : R.length ≤ 512 := srch_len hM hs h.srch
theorem SI.room (hM : IsM T k n) (hs : IsS n s) (_h0 : s ≠ 0) (h : SI T k n s g F R i b) (hi : i < R.length) (hb : b < k) (hF : (F (prs T (elS R i).1 b)).isSome = false) : (elS R i).2.length + 1 ≤ 512 ∧ R.length < 512 := by
  have h1 := h.wl i hi
  have h2 := h.len hM hs
  have e : addS T R i b = R ++ [(prs T (elS R i).1 b, (elS R i).2 ++ [b])] := by
    unfold addS; rw [if_neg (by rw [← h.st.dom, hF]; decide)]
  have h3 := srch_len hM hs (srch_button h.srch hi hb)
  rw [e] at h3
  simp at h3
  omega
theorem bfs_end {f : Nat} (h : R.length ≤ i) : bfs T k f i R = R := by
  cases f with
  | zero => rfl
  | succ f => unfold bfs; rw [if_neg (by omega)]
theorem bfs_go {f : Nat} (h : i < R.length) : bfs T k (f + 1) i R = bfs T k f (i + 1) (rowS T i k 0 R) := by
  rw [bfs, if_pos h]
theorem seek_start (hg : g s = true) : seek T k s g = some (s, []) := by
  obtain ⟨U, hU⟩ := bfs_pre T k 512 0 [(s, [])]
  unfold seek reach
  rw [hU]; simp [hg]
end Go.Proofs.YtignbpipdfjkeaaDoor
