/- What Keeps tells: mathematics. -/
import Derived.Test.YtoklnpiehbnalaaCM
import Derived.Test.YtoklnpiehbnalaaMF
import Derived.Test.YtoklnpiehbnalaaAX
namespace Go.Proofs.Ytoklnpiehbnalaa
set_option maxHeartbeats 1000000
set_option maxRecDepth 100000
theorem exts_all {n : Nat} {x : List Nat} (h : x ∈ exts 3 n []) : x.length = n ∧ letW 3 x ∧ free x = true := by
  obtain ⟨z, e, h1, h2, h3⟩ := exts_form n [] x h
  rw [List.nil_append] at e
  subst e
  exact ⟨h1, h2, h3 free_nil⟩
theorem exts_in {x : List Nat} (hf : free x = true) (hx : letW 3 x) : x ∈ exts 3 x.length [] := by
  have := exts_mem (k := 3) x [] (by rw [List.nil_append]; exact hf) hx
  rwa [List.nil_append] at this
theorem kpF_none {ms : List (List Nat)} : ∀ r n, kpF ms r n = none → ∀ x, free x = true → letW 3 x → n ≤ x.length → x.length < n + r → brk ms x = false
  | 0, n, _, x, _, _, h1, h2 => by omega
  | r + 1, n, h, x, hf, hx, h1, h2 => by
    have e : kpF ms (r + 1) n = match (exts 3 n []).find? (brk ms) with | some x => some x | none => kpF ms r (n + 1) := rfl
    rw [e] at h
    cases hh : (exts 3 n []).find? (brk ms) with
    | some y => rw [hh] at h; cases h
    | none =>
      rw [hh] at h
      by_cases hl : x.length = n
      · rw [List.find?_eq_none] at hh
        have := hh x (by rw [← hl]; exact exts_in hf hx)
        simpa using this
      · exact kpF_none r (n + 1) h x hf hx (by omega) (by omega)
theorem kpF_some {ms : List (List Nat)} : ∀ r n y, kpF ms r n = some y → letW 3 y ∧ free y = true ∧ brk ms y = true ∧ n ≤ y.length ∧ y.length < n + r ∧ ∀ x, free x = true → letW 3 x → n ≤ x.length → x.length < y.length → brk ms x = false
  | 0, n, y, h => by cases h
  | r + 1, n, y, h => by
    have e : kpF ms (r + 1) n = match (exts 3 n []).find? (brk ms) with | some x => some x | none => kpF ms r (n + 1) := rfl
    rw [e] at h
    cases hh : (exts 3 n []).find? (brk ms) with
    | some z =>
      rw [hh] at h
      injection h with h
      subst h
      obtain ⟨h1, h2, h3⟩ := exts_all (List.mem_of_find?_eq_some hh)
      exact ⟨h2, h3, List.find?_some hh, by omega, by omega, fun x _ _ h4 h5 => by omega⟩
    | none =>
      rw [hh] at h
      obtain ⟨h1, h2, h3, h4, h5, h6⟩ := kpF_some r (n + 1) y h
      refine ⟨h1, h2, h3, by omega, by omega, fun x hf hx h7 h8 => ?_⟩
      by_cases hl : x.length = n
      · rw [List.find?_eq_none] at hh
        have := hh x (by rw [← hl]; exact exts_in hf hx)
        simpa using this
      · exact h6 x hf hx (by omega) h8
theorem HmW_imW (ms : List (List Nat)) (x : List Nat) : HmW (fun c => ms.getD c []) x = imW ms x := rfl
/-- If Keeps finds no word, all square-free words are kept. -/
theorem kp_all {ms : List (List Nat)} (hm : IsMp ms) (h : kpX ms = none) {x : List Nat} (hx : letW 3 x) (hf : free x = true) : free (imW ms x) = true := by
  rw [sqf_iff] at hf ⊢
  refine keep_all (h := fun c => ms.getD c []) (fun c hc e => ?_) (fun y hy hfy hl => ?_) x hx hf
  · have := hm.one _ (hm.get hc)
    rw [show ms.getD c [] = [] from e] at this
    simp at this
  · have := kpF_none 11 0 h y ((sqf_iff y).2 hfy) hy (Nat.zero_le _) (by omega)
    unfold brk at this
    have h2 : free (imW ms y) = true := by simpa using this
    exact (sqf_iff _).1 h2
/-- The word that Keeps finds is the first one. -/
theorem kp_some {ms : List (List Nat)} {y : List Nat} (h : kpX ms = some y) : letW 3 y ∧ free y = true ∧ free (imW ms y) = false ∧ y.length ≤ 10 ∧ ∀ x, letW 3 x → free x = true → x.length < y.length → free (imW ms x) = true := by
  obtain ⟨h1, h2, h3, h4, h5, h6⟩ := kpF_some 11 0 y h
  refine ⟨h1, h2, by unfold brk at h3; simpa using h3, by omega, fun x hx hf hl => ?_⟩
  have := h6 x hf hx (Nat.zero_le _) hl
  unfold brk at this
  simpa using this
end Go.Proofs.Ytoklnpiehbnalaa
