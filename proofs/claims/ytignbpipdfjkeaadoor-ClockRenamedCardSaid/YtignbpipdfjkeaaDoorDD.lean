/- A machine and its renamed one: what Same, Reset and Rank say. -/
import Derived.Test.YtignbpipdfjkeaaDoorCY
import Derived.Test.YtignbpipdfjkeaaDoorDC
namespace Go.Proofs.YtignbpipdfjkeaaDoor
set_option maxHeartbeats 1000000
set_option maxRecDepth 100000
theorem smB_iff {L O : List (List Int)} (hL : IsMI L) (hO : IsMI O) : smB L O = true ↔ nS L = nS O ∧ L.length = O.length ∧ ∃ φ, Iso (tabN L) (tabN O) L.length (nS L) φ := by
  unfold smB
  by_cases h : nS L = nS O ∧ L.length = O.length
  · rw [if_pos h, cc_iff hL.n9 (fun b q hb hq => hL.isM.lt b q hb hq) (fun b q hb hq => by rw [h.1]; exact hO.isM.lt b q (by omega) (by omega)) 10 zeroR (good_zero _) (fun q _ h => by unfold hasR zeroR at h; simp at h) (by have := unn_n (nS L) zeroR; have := hL.n9; omega)]
    constructor
    · rintro ⟨φ, h1, -⟩; exact ⟨h.1, h.2, φ, h1⟩
    · rintro ⟨-, -, φ, h1⟩; exact ⟨φ, h1, fun q _ h => by unfold hasR zeroR at h; simp at h⟩
  · rw [if_neg h]
    exact ⟨fun h => (by cases h), fun h' => absurd ⟨h'.1, h'.2.1⟩ h⟩
theorem smB_half {L O : List (List Int)} (hL : IsMI L) (hO : IsMI O) (h : smB L O = true) : smB O L = true := by
  obtain ⟨h1, h2, φ, h3⟩ := (smB_iff hL hO).1 h
  obtain ⟨ψ, h4, -, -⟩ := h3.inv (fun b q hb hq => hL.isM.lt b q hb hq) (fun b q hb hq => by rw [h1]; exact hO.isM.lt b q (by omega) (by omega))
  exact (smB_iff hO hL).2 ⟨h1.symm, h2.symm, ψ, by rw [← h1, ← h2]; exact h4⟩
theorem smB_symm {L O : List (List Int)} (hL : IsMI L) (hO : IsMI O) : smB L O = smB O L := by
  rw [Bool.eq_iff_iff]
  exact ⟨smB_half hL hO, smB_half hO hL⟩
theorem isM_as {O : List (List Int)} {k n : Nat} (hO : IsMI O) (h1 : n = nS O) (h2 : k = O.length) : IsM (tabN O) k n := by subst h1 h2; exact hO.isM
theorem rk_iso {L O : List (List Int)} (hL : IsMI L) (hO : IsMI O) (h1 : nS L = nS O) (h2 : L.length = O.length) {φ : Nat → Nat} (h : Iso (tabN L) (tabN O) L.length (nS L) φ) : rkX O = rkX L := by
  have hM := hL.isM
  have hN := isM_as hO h1 h2
  have hs : IsS (nS L) (2 ^ nS L - 1) := by have := Nat.two_pow_pos (nS L); unfold IsS; omega
  have e1 : rkX L = _ := rk_eq hM
  have e2 : rkX O = _ := rk_eq hO.isM
  have e3 := sh_ph hM hN h
  have e4 := (sh_set hM hs (by have := Nat.pow_le_pow_right (n := 2) (by decide) hL.n1; omega)).1
  rw [e1, e2, ← h1, ← h2, e3]
  show (szS (phS φ (nS L) _), _) = _
  rw [ph_sz hL.n1 hL.n9 h.lt h.inj e4]
theorem rk_same {L O : List (List Int)} (hL : IsMI L) (hO : IsMI O) (h : smB L O = true) : rkX O = rkX L := by
  obtain ⟨h1, h2, φ, h3⟩ := (smB_iff hL hO).1 h
  exact rk_iso hL hO h1 h2 h3
theorem rs_iso {L O : List (List Int)} (hL : IsMI L) (hO : IsMI O) (h1 : nS L = nS O) (h2 : L.length = O.length) {φ : Nat → Nat} (h : Iso (tabN L) (tabN O) L.length (nS L) φ) : rsX O = (rsX L).map fun e => (phS φ (nS L) e.1, e.2) := by
  have hN := isM_as hO h1 h2
  unfold rsX sAll
  rw [← h1, ← h2]
  exact seek_ph hL.isM hN h 1
theorem tz_in {s : Nat} (h : s < 512) (h0 : s ≠ 0) : tzS s ∈ bitsS s := by
  rw [(bits_step h0 h).1]; exact List.mem_cons_self
theorem tz_ph {n t : Nat} {φ : Nat → Nat} (h1 : 1 ≤ n) (h9 : n ≤ 9) (h : ∀ q, q < n → φ q < n) (hi : ∀ p q, p < n → q < n → φ p = φ q → p = q) (ht : IsS n t) (h0 : t ≠ 0) (hz : szS t ≤ 1) : tzS (phS φ n t) = φ (tzS t) := by
  have b9 : 2 ^ n ≤ 512 := Nat.le_trans (Nat.pow_le_pow_right (by decide) h9) (by decide)
  have ht5 : t < 512 := Nat.lt_of_lt_of_le ht b9
  have hp := ph_set h1 h9 h ht
  have hp5 : phS φ n t < 512 := Nat.lt_of_lt_of_le hp b9
  have m1 := tz_in ht5 h0
  have m2 : φ (tzS t) ∈ bitsS (phS φ n t) := (ph_mem h1 h9 h ht).2 ⟨_, m1, rfl⟩
  have hp0 : phS φ n t ≠ 0 := fun e => by rw [e, bits_zero] at m2; cases m2
  exact sz_one (by rw [ph_sz h1 h9 h hi ht]; exact hz) (tz_in hp5 hp0) m2
end Go.Proofs.YtignbpipdfjkeaaDoor
