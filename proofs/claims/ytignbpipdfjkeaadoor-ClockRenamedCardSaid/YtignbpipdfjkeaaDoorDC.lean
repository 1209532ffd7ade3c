/- A machine and its renamed one: mathematics. -/
import Derived.Test.YtignbpipdfjkeaaDoorCW
import Derived.Test.YtignbpipdfjkeaaDoorMG
namespace Go.Proofs.YtignbpipdfjkeaaDoor
set_option maxHeartbeats 1000000
set_option maxRecDepth 100000
theorem inj_surj : ∀ (n : Nat) (φ : Nat → Nat), (∀ q, q < n → φ q < n) → (∀ p q, p < n → q < n → φ p = φ q → p = q) → ∀ j, j < n → ∃ q, q < n ∧ φ q = j
  | 0, _, _, _, j, h => absurd h (Nat.not_lt_zero j)
  | n + 1, φ, hl, hi, j, hj => by
    by_cases hm : φ n = n
    · by_cases e : j = n
      · exact ⟨n, by omega, by rw [hm, e]⟩
      · obtain ⟨q, h1, h2⟩ := inj_surj n φ (fun q hq => by
          have := hl q (by omega)
          have : φ q ≠ n := fun h => by have := hi q n (by omega) (by omega) (h.trans hm.symm); omega
          omega) (fun p q hp hq => hi p q (by omega) (by omega)) j (by omega)
        exact ⟨q, by omega, h2⟩
    · have hmn : φ n < n := by have := hl n (by omega); omega
      have ih := inj_surj n (fun q => if φ q = n then φ n else φ q) (fun q hq => by
        split
        · exact hmn
        · have := hl q (by omega); omega) (fun p q hp hq h => by
        split at h
        · split at h
          · exact hi p q (by omega) (by omega) (by omega)
          · have := hi n q (by omega) (by omega) h; omega
        · split at h
          · have := hi p n (by omega) (by omega) h; omega
          · exact hi p q (by omega) (by omega) h)
      by_cases e : j = n
      · obtain ⟨q, h1, h2⟩ := ih (φ n) hmn
        split at h2
        · rename_i h3; exact ⟨q, by omega, by rw [h3, e]⟩
        · have := hi q n (by omega) (by omega) h2; omega
      · by_cases e2 : j = φ n
        · exact ⟨n, by omega, e2.symm⟩
        · obtain ⟨q, h1, h2⟩ := ih j (by omega)
          split at h2
          · exact absurd h2.symm e2
          · exact ⟨q, by omega, h2⟩
variable {T U : Tab} {k n : Nat} {φ : Nat → Nat}
/-- A renaming has a renaming back. -/
theorem Iso.inv (h : Iso T U k n φ) (hT : ∀ b q, b < k → q < n → ld T b q < n) (hU : ∀ b q, b < k → q < n → ld U b q < n) : ∃ ψ, Iso U T k n ψ ∧ (∀ q, q < n → ψ (φ q) = q) ∧ ∀ q, q < n → φ (ψ q) = q := by
  have hs : ∀ j, ∃ q, j < n → q < n ∧ φ q = j := fun j => by
    by_cases hj : j < n
    · obtain ⟨q, h1, h2⟩ := inj_surj n φ h.lt h.inj j hj
      exact ⟨q, fun _ => ⟨h1, h2⟩⟩
    · exact ⟨0, fun h => absurd h hj⟩
  obtain ⟨ψ, hψ⟩ := Classical.axiomOfChoice hs
  have key : ∀ q, q < n → ψ (φ q) = q := fun q hq => by
    obtain ⟨h1, h2⟩ := hψ (φ q) (h.lt q hq)
    exact h.inj _ _ h1 hq h2
  refine ⟨ψ, ⟨fun q hq => (hψ q hq).1, fun p q hp hq e => ?_, fun b q hb hq => ?_⟩, key, fun q hq => (hψ q hq).2⟩
  · rw [← (hψ p hp).2, ← (hψ q hq).2, e]
  · obtain ⟨h1, h2⟩ := hψ q hq
    have h3 := hT b _ hb h1
    obtain ⟨h4, h5⟩ := hψ _ (hU b q hb hq)
    refine h.inj _ _ h4 h3 ?_
    rw [h5, h.com b _ hb h1, h2]
/-- A map of states as a machine of one button. -/
def mpT (φ : Nat → Nat) (n : Nat) : Tab := [(List.range n).map φ]
theorem mpT_ld {q : Nat} (hq : q < n) : ld (mpT φ n) 0 q = φ q := by
  unfold ld mpT
  simp [List.getD_eq_getElem?_getD, hq]
theorem mpT_ok (h1 : 1 ≤ n) (h9 : n ≤ 9) (h : ∀ q, q < n → φ q < n) : IsM (mpT φ n) 1 n where
  len := rfl
  k1 := Nat.le_refl _
  k4 := by omega
  n1 := h1
  n9 := h9
  row := fun b hb => by
    obtain rfl : b = 0 := by omega
    simp [mpT]
  lt := fun b q hb hq => by
    obtain rfl : b = 0 := by omega
    rw [mpT_ld hq]; exact h q hq
/-- The named states of a set. -/
def phS (φ : Nat → Nat) (n s : Nat) : Nat := prs (mpT φ n) s 0
theorem ph_set (h1 : 1 ≤ n) (h9 : n ≤ 9) (h : ∀ q, q < n → φ q < n) {s : Nat} (hs : IsS n s) : IsS n (phS φ n s) := prs_set (mpT_ok h1 h9 h) hs (by omega)
theorem ph_bit (_h9 : n ≤ 9) {s j : Nat} (hs : IsS n s) : (phS φ n s).testBit j = true ↔ ∃ q, q ∈ bitsS s ∧ φ q = j := by
  unfold phS
  rw [prs_mem]
  constructor
  · rintro ⟨q, h1, h2⟩; exact ⟨q, h1, by rw [← h2, mpT_ld (bits_bound hs h1)]⟩
  · rintro ⟨q, h1, h2⟩; exact ⟨q, h1, by rw [mpT_ld (bits_bound hs h1), h2]⟩
theorem ph_mem (h1 : 1 ≤ n) (h9 : n ≤ 9) (h : ∀ q, q < n → φ q < n) {s j : Nat} (hs : IsS n s) : j ∈ bitsS (phS φ n s) ↔ ∃ q, q ∈ bitsS s ∧ φ q = j := by
  rw [mem_bits, ← ph_bit h9 hs]
  exact ⟨fun h => h.2, fun h' => ⟨bit_lt9 h9 (ph_set h1 h9 h hs) h', h'⟩⟩
theorem ph_prs (hM : IsM T k n) (h : Iso T U k n φ) {s b : Nat} (hs : IsS n s) (hb : b < k) : prs U (phS φ n s) b = phS φ n (prs T s b) := by
  have hp := prs_set hM hs hb
  refine Nat.eq_of_testBit_eq fun j => ?_
  rw [Bool.eq_iff_iff, prs_mem, ph_bit hM.n9 hp]
  constructor
  · rintro ⟨q, h1, h2⟩
    obtain ⟨p, h3, h4⟩ := (ph_mem hM.n1 hM.n9 h.lt hs).1 h1
    have hpn := bits_bound hs h3
    have h5 : (prs T s b).testBit (ld T b p) = true := prs_mem.2 ⟨p, h3, rfl⟩
    exact ⟨ld T b p, mem_bits.2 ⟨bit_lt9 hM.n9 hp h5, h5⟩, by rw [h.com b p hb hpn, h4, h2]⟩
  · rintro ⟨q, h1, h2⟩
    obtain ⟨p, h3, h4⟩ := prs_mem.1 (mem_bits.1 h1).2
    have hpn := bits_bound hs h3
    exact ⟨φ p, (ph_mem hM.n1 hM.n9 h.lt hs).2 ⟨p, h3, rfl⟩, by rw [← h.com b p hb hpn, h4, h2]⟩
theorem ph_img (hM : IsM T k n) (h : Iso T U k n φ) : ∀ (x : List Nat) {s : Nat}, IsS n s → okW k x → img U (phS φ n s) x = phS φ n (img T s x)
  | [], _, _, _ => rfl
  | b :: x, s, hs, hx => by
    have hb : b < k := hx b List.mem_cons_self
    show img U (prs U (phS φ n s) b) x = phS φ n (img T (prs T s b) x)
    rw [ph_prs hM h hs hb]
    exact ph_img hM h x (prs_set hM hs hb) (fun c hc => hx c (List.mem_cons_of_mem _ hc))
theorem nd_map {φ : Nat → Nat} : ∀ {l : List Nat}, l.Pairwise (· ≠ ·) → (∀ p q, p ∈ l → q ∈ l → φ p = φ q → p = q) → (l.map φ).Pairwise (· ≠ ·)
  | [], _, _ => List.Pairwise.nil
  | a :: l, h, hi => by
    obtain ⟨h1, h2⟩ := List.pairwise_cons.1 h
    rw [List.map_cons, List.pairwise_cons]
    refine ⟨fun y hy => ?_, nd_map h2 (fun p q hp hq => hi p q (List.mem_cons_of_mem _ hp) (List.mem_cons_of_mem _ hq))⟩
    obtain ⟨q, hq, rfl⟩ := List.mem_map.1 hy
    exact fun e => h1 q hq (hi a q List.mem_cons_self (List.mem_cons_of_mem _ hq) e)
theorem ph_sz (h1 : 1 ≤ n) (h9 : n ≤ 9) (h : ∀ q, q < n → φ q < n) (hi : ∀ p q, p < n → q < n → φ p = φ q → p = q) {s : Nat} (hs : IsS n s) : szS (phS φ n s) = szS s := by
  refine Nat.le_antisymm (img_sz (mpT_ok h1 h9 h) (x := [0]) hs (fun b hb => by simp at hb; omega)) ?_
  have := nd_sub (l := (bitsS s).map φ) (m := bitsS (phS φ n s)) (nd_map (bits_nd s) (fun p q hp hq => hi p q (bits_bound hs hp) (bits_bound hs hq))) (fun j hj => by
    obtain ⟨q, h2, h3⟩ := List.mem_map.1 hj
    exact (ph_mem h1 h9 h hs).2 ⟨q, h2, h3⟩)
  rw [List.length_map] at this
  exact this
theorem ph_full (h1 : 1 ≤ n) (h9 : n ≤ 9) (h : ∀ q, q < n → φ q < n) (hi : ∀ p q, p < n → q < n → φ p = φ q → p = q) : phS φ n (2 ^ n - 1) = 2 ^ n - 1 := by
  have hs : IsS n (2 ^ n - 1) := by have := Nat.two_pow_pos n; unfold IsS; omega
  have hp := ph_set h1 h9 h hs
  refine Nat.eq_of_testBit_eq fun j => ?_
  rw [Bool.eq_iff_iff, ph_bit h9 hs, Nat.testBit_two_pow_sub_one, decide_eq_true_iff]
  constructor
  · rintro ⟨q, h2, h3⟩
    rw [← h3]; exact h q (bits_bound hs h2)
  · intro hj
    obtain ⟨q, h2, h3⟩ := inj_surj n φ h hi j hj
    exact ⟨q, mem_bits.2 ⟨by omega, by rw [Nat.testBit_two_pow_sub_one]; exact decide_eq_true h2⟩, h3⟩
theorem seek_ph (hM : IsM T k n) (hN : IsM U k n) (h : Iso T U k n φ) (m : Nat) : seek U k (2 ^ n - 1) (few m) = (seek T k (2 ^ n - 1) (few m)).map fun e => (phS φ n e.1, e.2) := by
  have hs : IsS n (2 ^ n - 1) := by have := Nat.two_pow_pos n; unfold IsS; omega
  have hf : ∀ v, okW k v → few m (img U (2 ^ n - 1) v) = few m (img T (2 ^ n - 1) v) := fun v hv => by
    have e := ph_img hM h v hs hv
    rw [ph_full hM.n1 hM.n9 h.lt h.inj] at e
    unfold few
    rw [e, ph_sz hM.n1 hM.n9 h.lt h.inj (img_set hM hs hv)]
  cases e : seek T k (2 ^ n - 1) (few m) with
  | none =>
    refine (seek_none hN hs).2 fun v hv => ?_
    rw [hf v hv]
    exact (seek_none hM hs).1 e v hv
  | some p =>
    obtain ⟨t, w⟩ := p
    obtain ⟨h1, h2, h3, h4⟩ := seek_some hM hs e
    rw [seek_eq hN hs h1 (by rw [hf w h1, h2]; exact h3) (fun v hv hg => h4 v hv (by rw [← hf v hv]; exact hg))]
    have e2 := ph_img hM h w hs h1
    rw [ph_full hM.n1 hM.n9 h.lt h.inj, h2] at e2
    rw [e2]; rfl
theorem sh_ph (hM : IsM T k n) (hN : IsM U k n) (h : Iso T U k n φ) : shE U k (2 ^ n - 1) = (phS φ n (shE T k (2 ^ n - 1)).1, (shE T k (2 ^ n - 1)).2) := by
  have hs : IsS n (2 ^ n - 1) := by have := Nat.two_pow_pos n; unfold IsS; omega
  have h1 := seek_at hM hs
  have h2 := seek_at hN hs
  have e : szS (shE U k (2 ^ n - 1)).1 = szS (shE T k (2 ^ n - 1)).1 := by
    rcases Nat.lt_trichotomy (szS (shE U k (2 ^ n - 1)).1) (szS (shE T k (2 ^ n - 1)).1) with h3 | h3 | h3
    · rw [seek_ph hM hN h, seek_below hM hs h3] at h2; cases h2
    · exact h3
    · have := seek_below hN hs h3
      rw [seek_ph hM hN h, h1] at this; cases this
  rw [e, seek_ph hM hN h, h1] at h2
  exact (Option.some.inj h2).symm
end Go.Proofs.YtignbpipdfjkeaaDoor
