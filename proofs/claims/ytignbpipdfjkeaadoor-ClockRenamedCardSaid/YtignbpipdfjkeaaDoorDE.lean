/- An order by insertion, and the machine named by it: mathematics. -/
import Derived.Test.YtignbpipdfjkeaaDoorDD
namespace Go.Proofs.YtignbpipdfjkeaaDoor
set_option maxHeartbeats 1000000
set_option maxRecDepth 100000
/-- Where the number i is put in. -/
def atO (l : List Int) (i : Nat) : Nat := if i < l.length then modI (geti l i) (i + 1) else i
/-- The order after i steps. -/
def ordO (l : List Int) : Nat → List Nat
  | 0 => []
  | i + 1 => (ordO l i).take (atO l i) ++ [i] ++ (ordO l i).drop (atO l i)
theorem atO_le (l : List Int) (i : Nat) : atO l i ≤ i := by
  unfold atO
  split
  · have := modI_lt (geti l i) (show 0 < i + 1 by omega); omega
  · exact Nat.le_refl _
theorem ordO_len (l : List Int) : ∀ i, (ordO l i).length = i
  | 0 => rfl
  | i + 1 => by
    have h1 := ordO_len l i
    have h2 := atO_le l i
    unfold ordO
    simp only [List.length_append, List.length_take, List.length_drop, List.length_singleton, h1]
    omega
theorem ordO_mem (l : List Int) : ∀ i x, x ∈ ordO l i → x < i
  | 0, _, h => by cases h
  | i + 1, x, h => by
    unfold ordO at h
    rw [List.mem_append, List.mem_append] at h
    rcases h with (h | h) | h
    · have := ordO_mem l i x (List.mem_of_mem_take h); omega
    · have := List.mem_singleton.1 h; omega
    · have := ordO_mem l i x (List.mem_of_mem_drop h); omega
theorem ordO_nd (l : List Int) : ∀ i, (ordO l i).Pairwise (· ≠ ·)
  | 0 => List.Pairwise.nil
  | i + 1 => by
    have ih := ordO_nd l i
    have hs : (ordO l i).take (atO l i) ++ (ordO l i).drop (atO l i) = ordO l i := List.take_append_drop _ _
    rw [← hs, List.pairwise_append] at ih
    obtain ⟨h1, h2, h3⟩ := ih
    unfold ordO
    rw [List.append_assoc, List.pairwise_append]
    refine ⟨h1, ?_, fun a ha b hb => ?_⟩
    · rw [List.singleton_append, List.pairwise_cons]
      exact ⟨fun b hb => by have := ordO_mem l i b (List.mem_of_mem_drop hb); omega, h2⟩
    · rw [List.singleton_append, List.mem_cons] at hb
      rcases hb with rfl | hb
      · have := ordO_mem l _ a (List.mem_of_mem_take ha); omega
      · exact h3 a ha b hb
theorem ordO_lt (l : List Int) {n q : Nat} (h : q < n) : getn (ordO l n) q < n := ordO_mem l n _ (getn_mem (by rw [ordO_len]; exact h))
theorem nd_inj : ∀ {xs : List Nat}, xs.Pairwise (· ≠ ·) → ∀ p q, p < xs.length → q < xs.length → getn xs p = getn xs q → p = q
  | [], _, p, q, h, _, _ => absurd h (Nat.not_lt_zero p)
  | a :: xs, h, p, q, hp, hq, e => by
    obtain ⟨h1, h2⟩ := List.pairwise_cons.1 h
    rcases p with _ | p
    · rcases q with _ | q
      · rfl
      · exact absurd e (h1 _ (getn_mem (xs := xs) (k := q) (by simpa using hq)))
    · rcases q with _ | q
      · exact absurd e.symm (h1 _ (getn_mem (xs := xs) (k := p) (by simpa using hp)))
      · have := nd_inj h2 p q (by simpa using hp) (by simpa using hq) e
        omega
theorem ordO_inj (l : List Int) {n p q : Nat} (hp : p < n) (hq : q < n) (e : getn (ordO l n) p = getn (ordO l n) q) : p = q :=
  nd_inj (ordO_nd l n) p q (by rw [ordO_len]; exact hp) (by rw [ordO_len]; exact hq) e
/-- A row of the named machine after c steps. -/
def yR (o : List Nat) (r : List Int) (n : Nat) : Nat → List Int
  | 0 => List.replicate n 0
  | c + 1 => (yR o r n c).set (getn o c) (getn o (geti r c).toNat : Nat)
theorem yR_len (o : List Nat) (r : List Int) (n : Nat) : ∀ c, (yR o r n c).length = n
  | 0 => List.length_replicate
  | c + 1 => by unfold yR; rw [List.length_set]; exact yR_len o r n c
theorem yR_get {o : List Nat} {r : List Int} {n : Nat} (hl : ∀ q, q < n → getn o q < n) (hi : ∀ p q, p < n → q < n → getn o p = getn o q → p = q) : ∀ c, c ≤ n → ∀ q, q < c → geti (yR o r n c) (getn o q) = (getn o (geti r q).toNat : Nat)
  | 0, _, q, h => absurd h (Nat.not_lt_zero q)
  | c + 1, hc, q, hq => by
    unfold yR
    rw [geti_set (by rw [yR_len]; exact hl c (by omega))]
    by_cases e : getn o c = getn o q
    · rw [if_pos e]
      obtain rfl := hi c q (by omega) (by omega) e
      rfl
    · rw [if_neg e]
      have : q ≠ c := fun e2 => e (by rw [e2])
      exact yR_get hl hi c (by omega) q (by omega)
/-- The named machine. -/
def yM (o : List Nat) (L : List (List Int)) (n : Nat) : List (List Int) := L.map fun r => yR o r n n
theorem getl_yM {o : List Nat} {L : List (List Int)} {n b : Nat} (hb : b < L.length) : getl (yM o L n) b = yR o (getl L b) n n := by
  unfold getl yM
  rw [List.getD_eq_getElem?_getD, List.getD_eq_getElem?_getD, List.getElem?_map, List.getElem?_eq_getElem hb]
  rfl
theorem yM_row {o : List Nat} {L : List (List Int)} {n b : Nat} (hb : b < L.length) : (getl (yM o L n) b).length = n := by rw [getl_yM hb, yR_len]
theorem yM_ok {L : List (List Int)} (h : IsMI L) {o : List Nat} (hl : ∀ q, q < nS L → getn o q < nS L) (hi : ∀ p q, p < nS L → q < nS L → getn o p = getn o q → p = q) :
    IsMI (yM o L (nS L)) ∧ nS (yM o L (nS L)) = nS L ∧ (yM o L (nS L)).length = L.length ∧ Iso (tabN L) (tabN (yM o L (nS L))) L.length (nS L) (getn o) := by
  have hlen : (yM o L (nS L)).length = L.length := by unfold yM; rw [List.length_map]
  have hn : nS (yM o L (nS L)) = nS L := yM_row h.k1
  have hv : ∀ b q, b < L.length → q < nS L → gat (yM o L (nS L)) b (getn o q) = (getn o (gat L b q).toNat : Nat) := fun b q hb hq => by
    unfold gat
    rw [getl_yM hb, yR_get hl hi (nS L) (Nat.le_refl _) q hq]
  have hg : ∀ b q, b < L.length → q < nS L → (gat L b q).toNat < nS L := fun b q hb hq => by
    have h1 := h.lo b q hb hq
    have h2 := h.hi b q hb hq
    omega
  have hr : ∀ b j, b < L.length → j < nS L → ∃ q, q < nS L ∧ getn o q = j ∧ gat (yM o L (nS L)) b j = (getn o (gat L b q).toNat : Nat) := fun b j hb hj => by
    obtain ⟨q, h1, h2⟩ := inj_surj (nS L) (getn o) hl hi j hj
    exact ⟨q, h1, h2, by rw [← h2, hv b q hb h1]⟩
  have hO : IsMI (yM o L (nS L)) := by
    refine ⟨by rw [hlen]; exact h.k1, by rw [hlen]; exact h.k4, by rw [hn]; exact h.n1, by rw [hn]; exact h.n9, fun b hb => ?_, fun b j hb hj => ?_, fun b j hb hj => ?_⟩
    · rw [hn]; exact yM_row (by rw [hlen] at hb; exact hb)
    · rw [hlen] at hb; rw [hn] at hj
      obtain ⟨q, -, -, e⟩ := hr b j hb hj
      rw [e]; omega
    · rw [hlen] at hb; rw [hn] at hj ⊢
      obtain ⟨q, h1, -, e⟩ := hr b j hb hj
      rw [e]
      have := hl _ (hg b q hb h1)
      omega
  refine ⟨hO, hn, hlen, hl, hi, fun b q hb hq => ?_⟩
  have e1 := (h.ld b q).1
  have e2 := (hO.ld b (getn o q)).1
  rw [hv b q hb hq] at e2
  have e3 : (gat L b q).toNat = ld (tabN L) b q := by rw [e1]; exact Int.toNat_natCast _
  rw [e3] at e2
  exact Int.ofNat.inj e2
end Go.Proofs.YtignbpipdfjkeaaDoor
