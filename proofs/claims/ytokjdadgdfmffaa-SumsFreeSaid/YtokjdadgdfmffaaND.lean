/- SumsAlways: what holds of the part that is found; lists of rows. -/
import Derived.Test.YtokjdadgdfmffaaNC
import Derived.Test.YtokjdadgdfmffaaLM
import Derived.Test.YtokjdadgdfmffaaML
namespace Go.Proofs.Ytokjdadgdfmffaa
open Go.RowKit Ols
set_option maxHeartbeats 2000000
set_option maxRecDepth 100000
/-- Rows that are shared. -/
def RowsC (w : World) (cs : List Value) (L : List (List Int)) : Prop := cs.length = L.length ∧ ∀ j, j < L.length → ∃ B c, cs[j]? = some (.slice B (getl L j).length c) ∧ IntsAt w B (getl L j)
theorem RowsC.nil (w : World) : RowsC w [] [] := ⟨rfl, fun j hj => absurd hj (by simp)⟩
theorem RowsC.below {w w' : World} {cs : List Value} {L : List (List Int)} (h : RowsC w cs L) (b : Below w.heap.size w w') : RowsC w' cs L := ⟨h.1, fun j hj => by
  obtain ⟨B, c, h1, h2⟩ := h.2 j hj
  exact ⟨B, c, h1, h2.below b⟩⟩
theorem RowsC.add {w : World} {cs : List Value} {L : List (List Int)} {B : Option Addr} {c : Nat} {r : List Int} (h : RowsC w cs L) (hi : IntsAt w B r) : RowsC w (cs ++ [.slice B r.length c]) (L ++ [r]) := by
  refine ⟨by simp [h.1], fun j hj => ?_⟩
  rw [List.length_append, List.length_singleton] at hj
  rw [getl_app]
  by_cases e : j < L.length
  · obtain ⟨B', c', h1, h2⟩ := h.2 j e
    refine ⟨B', c', ?_, ?_⟩
    · rw [List.getElem?_append_left (by rw [h.1]; exact e), if_pos e]; exact h1
    · rw [if_pos e]; exact h2
  · have e2 : j = L.length := by omega
    refine ⟨B, c, ?_, ?_⟩
    · rw [List.getElem?_append_right (by rw [h.1]; omega), h.1, if_neg e, if_pos e2, e2, Nat.sub_self]; rfl
    · rw [if_neg e, if_pos e2]; exact hi
theorem rowsC_at {w : World} {C c n : Nat} {A : Option Addr} {cs : List Value} {L : List (List Int)} (h : RowsC w cs L) (hu : w.ownsRow C 22 1 (.slice A n c) n cs) : RowsAt w A L := fun hp => by
  have hn : cs.length = n := by have := hu.1; omega
  rcases hu.2 with ⟨h1, h0⟩ | ⟨g, cap, cur, h1, hb, hg, hc, _, hs, ht⟩
  · have := h.1; omega
  · injection h1 with h1 h2 h3
    subst h1 h3
    refine ⟨g, 0, rfl, (Array.getElem?_eq_some_iff.1 hg).1, fun j hj => ?_⟩
    obtain ⟨A', c', h4, h6⟩ := h.2 j hj
    refine ⟨A', c', ?_, h6⟩
    have := hu.cells (g := g) rfl j _ h4
    rw [WideShapes.add_plain] at this
    exact this
theorem isG_12 {g : List Int} {m n : Nat} (h : IsG g m n) : m ≤ 12 ∧ m ∣ n := by
  obtain ⟨⟨g1, g2, g3, g4⟩, _, h2, h3, h4⟩ := h
  have hd := Nat.dvd_of_mod_eq_zero h4
  refine ⟨?_, hd⟩
  have := Nat.le_of_dvd (by omega) hd
  apply Nat.le_of_not_lt
  intro hlt
  have h5 : 13 * 13 ≤ m * n := Nat.mul_le_mul (by omega) (by omega)
  omega
theorem rl_el {m n : Nat} {L : List (List Int)} (hg : Gr m n) (hv : rlV m n L = true) : ∀ e ∈ rlE m L, El m n e.1 e.2 := fun e he => by
  obtain ⟨i, hi, rfl⟩ := List.getElem_of_mem he
  exact (rlV_el hg hv).2 i hi
theorem rl_len (m : Nat) (L : List (List Int)) : (rlE m L).length = L.length := by simp [rlE]
/-- No part: the list is shorter than the bound. -/
theorem always_none {g : List Int} {m n : Nat} {L : List (List Int)} (hg : IsG g m n) (hv : rlV m n L = true) (hz : zrL m n L 0 0 = []) : L.length + 1 < m + n := by
  have h := free_short hg.1 (isG_12 hg).1 (isG_12 hg).2 (rl_el hg.1 hv) (el_zero hg.1) (by
    have : shF m n 0 (rlE m L) 0 0 = [] := hz
    rw [this]; rfl)
  rwa [rl_len] at h
theorem sF_congr {f h : Nat → Int} : ∀ (T : List Nat), (∀ x ∈ T, f x = h x) → sF f T = sF h T
  | [], _ => rfl
  | x :: T, H => by
    show f x + sF f T = h x + sF h T
    rw [H x (by simp), sF_congr T fun y hy => H y (List.mem_cons_of_mem _ hy)]
theorem rl_getD (m : Nat) {L : List (List Int)} {x : Nat} (h : x < L.length) : (rlE m L).getD x (0, 0) = (elA m (getl L x), elB m (getl L x)) := by
  have h2 : x < (rlE m L).length := by rw [rl_len]; exact h
  rw [List.getD_eq_getElem?_getD, List.getElem?_eq_getElem h2, Option.getD_some, rlE_at m L h h2]
/-- What holds of the part that is found. -/
theorem always_some {g : List Int} {m n : Nat} {L : List (List Int)} (hg : IsG g m n) (hv : rlV m n L = true) (hz : zrL m n L 0 0 ≠ []) : ∃ Z : List Nat, zrL m n L 0 0 = Z.map (fun x : Nat => (x : Int)) ∧ 1 ≤ Z.length ∧ Z.length + 1 ≤ m + n ∧ Z.Pairwise (· < ·) ∧
    (∀ x ∈ Z, x < L.length) ∧ fL g.length (tF g L Z) = List.replicate g.length 0 ∧ rlV m n (Z.tail.map (getl L)) = true ∧ zrL m n (Z.tail.map (getl L)) 0 0 = [] := by
  have hel := rl_el hg.1 hv
  have h0 := el_zero hg.1
  have hz0 : 0 < (shF m n 0 (rlE m L) 0 0).length := List.length_pos_iff.2 hz
  have hs := sh_sound hg.1 (rlE m L) 0 0 0 hz0
  have hsh := part_short hg.1 (isG_12 hg).1 (isG_12 hg).2 hel h0 hz0
  have hs2 := hs
  rw [range_es (rlE m L)] at hs2
  obtain ⟨Z, z1, z2, z3, z4⟩ := isP_pos _ _ _ _ _ _ hs2
  rw [← range_es] at z2
  rw [rl_len] at z1
  have hZr : ∀ x ∈ Z, x < L.length := fun x hx => by
    have := z1.subset hx
    rw [List.mem_range'_1] at this
    omega
  have hZl : (shF m n 0 (rlE m L) 0 0).length = Z.length := by rw [z2, List.length_map]
  rw [hZl] at hsh hz0
  have hzv := (of_decide_eq_true hv : L.length ≤ 60 ∧ ∀ i, i < L.length → elV m n (getl L i) = true)
  have hlen60 : Z.length ≤ L.length := by have := z1.length_le; rwa [List.length_range'] at this
  refine ⟨Z, z2, hz0, hsh, List.Pairwise.sublist z1 (by rw [← List.range_eq_range']; exact List.pairwise_lt_range), hZr, ?_, ?_, ?_⟩
  · have hd : ∀ {p : Nat} {S : Int}, (p : Int) ∣ 0 - S → S % p = 0 := fun h => Int.emod_eq_zero_of_dvd (by
      have := Int.dvd_neg.2 h
      rwa [Int.zero_sub, Int.neg_neg] at this)
    have h1 := hd z3
    have h2 := hd z4
    apply List.ext_getElem (by simp [fL])
    intro i hi1 hi2
    simp only [List.getElem_replicate]
    rw [fL_len] at hi1
    have e : (fL g.length (tF g L Z))[i]'(by rw [fL_len]; exact hi1) = tF g L Z i := by simp [fL]
    rw [e]
    unfold tF
    obtain ⟨_, ⟨rfl, hm⟩ | ⟨rfl, hm⟩, _⟩ := hg
    · obtain rfl : i = 0 := by simp at hi1; omega
      rw [sF_congr Z (h := fun x => ((rlE m L).getD x (0, 0)).2) fun x hx => ?_]
      · exact h2
      · rw [rl_getD m (hZr x hx)]
        have hvx := hzv.2 x (hZr x hx)
        generalize getl L x = r at *
        match r, hvx with
        | [y], _ => simp [elB, hm]; rfl
        | [x, y], h3 =>
          have h3' : m ≠ 1 ∧ (0 ≤ x ∧ x < m) ∧ 0 ≤ y ∧ y < n := of_decide_eq_true h3
          exact absurd hm h3'.1
    · have hi : i < 2 := hi1
      have hm1 : ¬ m = 1 := by omega
      obtain rfl | rfl : i = 0 ∨ i = 1 := by omega
      · rw [sF_congr Z (h := fun x => ((rlE m L).getD x (0, 0)).1) fun x hx => ?_]
        · exact h1
        · rw [rl_getD m (hZr x hx)]
          have hvx := hzv.2 x (hZr x hx)
          generalize getl L x = r at *
          match r, hvx with
          | [y], h3 =>
            have h3' : m = 1 ∧ 0 ≤ y ∧ y < n := of_decide_eq_true h3
            exact absurd h3'.1 hm1
          | [x, y], _ => simp [elA, hm1]; rfl
      · rw [sF_congr Z (h := fun x => ((rlE m L).getD x (0, 0)).2) fun x hx => ?_]
        · exact h2
        · rw [rl_getD m (hZr x hx)]
          have hvx := hzv.2 x (hZr x hx)
          generalize getl L x = r at *
          match r, hvx with
          | [y], h3 =>
            have h3' : m = 1 ∧ 0 ≤ y ∧ y < n := of_decide_eq_true h3
            exact absurd h3'.1 hm1
          | [x, y], _ => simp [elB, hm1]; rfl
  · refine decide_eq_true ⟨by rw [List.length_map, List.length_tail]; omega, fun i hi => ?_⟩
    have hi2 : i < Z.tail.length := by simpa using hi
    have e : getl (Z.tail.map (getl L)) i = getl L Z.tail[i] := by
      show (Z.tail.map (getl L)).getD i [] = _
      rw [List.getD_eq_getElem?_getD, List.getElem?_eq_getElem hi, Option.getD_some, List.getElem_map]
    rw [e]
    exact hzv.2 _ (hZr _ (List.mem_of_mem_tail (List.getElem_mem hi2)))
  · cases Z with
    | nil => simp at hz0
    | cons q Z =>
      have h := rest_free hg.1 hel h0 (q := (q : Int)) (z := Z.map fun x : Nat => (x : Int)) z2
      have e : (Z.map fun x : Nat => (x : Int)).map (fun x => (rlE m L).getD x.toNat (0, 0)) = rlE m (Z.map (getl L)) := by
        rw [List.map_map]
        unfold rlE
        rw [List.map_map]
        refine List.map_congr_left fun x hx => ?_
        show (rlE m L).getD x (0, 0) = _
        rw [rl_getD m (hZr x (List.mem_cons_of_mem _ hx))]; rfl
      rw [e] at h
      exact List.eq_nil_of_length_eq_zero h
end Go.Proofs.Ytokjdadgdfmffaa
