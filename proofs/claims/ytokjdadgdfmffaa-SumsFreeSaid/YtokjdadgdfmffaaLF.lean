/- Cauchy and Davenport; sums of sets. -/
import Derived.Test.YtokjdadgdfmffaaLC
namespace Go.Proofs.Ytokjdadgdfmffaa
set_option maxRecDepth 100000
/-! Cauchy and Davenport. -/
theorem sub_len : ∀ (A S : List Int), A.Nodup → (∀ a ∈ A, a ∈ S) → A.length ≤ S.length
  | [], _, _, _ => Nat.zero_le _
  | a :: A, S, hn, h => by
    rw [List.nodup_cons] at hn
    have ha := h a (by simp)
    have h1 := sub_len A (S.erase a) hn.2 (fun x hx => by
      rw [List.mem_erase_of_ne (fun e => hn.1 (by rw [← e]; exact hx))]
      exact h x (List.mem_cons_of_mem _ hx))
    rw [List.length_erase_of_mem ha] at h1
    have : 0 < S.length := List.length_pos_of_mem ha
    simp only [List.length_cons]
    omega
theorem cauchy {p : Nat} (hp : Pr p) : ∀ (k : Nat) (A B S : List Int), B.length ≤ k → A.Nodup → B.Nodup → (∀ a ∈ A, 0 ≤ a ∧ a < p) → (∀ b ∈ B, 0 ≤ b ∧ b < p) → 0 < A.length → 0 < B.length →
    (∀ a ∈ A, ∀ b ∈ B, (a + b) % p ∈ S) → min p (A.length + B.length - 1) ≤ S.length := by
  intro k
  induction k with
  | zero => intro A B S h _ _ _ _ _ h2 _; omega
  | succ k ih =>
    intro A B S hk hA hB hrA hrB hlA hlB hS
    have hp2 := hp.1
    have hAS : A.length ≤ S.length := by
      have hb : B[0] ∈ B := List.getElem_mem _
      have h1 := sub_len (A.map fun r => (r + B[0]) % p) S (map_nodup hA hrA B[0]) (fun x hx => by
        obtain ⟨a, ha, rfl⟩ := List.mem_map.1 hx
        exact hS a ha _ hb)
      rwa [List.length_map] at h1
    by_cases h1 : B.length = 1
    · omega
    · by_cases hall : ∀ z : Int, 0 ≤ z → z < p → z ∈ A
      · have := pig2 p A hall
        omega
      · have hz : ∃ z : Int, (0 ≤ z ∧ z < p) ∧ z ∉ A := Classical.byContradiction fun hno => hall fun z h0 h1 => Classical.byContradiction fun hz => hno ⟨z, ⟨h0, h1⟩, hz⟩
        obtain ⟨z, ⟨z0, z1⟩, hz⟩ := hz
        have hb1 : B[0] ∈ B := List.getElem_mem _
        have hb2 : B[1] ∈ B := List.getElem_mem _
        have hne : B[0] ≠ B[1] := (List.pairwise_iff_getElem.1 hB) 0 1 (by omega) (by omega) (by omega)
        generalize B[0] = b1 at *
        generalize B[1] = b2 at *
        have hd : ¬ (p : Int) ∣ b2 - b1 := fun h => by
          have h3 := emod_eq_iff.2 h
          rw [Int.emod_eq_of_lt (hrB _ hb2).1 (hrB _ hb2).2, Int.emod_eq_of_lt (hrB _ hb1).1 (hrB _ hb1).2] at h3
          exact hne h3.symm
        have ha0 : A[0] ∈ A := List.getElem_mem _
        obtain ⟨a, ha, hout⟩ := step_out hp hd ha0 (hrA _ ha0) hz z0 z1
        have hin : (b1 + (a - b1)) % p ∈ A := by
          rw [show b1 + (a - b1) = a by omega, Int.emod_eq_of_lt (hrA _ ha).1 (hrA _ ha).2]; exact ha
        have hout2 : (b2 + (a - b1)) % p ∉ A := by rwa [show b2 + (a - b1) = a + (b2 - b1) by omega]
        generalize a - b1 = e at *
        have hlen : (B.filter fun b => decide ((b + e) % p ∈ A)).length + (B.filter fun b => !decide ((b + e) % p ∈ A)).length = B.length := by
          rw [← List.countP_eq_length_filter, ← List.countP_eq_length_filter]
          have := List.length_eq_countP_add_countP (fun b => decide ((b + e) % p ∈ A)) (l := B)
          simp only [Bool.not_eq_true, Bool.decide_eq_false] at this
          omega
        have hB1 : b1 ∈ B.filter fun b => decide ((b + e) % p ∈ A) := List.mem_filter.2 ⟨hb1, decide_eq_true hin⟩
        have hB2 : b2 ∈ B.filter fun b => !decide ((b + e) % p ∈ A) := List.mem_filter.2 ⟨hb2, by rw [decide_eq_false hout2]; rfl⟩
        have l1 := List.length_pos_of_mem hB1
        have l2 := List.length_pos_of_mem hB2
        have hm1 : ∀ b ∈ B.filter (fun b => decide ((b + e) % p ∈ A)), b ∈ B ∧ (b + e) % p ∈ A := fun b hb => by
          obtain ⟨h1, h2⟩ := List.mem_filter.1 hb
          exact ⟨h1, of_decide_eq_true h2⟩
        have hm2 : ∀ b ∈ B.filter (fun b => !decide ((b + e) % p ∈ A)), b ∈ B ∧ (b + e) % p ∉ A := fun b hb => by
          obtain ⟨h1, h2⟩ := List.mem_filter.1 hb
          refine ⟨h1, fun h3 => ?_⟩
          rw [decide_eq_true h3] at h2
          cases h2
        have n1 : (B.filter fun b => decide ((b + e) % p ∈ A)).Nodup := hB.filter _
        have n2 : (B.filter fun b => !decide ((b + e) % p ∈ A)).Nodup := hB.filter _
        generalize B.filter (fun b => decide ((b + e) % p ∈ A)) = B1 at *
        generalize B.filter (fun b => !decide ((b + e) % p ∈ A)) = B2 at *
        have h5 := ih (A ++ B2.map fun b => (b + e) % p) B1 S (by omega) ?_ n1 ?_ (fun b hb => hrB b (hm1 b hb).1) (by rw [List.length_append]; omega) l1 ?_
        · rw [List.length_append, List.length_map] at h5
          rw [show A.length + B2.length + B1.length = A.length + B.length by omega] at h5
          exact h5
        · rw [List.nodup_append]
          refine ⟨hA, map_nodup n2 (fun b hb => hrB b (hm2 b hb).1) e, fun x hx y hy heq => ?_⟩
          obtain ⟨b, hb, rfl⟩ := List.mem_map.1 hy
          exact (hm2 b hb).2 (heq ▸ hx)
        · intro x hx
          rcases List.mem_append.1 hx with hx | hx
          · exact hrA x hx
          · obtain ⟨b, _, rfl⟩ := List.mem_map.1 hx
            exact ⟨Int.emod_nonneg _ (by omega), Int.emod_lt_of_pos _ (by omega)⟩
        · intro x hx y hy
          rcases List.mem_append.1 hx with hx | hx
          · exact hS x hx y (hm1 y hy).1
          · obtain ⟨b, hb, rfl⟩ := List.mem_map.1 hx
            have h6 := hS _ (hm1 y hy).2 b (hm2 b hb).1
            rw [Int.emod_add_emod] at h6 ⊢
            rwa [show b + e + y = y + e + b by omega]
theorem mem_colL {S : List Int} {k : Nat} {x : Int} : x ∈ colL S k ↔ (0 ≤ x ∧ x < k) ∧ x ∈ S := by
  unfold colL
  rw [List.mem_map]
  constructor
  · rintro ⟨v, hv, rfl⟩
    rw [List.mem_filter, List.mem_range] at hv
    exact ⟨by omega, of_decide_eq_true hv.2⟩
  · rintro ⟨⟨h1, h2⟩, h3⟩
    obtain ⟨v, rfl⟩ := Int.eq_ofNat_of_zero_le h1
    exact ⟨v, by rw [List.mem_filter, List.mem_range]; exact ⟨by omega, decide_eq_true h3⟩, rfl⟩
theorem colL_nodup (S : List Int) (k : Nat) : (colL S k).Nodup := by
  unfold colL
  rw [List.Nodup, List.pairwise_map]
  exact (List.nodup_range.filter _).imp (fun h e => h (by omega))
theorem colL_congr {S T : List Int} (h : ∀ x, x ∈ S ↔ x ∈ T) (k : Nat) : colL S k = colL T k := by
  unfold colL
  congr 1
  refine List.filter_congr fun v _ => ?_
  rw [Bool.eq_iff_iff, decide_eq_true_eq, decide_eq_true_eq]
  exact h v
theorem mem_SL' {p : Int} {a b : List Int} {x : Int} : x ∈ SL p a b ↔ ∃ y ∈ a, ∃ z ∈ b, (y + z) % p = x := by
  unfold SL
  rw [List.mem_flatMap]
  constructor
  · rintro ⟨y, hy, h⟩
    obtain ⟨z, hz, rfl⟩ := List.mem_map.1 h
    exact ⟨y, hy, z, hz, rfl⟩
  · rintro ⟨y, hy, z, hz, rfl⟩
    exact ⟨y, hy, List.mem_map.2 ⟨z, hz, rfl⟩⟩
theorem mem_both {p : Nat} (h1 : 1 ≤ p) (h2 : p ≤ 97) {a b : List Int} {x : Int} : x ∈ bothL p a b ↔ ∃ y ∈ a, ∃ z ∈ b, (y + z) % (p : Int) = x := by
  unfold bothL
  rw [mem_colL, mem_SL']
  constructor
  · exact fun h => h.2
  · rintro ⟨y, hy, z, hz, rfl⟩
    have e1 := Int.emod_nonneg (y + z) (b := (p : Int)) (by omega)
    have e2 := Int.emod_lt_of_pos (y + z) (b := (p : Int)) (by omega)
    exact ⟨by omega, y, hy, z, hz, rfl⟩
theorem both_comm (p : Int) (a b : List Int) : bothL p a b = bothL p b a := by
  unfold bothL
  refine colL_congr (fun x => ?_) _
  rw [mem_SL', mem_SL']
  constructor
  · rintro ⟨y, hy, z, hz, h⟩; exact ⟨z, hz, y, hy, by rwa [Int.add_comm]⟩
  · rintro ⟨y, hy, z, hz, h⟩; exact ⟨z, hz, y, hy, by rwa [Int.add_comm]⟩
theorem SL_len (p : Int) : ∀ (a b : List Int), (SL p a b).length = a.length * b.length
  | [], _ => by simp [SL]
  | x :: a, b => by
    have ih := SL_len p a b
    unfold SL at ih ⊢
    rw [List.flatMap_cons, List.length_append, List.length_map, ih, List.length_cons, Nat.add_mul]
    omega
theorem both_le (p : Int) (a b : List Int) : (bothL p a b).length ≤ a.length * b.length := by
  rw [← SL_len p a b]
  exact sub_len _ _ (colL_nodup _ _) (fun x hx => (mem_colL.1 hx).2)
theorem stV_nodup {p : Int} {xs : List Int} (h : stV p xs = true) : xs.Nodup := by
  rw [List.Nodup, List.pairwise_iff_getElem]
  intro i j hi hj hij e
  have h1 := ((of_decide_eq_true h).2 j hj).2
  apply h1
  exact mem_take.2 ⟨i, hij, hi, by rw [geti_eq hi, geti_eq hj, e]⟩
theorem stV_of {p : Int} {xs : List Int} (h0 : 0 < xs.length) (hr : ∀ x ∈ xs, 0 ≤ x ∧ x < p) (hn : xs.Nodup) : stV p xs = true := by
  refine decide_eq_true ⟨h0, fun i hi => ⟨hr _ (geti_mem hi), fun hm => ?_⟩⟩
  obtain ⟨j, h1, h2, h3⟩ := mem_take.1 hm
  rw [geti_eq h2, geti_eq hi] at h3
  exact (List.pairwise_iff_getElem.1 hn j i h2 hi h1) h3
theorem stV_mem {p : Int} {xs : List Int} (h : stV p xs = true) : ∀ x ∈ xs, 0 ≤ x ∧ x < p := fun x hx => by
  obtain ⟨i, hi, rfl⟩ := List.mem_iff_getElem.1 hx
  rw [← geti_eq hi]
  exact stV_rng h i hi
theorem prV_pr {p : Nat} (h : prV p = true) : Pr p ∧ p ≤ 97 := by
  obtain ⟨h1, h2, h3⟩ := of_decide_eq_true h
  refine ⟨pr_small (by omega) (fun d hd hd2 e => h3 d (by simpa using hd) hd2 ?_), by omega⟩
  rw [← Int.natCast_emod, e]; rfl
theorem both_ge {p : Nat} {a b : List Int} (hp : prV p = true) (ha : stV p a = true) (hb : stV p b = true) : min p (a.length + b.length - 1) ≤ (bothL p a b).length := by
  obtain ⟨h1, h2⟩ := prV_pr hp
  have hp1 := h1.1
  exact cauchy h1 b.length a b (bothL p a b) (Nat.le_refl _) (stV_nodup ha) (stV_nodup hb) (stV_mem ha) (stV_mem hb) (of_decide_eq_true ha).1 (of_decide_eq_true hb).1
    (fun x hx y hy => (mem_both (by omega) h2).2 ⟨x, hx, y, hy, rfl⟩)
/-- A set, shifted. -/
def mvL (p : Nat) (c : Int) (xs : List Int) : List Int := xs.map fun x => (x + c) % (p : Int)
theorem mv_st {p : Nat} (hp : 2 ≤ p) {xs : List Int} (h : stV p xs = true) (c : Int) : stV p (mvL p c xs) = true := by
  refine stV_of (by unfold mvL; rw [List.length_map]; exact (of_decide_eq_true h).1) (fun x hx => ?_) (map_nodup (stV_nodup h) (stV_mem h) c)
  obtain ⟨y, _, rfl⟩ := List.mem_map.1 hx
  exact ⟨Int.emod_nonneg _ (by omega), Int.emod_lt_of_pos _ (by omega)⟩
theorem mv_in {p : Nat} (h1 : 2 ≤ p) (h2 : p ≤ 97) {a b : List Int} {c x : Int} (h : x ∈ bothL p a b) : (x + c) % (p : Int) ∈ bothL p (mvL p c a) b := by
  obtain ⟨y, hy, z, hz, rfl⟩ := (mem_both (by omega) h2).1 h
  refine (mem_both (by omega) h2).2 ⟨_, List.mem_map.2 ⟨y, hy, rfl⟩, z, hz, ?_⟩
  rw [Int.emod_add_emod, Int.emod_add_emod]
  congr 1
  omega
theorem mv_out {p : Nat} (h1 : 2 ≤ p) (h2 : p ≤ 97) {a b : List Int} {c x : Int} (h : x ∈ bothL p (mvL p c a) b) : (x + -c) % (p : Int) ∈ bothL p a b := by
  obtain ⟨y, hy, z, hz, rfl⟩ := (mem_both (by omega) h2).1 h
  obtain ⟨u, hu, rfl⟩ := List.mem_map.1 hy
  refine (mem_both (by omega) h2).2 ⟨u, hu, z, hz, ?_⟩
  rw [Int.emod_add_emod, Int.add_assoc, Int.emod_add_emod]
  congr 1
  omega
theorem both_rng {p : Nat} (h1 : 2 ≤ p) {a b : List Int} : ∀ x ∈ bothL p a b, 0 ≤ x ∧ x < (p : Int) := fun x hx => by
  obtain ⟨y, hy, z, hz, rfl⟩ := mem_SL'.1 (mem_colL.1 hx).2
  exact ⟨Int.emod_nonneg _ (by omega), Int.emod_lt_of_pos _ (by omega)⟩
theorem mv_len {p : Nat} (h1 : 2 ≤ p) (h2 : p ≤ 97) (a b : List Int) (c : Int) : (bothL p (mvL p c a) b).length = (bothL p a b).length := by
  have e1 := sub_len ((bothL p a b).map fun r => (r + c) % (p : Int)) (bothL p (mvL p c a) b) (map_nodup (colL_nodup _ _) (both_rng h1) c) (fun x hx => by
    obtain ⟨y, hy, rfl⟩ := List.mem_map.1 hx
    exact mv_in h1 h2 hy)
  have e2 := sub_len ((bothL p (mvL p c a) b).map fun r => (r + -c) % (p : Int)) (bothL p a b) (map_nodup (colL_nodup _ _) (both_rng h1) (-c)) (fun x hx => by
    obtain ⟨y, hy, rfl⟩ := List.mem_map.1 hx
    exact mv_out h1 h2 hy)
  rw [List.length_map] at e1 e2
  omega
end Go.Proofs.Ytokjdadgdfmffaa
