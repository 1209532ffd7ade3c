/- Plain facts on sets of vertices, and the order of removing. -/
import Derived.Test.YtmfpegadcecknaaH
namespace Go.Proofs.Ytmfpegadcecknaa
open Go.RowKit
theorem snocInd {α : Type} {P : List α → Prop} (h0 : P []) (h1 : ∀ xs x, P xs → P (xs ++ [x])) : ∀ xs, P xs := by
  intro xs; rw [← List.reverse_reverse xs]
  induction xs.reverse with
  | nil => exact h0
  | cons x xs ih => rw [List.reverse_cons]; exact h1 _ _ ih
theorem lt16_bits {s v : Nat} (h : s < 65536) (hv : s.testBit v = true) : v < 16 := by
  rcases Nat.lt_or_ge v 16 with h1 | h1
  · exact h1
  · have : s.testBit v = false := Nat.testBit_lt_two_pow (Nat.lt_of_lt_of_le h (Nat.pow_le_pow_right (n := 2) (by omega) h1))
    rw [this] at hv; cases hv
theorem mem_ms {s v : Nat} : v ∈ ms s ↔ v < 16 ∧ sHas s v = true := by simp [ms]
theorem mem_ms' {s v : Nat} (h : s < 65536) : v ∈ ms s ↔ sHas s v = true := by
  rw [mem_ms]; exact ⟨fun h => h.2, fun hv => ⟨lt16_bits h hv, hv⟩⟩
theorem ms_ne {s : Nat} (h : s < 65536) (h0 : s ≠ 0) : ms s ≠ [] := by
  intro e
  apply h0
  apply Nat.eq_of_testBit_eq
  intro v
  rw [Nat.zero_testBit]
  cases hv : s.testBit v
  · rfl
  · have : v ∈ ms s := (mem_ms' h).2 hv
    rw [e] at this; cases this
theorem lone_spec (gs : List Nat) (s : Nat) : ∀ xs : List Nat, (∀ v ∈ xs, nb gs s v < 16) → loneF gs s xs ≤ 16 ∧ (xs ≠ [] → loneB gs s xs ∈ xs ∧ loneF gs s xs = nb gs s (loneB gs s xs)) ∧ (∀ v ∈ xs, loneF gs s xs ≤ nb gs s v) := by
  apply snocInd
  · intro _; exact ⟨Nat.le_refl _, fun h => absurd rfl h, fun v hv => by cases hv⟩
  · intro xs x ih h
    obtain ⟨i1, i2, i3⟩ := ih fun v hv => h v (List.mem_append_left _ hv)
    have hx := h x (by simp)
    by_cases hlt : nb gs s x < loneF gs s xs
    · obtain ⟨e1, e2⟩ := lone_yes hlt
      rw [e1, e2]
      refine ⟨by omega, fun _ => ⟨by simp, rfl⟩, fun v hv => ?_⟩
      rcases List.mem_append.1 hv with hv | hv
      · have := i3 v hv; omega
      · simp at hv; subst hv; omega
    · obtain ⟨e1, e2⟩ := lone_no hlt
      rw [e1, e2]
      have hne : xs ≠ [] := by
        rintro rfl
        apply hlt
        exact hx
      obtain ⟨j1, j2⟩ := i2 hne
      refine ⟨i1, fun _ => ⟨List.mem_append_left _ j1, j2⟩, fun v hv => ?_⟩
      rcases List.mem_append.1 hv with hv | hv
      · exact i3 v hv
      · simp at hv; subst hv; omega
/-- No vertex is its own neighbor. -/
def Irr (gs : List Nat) : Prop := ∀ v, v < 16 → sHas (near gs v) v = false
theorem sAnd_bit (s t v : Nat) : (sAnd s t).testBit v = (s.testBit v && t.testBit v) := Nat.testBit_and ..
theorem pc_lt {s v : Nat} (hv : v < 16) (h : s.testBit v = false) : pc 16 s < 16 := by
  unfold pc
  have h1 : ((List.range 16).filter fun v => s.testBit v).length < (List.range 16).length := List.length_filter_lt_length_iff_exists.2 ⟨v, by simpa using hv, by simp [h]⟩
  simpa using h1
theorem nb_lt {gs : List Nat} (hI : Irr gs) {s v : Nat} (hv : v < 16) : nb gs s v < 16 := by
  apply pc_lt hv
  rw [sAnd_bit]; have := hI v hv; unfold sHas at this; rw [this]; rfl
theorem lone_mem {gs : List Nat} (hI : Irr gs) {s : Nat} (hs : s < 65536) (h0 : s ≠ 0) : loneB gs s (ms s) < 16 ∧ sHas s (loneB gs s (ms s)) = true := by
  have h := (lone_spec gs s (ms s) (fun v hv => nb_lt hI (mem_ms.1 hv).1)).2.1 (ms_ne hs h0)
  exact mem_ms.1 h.1
theorem not_bit (x j : Nat) (hx : x < 4294967296) : (4294967295 - x).testBit j = (decide (j < 32) && !x.testBit j) := by
  have e : 4294967295 - x = 2^32 - (x + 1) := by omega
  rw [e]; exact Nat.testBit_two_pow_sub_succ hx j
theorem andNot_bit (s t j : Nat) (hs : s < 65536) (ht : t < 4294967296) : (sAndNot s t).testBit j = (s.testBit j && !t.testBit j) := by
  unfold sAndNot
  rw [Nat.testBit_and, not_bit _ _ ht]
  by_cases hj : j < 32
  · simp [hj]
  · have : s.testBit j = false := Nat.testBit_lt_two_pow (Nat.lt_of_lt_of_le hs (Nat.pow_le_pow_right (n := 2) (i := 16) (by omega) (by omega)))
    rw [this]; rfl
theorem without_bit (s v j : Nat) (hs : s < 65536) (hv : v < 16) : (sWithout s v).testBit j = (s.testBit j && !decide (v = j)) := by
  have := andNot_bit s (2^v) j hs (pow_lt32 (by omega))
  unfold sAndNot at this
  unfold sWithout
  rw [this, Nat.testBit_two_pow]
theorem with_bit (s v j : Nat) : (sWith s v).testBit j = (s.testBit j || decide (v = j)) := by
  unfold sWith; rw [Nat.testBit_or, Nat.testBit_two_pow]
theorem without_lt {s v : Nat} (h : s < 65536) : sWithout s v < 65536 := Nat.lt_of_le_of_lt Nat.and_le_left h
theorem pc_without {s v : Nat} (hs : s < 65536) (hv : v < 16) (h : sHas s v = true) : pc 16 (sWithout s v) + 1 = pc 16 s := by
  unfold pc
  have e : ((List.range 16).filter fun j => (sWithout s v).testBit j) = ((List.range 16).filter fun j => s.testBit j).filter fun j => !decide (v = j) := by
    rw [List.filter_filter]; apply List.filter_congr; intro j _; rw [without_bit s v j hs hv, Bool.and_comm]
  rw [e]
  have hnd : ((List.range 16).filter fun j => s.testBit j).Nodup := List.Pairwise.filter _ List.nodup_range
  have hm : v ∈ (List.range 16).filter fun j => s.testBit j := by simp [hv]; exact h
  generalize (List.range 16).filter (fun j => s.testBit j) = L at *
  have e2 : (L.filter fun j => !decide (v = j)) = L.erase v := by
    rw [hnd.erase_eq_filter]
    apply List.filter_congr; intro j _
    by_cases hj : v = j
    · subst hj; simp
    · have : j ≠ v := fun e => hj e.symm
      simp [hj, this]
  rw [e2, List.length_erase_of_mem hm]
  have : 0 < L.length := List.length_pos_of_mem hm
  omega
theorem pc_pos {s : Nat} (hs : s < 65536) (h0 : s ≠ 0) : 0 < pc 16 s := by
  have h := ms_ne hs h0
  unfold pc; unfold ms at h
  exact List.length_pos_iff.2 h
/-- The vertices in the order in which they are removed, each with its number of neighbors then. -/
def peelL (gs : List Nat) : Nat → Nat → List (Nat × Nat)
  | 0, _ => []
  | k + 1, s => (loneB gs s (ms s), loneF gs s (ms s)) :: peelL gs k (sWithout s (loneB gs s (ms s)))
theorem peelL_len (gs : List Nat) (k s : Nat) : (peelL gs k s).length = k := by
  induction k generalizing s with
  | zero => rfl
  | succ k ih => simp [peelL, ih]
end Go.Proofs.Ytmfpegadcecknaa
