/- Orders, as lists of numbers: plain mathematics. -/
import Derived.Test.YtheblebfeinjjaaNA
namespace Go.Proofs.Ytheblebfeinjjaa
open Go.RowKit
set_option maxRecDepth 100000
theorem geti_ge {l : List Int} {i : Nat} (h : l.length ≤ i) : geti l i = 0 := by
  unfold geti; rw [List.getD_eq_getElem?_getD, List.getElem?_eq_none h]; rfl
theorem geti_mem {l : List Int} {i : Nat} (h : i < l.length) : geti l i ∈ l := by
  rw [geti_eq h]; exact List.getElem_mem h
theorem mem_geti {l : List Int} {x : Int} (h : x ∈ l) : ∃ i, i < l.length ∧ geti l i = x := by
  obtain ⟨i, hi, e⟩ := List.getElem_of_mem h
  exact ⟨i, hi, by rw [geti_eq hi, e]⟩
/-- An order: at most 12 numbers, those from 1 on, each once. -/
structure IsO (l : List Int) : Prop where
  le : l.length ≤ 12
  lo : ∀ i, i < l.length → 1 ≤ geti l i
  hi : ∀ i, i < l.length → geti l i ≤ l.length
  ne : ∀ i k, i < l.length → k < i → geti l k ≠ geti l i
def okO (l : List Int) : Bool := decide (l.length ≤ 12) && (List.range l.length).all fun i => decide (1 ≤ geti l i) && decide (geti l i ≤ l.length) && (List.range i).all fun k => decide (geti l k ≠ geti l i)
theorem okO_iff {l : List Int} : okO l = true ↔ IsO l := by
  unfold okO
  simp only [Bool.and_eq_true, decide_eq_true_eq, List.all_eq_true, List.mem_range]
  constructor
  · rintro ⟨h1, h2⟩
    exact ⟨h1, fun i hi => (h2 i hi).1.1, fun i hi => (h2 i hi).1.2, fun i k hi hk => (h2 i hi).2 k hk⟩
  · intro h
    exact ⟨h.le, fun i hi => ⟨⟨h.lo i hi, h.hi i hi⟩, fun k hk => h.ne i k hi hk⟩⟩
theorem IsO.nodup {l : List Int} (h : IsO l) : l.Nodup := by
  rw [List.nodup_iff_pairwise_ne, List.pairwise_iff_getElem]
  intro i j hi hj hij
  have := h.ne j i hj hij
  rwa [geti_eq hi, geti_eq hj] at this
theorem perm_of_sub : ∀ {a b : List Int}, a.Nodup → (∀ x ∈ a, x ∈ b) → b.length ≤ a.length → a.Perm b
  | [], b, _, _, hl => by
    have : b = [] := List.eq_nil_of_length_eq_zero (by simpa using hl)
    rw [this]
  | x :: t, b, hn, hs, hl => by
    obtain ⟨h1, h2⟩ := List.nodup_cons.1 hn
    have hx : x ∈ b := hs x (List.mem_cons_self ..)
    have hp := List.perm_cons_erase hx
    refine List.Perm.trans (List.Perm.cons x (perm_of_sub h2 (fun y hy => ?_) ?_)) hp.symm
    · have hy2 := hs y (List.mem_cons_of_mem _ hy)
      have hne : y ≠ x := fun e => h1 (e ▸ hy)
      exact (List.mem_erase_of_ne hne).2 hy2
    · rw [List.length_erase_of_mem hx]
      simp only [List.length_cons] at hl
      omega
def asc (n : Nat) : List Int := (List.range n).map fun i : Nat => (i : Int) + 1
theorem asc_len (n : Nat) : (asc n).length = n := by simp [asc]
theorem asc_at {n i : Nat} (h : i < n) : geti (asc n) i = i + 1 := by
  unfold geti asc
  rw [List.getD_eq_getElem?_getD, List.getElem?_map, List.getElem?_range h]; rfl
theorem mem_asc {n : Nat} {x : Int} : x ∈ asc n ↔ 1 ≤ x ∧ x ≤ n := by
  unfold asc
  rw [List.mem_map]
  constructor
  · rintro ⟨i, hi, rfl⟩
    rw [List.mem_range] at hi
    omega
  · rintro ⟨h1, h2⟩
    exact ⟨(x - 1).toNat, by rw [List.mem_range]; omega, by omega⟩
theorem asc_sorted (n : Nat) : (asc n).Pairwise (· < ·) := by
  rw [List.pairwise_iff_getElem]
  intro i j hi hj hij
  rw [← geti_eq hi, ← geti_eq hj]
  rw [asc_len] at hi hj
  rw [asc_at hi, asc_at hj]
  omega
theorem asc_nodup (n : Nat) : (asc n).Nodup := by
  rw [List.nodup_iff_pairwise_ne]
  exact (asc_sorted n).imp (fun h => by omega)
theorem IsO.perm {l : List Int} (h : IsO l) : l.Perm (asc l.length) :=
  perm_of_sub h.nodup (fun x hx => by
    obtain ⟨i, hi, rfl⟩ := mem_geti hx
    exact mem_asc.2 ⟨h.lo i hi, h.hi i hi⟩) (by rw [asc_len]; omega)
theorem IsO.of_perm {l : List Int} {n : Nat} (hl : l.length ≤ 12) (h : l.Perm (asc n)) : IsO l := by
  have hn : l.length = n := by rw [h.length_eq, asc_len]
  subst hn
  have hnd : l.Nodup := h.nodup_iff.2 (asc_nodup _)
  refine ⟨hl, fun i hi => ?_, fun i hi => ?_, fun i k hi hk => ?_⟩
  · exact (mem_asc.1 (h.mem_iff.1 (geti_mem hi))).1
  · exact (mem_asc.1 (h.mem_iff.1 (geti_mem hi))).2
  · rw [List.nodup_iff_pairwise_ne, List.pairwise_iff_getElem] at hnd
    have := hnd k i (by omega) hi hk
    rwa [geti_eq (by omega), geti_eq hi]
/-- Sorted, it is the numbers from 1 on exactly if it is an order. -/
theorem sorted_asc {l S : List Int} (hl : l.length ≤ 12) (hp : S.Perm l) (hs : S.Pairwise (· ≤ ·)) : S = asc l.length ↔ IsO l := by
  constructor
  · intro e
    exact IsO.of_perm hl (e ▸ hp.symm)
  · intro h
    exact List.Perm.eq_of_pairwise (le := (· ≤ ·)) (fun a b _ _ h1 h2 => by omega) hs ((asc_sorted _).imp (fun h => by omega)) (hp.trans h.perm)
/-- The numbers, and 0 behind the last. -/
def pad (l : List Int) : List Int := l ++ List.replicate (12 - l.length) 0
theorem pad_len {l : List Int} (h : l.length ≤ 12) : (pad l).length = 12 := by simp [pad]; omega
theorem pad_at {l : List Int} {i : Nat} : geti (pad l) i = geti l i := by
  unfold pad geti
  rw [List.getD_eq_getElem?_getD, List.getD_eq_getElem?_getD, List.getElem?_append]
  split
  · rfl
  · rename_i h
    rw [List.getElem?_replicate, List.getElem?_eq_none (by omega)]
    split <;> rfl
theorem pad_inj {a b : List Int} (h : a.length = b.length) (e : pad a = pad b) : a = b := by
  unfold pad at e
  exact (List.append_inj e h).1
end Go.Proofs.Ytheblebfeinjjaa
