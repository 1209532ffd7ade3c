/- Exactly so many: the reference's table, in memory. -/
import Derived.Test.YtokjdadgdfmffaaLQ
namespace Go.Proofs.Ytokjdadgdfmffaa
open Go.RowKit
set_option maxHeartbeats 1000000
set_option maxRecDepth 100000
/-- Rows i and on of the table in block G are filled; they lie between G and B. -/
def TabAt (w : World) (G B n : Nat) (l : List Int) (i : Nat) : Prop := ∃ cs : List Value, cs.length = l.length + 1 ∧ Row w G 80 cs ∧ G < B ∧ B ≤ w.heap.size ∧
  ∀ j, i ≤ j → j ≤ l.length → ∃ g, G < g ∧ g < B ∧ cs[j]? = some (.slice (some ⟨g, 0, none⟩) ((n + 1) * n) ((n + 1) * n)) ∧ Row w g 4 (tbB ((n + 1) * n) (cB n l j))
theorem TabAt.far {w : World} {G B n i : Nat} {l : List Int} (h : TabAt w G B n l i) {p : Addr} (hp : B ≤ p.block) (u : Value) : TabAt (w.setCell p u) G B n l i := by
  obtain ⟨cs, h1, h2, h3, h4, h5⟩ := h
  refine ⟨cs, h1, h2.far (by omega) u, h3, by simpa using h4, fun j a b => ?_⟩
  obtain ⟨g, k1, k2, k3, k4⟩ := h5 j a b
  exact ⟨g, k1, k2, k3, k4.far (by omega) u⟩
theorem TabAt.below {w w' : World} {G B n i : Nat} {l : List Int} (h : TabAt w G B n l i) (k : Below B w w') : TabAt w' G B n l i := by
  obtain ⟨cs, h1, h2, h3, h4, h5⟩ := h
  refine ⟨cs, h1, (k.block G (by omega)).trans h2, h3, Nat.le_trans h4 k.size, fun j a b => ?_⟩
  obtain ⟨g, k1, k2, k3, k4⟩ := h5 j a b
  exact ⟨g, k1, k2, k3, (k.block g (by omega)).trans k4⟩
theorem TabAt.drewN {w : World} {G B n i : Nat} {l : List Int} (h : TabAt w G B n l i) (d : Nat) : TabAt (w.drewN d) G B n l i := h.below (below_drewN d)
theorem TabAt.get {w : World} {G B n i : Nat} {l : List Int} (h : TabAt w G B n l i) {j : Nat} (hi : i ≤ j) (hj : j ≤ l.length) :
    ∃ g, G < g ∧ g < B ∧ w.cell? ⟨G, j, none⟩ = some (.slice (some ⟨g, 0, none⟩) ((n + 1) * n) ((n + 1) * n)) ∧ Row w g 4 (tbB ((n + 1) * n) (cB n l j)) := by
  obtain ⟨cs, h1, h2, h3, h4, h5⟩ := h
  obtain ⟨g, k1, k2, k3, k4⟩ := h5 j hi hj
  exact ⟨g, k1, k2, (h2.cell j).trans k3, k4⟩
theorem TabAt.free {w : World} {G B n i : Nat} {l : List Int} (h : TabAt w G B n l i) (j : Nat) : w.frozen? ⟨G, j, none⟩ = false := by
  obtain ⟨cs, h1, h2, -⟩ := h
  exact h2.free j
theorem TabAt.was {w : World} {G B n i : Nat} {l : List Int} (h : TabAt w G B n l i) {j : Nat} (hj : j ≤ l.length) : ∃ v, w.cell? ⟨G, j, none⟩ = some v := by
  obtain ⟨cs, h1, h2, -⟩ := h
  exact ⟨cs[j]'(by omega), (h2.cell j).trans (List.getElem?_eq_getElem (by omega))⟩
theorem TabAt.put {w : World} {G B n i g : Nat} {l : List Int} (h : TabAt w G B n l (i + 1)) (hi : i ≤ l.length) (hg : B ≤ g) (hr : Row w g 4 (tbB ((n + 1) * n) (cB n l i))) :
    TabAt (w.setCell ⟨G, i, none⟩ (.slice (some ⟨g, 0, none⟩) ((n + 1) * n) ((n + 1) * n))) G (g + 1) n l i := by
  obtain ⟨cs, h1, h2, h3, h4, h5⟩ := h
  have hl := hr.lt
  refine ⟨cs.set i _, by rw [List.length_set]; exact h1, h2.set i _, by omega, Nat.le_trans hl (Nat.le_of_eq (by simp)), fun j a b => ?_⟩
  by_cases e : i = j
  · subst e
    refine ⟨g, by omega, by omega, ?_, hr.far (by simp; omega) _⟩
    rw [List.getElem?_set, if_pos rfl, if_pos (by omega)]
  · obtain ⟨g', k1, k2, k3, k4⟩ := h5 j (by omega) b
    refine ⟨g', k1, by omega, ?_, k4.far (by simp; omega) _⟩
    rw [List.getElem?_set, if_neg e]; exact k3
theorem TabAt.new {W : World} (n : Nat) (l : List Int) {G : Nat} (hG : W.heap.size = G) : TabAt (W.alloc (.cells (List.replicate (l.length + 1) (Value.slice none 0 0)).toArray 80)) G (G + 1) n l (l.length + 1) := by
  subst hG
  refine ⟨_, by simp, row_new rfl, by omega, by simp, fun j a b => by omega⟩
end Go.Proofs.Ytokjdadgdfmffaa
