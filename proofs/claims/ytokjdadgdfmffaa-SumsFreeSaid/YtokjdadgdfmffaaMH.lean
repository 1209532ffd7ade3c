/- The reference's First. -/
import Derived.Test.YtokjdadgdfmffaaMG
import Derived.Test.YtokjdadgdfmffaaKJ
import Derived.Test.YtokjdadgdfmffaaLK
namespace Go.Proofs.Ytokjdadgdfmffaa
open Go.RowKit
set_option maxHeartbeats 4000000
set_option maxRecDepth 100000
/-- Row j of the table. -/
def rwN (m n S : Nat) (l : List (Int × Int)) (j : Nat) : List Int := (List.range S).map fun v => (szN m n (l.drop j) v : Int)
/-- Rows i and on of the table in block G are filled; they lie between G and B. -/
def TabI (w : World) (G B S m n : Nat) (l : List (Int × Int)) (i : Nat) : Prop := ∃ cs : List Value, cs.length = l.length + 1 ∧ Row w G 22 cs ∧ G < B ∧ B ≤ w.heap.size ∧
  ∀ j, i ≤ j → j ≤ l.length → ∃ g, G < g ∧ g < B ∧ cs[j]? = some (.slice (some ⟨g, 0, none⟩) S S) ∧ Row w g 3 (iv (rwN m n S l j))
theorem TabI.far {w : World} {G B S m n i : Nat} {l : List (Int × Int)} (h : TabI w G B S m n l i) {p : Addr} (hp : B ≤ p.block) (u : Value) : TabI (w.setCell p u) G B S m n l i := by
  obtain ⟨cs, h1, h2, h3, h4, h5⟩ := h
  refine ⟨cs, h1, h2.far (by omega) u, h3, by simpa using h4, fun j a b => ?_⟩
  obtain ⟨g, k1, k2, k3, k4⟩ := h5 j a b
  exact ⟨g, k1, k2, k3, k4.far (by omega) u⟩
theorem TabI.below {w w' : World} {G B S m n i : Nat} {l : List (Int × Int)} (h : TabI w G B S m n l i) (k : Below B w w') : TabI w' G B S m n l i := by
  obtain ⟨cs, h1, h2, h3, h4, h5⟩ := h
  refine ⟨cs, h1, (k.block G (by omega)).trans h2, h3, Nat.le_trans h4 k.size, fun j a b => ?_⟩
  obtain ⟨g, k1, k2, k3, k4⟩ := h5 j a b
  exact ⟨g, k1, k2, k3, (k.block g (by omega)).trans k4⟩
theorem TabI.drewN {w : World} {G B S m n i : Nat} {l : List (Int × Int)} (h : TabI w G B S m n l i) (d : Nat) : TabI (w.drewN d) G B S m n l i := h.below (below_drewN d)
theorem TabI.get {w : World} {G B S m n i : Nat} {l : List (Int × Int)} (h : TabI w G B S m n l i) {j : Nat} (hi : i ≤ j) (hj : j ≤ l.length) :
    ∃ g, G < g ∧ g < B ∧ w.cell? ⟨G, j, none⟩ = some (.slice (some ⟨g, 0, none⟩) S S) ∧ Row w g 3 (iv (rwN m n S l j)) := by
  obtain ⟨cs, h1, h2, h3, h4, h5⟩ := h
  obtain ⟨g, k1, k2, k3, k4⟩ := h5 j hi hj
  exact ⟨g, k1, k2, (h2.cell j).trans k3, k4⟩
theorem TabI.free {w : World} {G B S m n i : Nat} {l : List (Int × Int)} (h : TabI w G B S m n l i) (j : Nat) : w.frozen? ⟨G, j, none⟩ = false := by
  obtain ⟨cs, h1, h2, -⟩ := h
  exact h2.free j
theorem TabI.was {w : World} {G B S m n i : Nat} {l : List (Int × Int)} (h : TabI w G B S m n l i) {j : Nat} (hj : j ≤ l.length) : ∃ v, w.cell? ⟨G, j, none⟩ = some v := by
  obtain ⟨cs, h1, h2, -⟩ := h
  exact ⟨cs[j]'(by omega), (h2.cell j).trans (List.getElem?_eq_getElem (by omega))⟩
theorem TabI.put {w : World} {G B S m n i g : Nat} {l : List (Int × Int)} (h : TabI w G B S m n l (i + 1)) (hi : i ≤ l.length) (hg : B ≤ g) (hr : Row w g 3 (iv (rwN m n S l i))) :
    TabI (w.setCell ⟨G, i, none⟩ (.slice (some ⟨g, 0, none⟩) S S)) G (g + 1) S m n l i := by
  obtain ⟨cs, h1, h2, h3, h4, h5⟩ := h
  have hl := hr.lt
  refine ⟨cs.set i _, by rw [List.length_set]; exact h1, h2.set i _, by omega, Nat.le_trans hl (Nat.le_of_eq (by simp)), fun j a b => ?_⟩
  by_cases e : i = j
  · subst e
    refine ⟨g, by omega, by omega, ?_, hr.far (by simp; omega) _⟩
    rw [List.getElem?_set, if_pos rfl, if_pos (by omega)]
  · obtain ⟨g', k1, k2, k3, k4⟩ := h5 j (by omega) b
    refine ⟨g', k1, by omega, ?_, k4.far (by simp; omega) _⟩
    rw [List.getElem?_set, if_neg e]; exact k3
theorem TabI.new {W : World} (S m n : Nat) (l : List (Int × Int)) {G : Nat} (hG : W.heap.size = G) : TabI (W.alloc (.cells (List.replicate (l.length + 1) (Value.slice none 0 0)).toArray 22)) G (G + 1) S m n l (l.length + 1) := by
  subst hG
  refine ⟨_, by simp, row_new rfl, by omega, by simp, fun j a b => by omega⟩

/-- A row of which c numbers are there. -/
def pwN (m n S : Nat) (l : List (Int × Int)) (j c : Nat) : List Int := (List.range S).map fun v => if v < c then (szN m n (l.drop j) v : Int) else 0
theorem pwN_len (m n S : Nat) (l : List (Int × Int)) (j c : Nat) : (pwN m n S l j c).length = S := by simp [pwN]
theorem rwN_len (m n S : Nat) (l : List (Int × Int)) (j : Nat) : (rwN m n S l j).length = S := by simp [rwN]
theorem rwN_get {m n S : Nat} (l : List (Int × Int)) (j : Nat) {v : Nat} (h : v < S) : geti (rwN m n S l j) v = (szN m n (l.drop j) v : Int) := by
  unfold geti rwN
  rw [List.getD_eq_getElem?_getD, List.getElem?_map, List.getElem?_range h]; rfl
theorem pwN_zero (m n S : Nat) (l : List (Int × Int)) (j : Nat) : pwN m n S l j 0 = List.replicate S 0 := by
  unfold pwN
  refine List.ext_getElem (by simp) (fun i h1 h2 => ?_)
  simp
theorem pwN_all (m n S : Nat) (l : List (Int × Int)) (j : Nat) : pwN m n S l j S = rwN m n S l j := by
  unfold pwN rwN
  refine List.map_congr_left (fun v hv => ?_)
  rw [if_pos (List.mem_range.1 hv)]
theorem pwN_set {m n S : Nat} (l : List (Int × Int)) (j : Nat) {c : Nat} (_h : c < S) : (pwN m n S l j c).set c (szN m n (l.drop j) c : Int) = pwN m n S l j (c + 1) := by
  refine List.ext_getElem (by rw [List.length_set, pwN_len, pwN_len]) (fun i h1 h2 => ?_)
  have hg : ∀ c i (h : i < (pwN m n S l j c).length), (pwN m n S l j c)[i] = if i < c then (szN m n (l.drop j) i : Int) else 0 := fun c i h => by
    simp [pwN]
  rw [List.getElem_set, hg, hg]
  by_cases e : c = i
  · subst e
    rw [if_pos rfl, if_pos (by omega)]
  · rw [if_neg e]
    by_cases e2 : i < c
    · rw [if_pos e2, if_pos (by omega)]
    · rw [if_neg e2, if_neg (by omega)]
theorem make_tabI (n : Nat) (hn : n ≤ 1000000) (W : World) : (Instr.makeSlice 23 (.int .i64 n) (.int .i64 n)).run Try.prog W = .ok (.slice (some ⟨W.heap.size, 0, none⟩) n n) (W.alloc (.cells (List.replicate n (Value.slice none 0 0)).toArray 22)) := by
  obtain ⟨j0, ji, jz0, jz1, jz2⟩ := info_parts info22
  have h := run_make (P := Try.prog) W 23 22 j0 (.slice none 0 0) Try.underlying23 ji jz0 .i64 .i64 n n (by omega) (by omega) (by rw [jz2]; omega) (by omega)
  rw [jz1, Int.toNat_natCast] at h
  have e : (madeCells (Value.slice none 0 0).cells (n * 1)) = (List.replicate n (Value.slice none 0 0)).toArray := by
    apply Array.ext'
    unfold madeCells
    have hc : (Value.slice none 0 0).cells = #[.slice none 0 0] := rfl
    rw [hc]
    apply List.ext_getElem?
    intro i
    by_cases hi : i < n
    · simp [Nat.mod_one, hi]
    · simp [hi]
  rw [h, e]
theorem make_intI (n : Nat) (hn : n ≤ 1000000) (W : World) : (Instr.makeSlice 22 (.int .i64 n) (.int .i64 n)).run Try.prog W = .ok (.slice (some ⟨W.heap.size, 0, none⟩) n n) (W.alloc (.cells (iv (List.replicate n 0)).toArray 3)) := by
  obtain ⟨j0, ji, jz0, jz1, jz2⟩ := info_parts info3
  have h := run_make (P := Try.prog) W 22 3 j0 (.int .i64 0) Try.underlying22 ji jz0 .i64 .i64 n n (by omega) (by omega) (by rw [jz2]; omega) (by omega)
  rw [jz1, Int.toNat_natCast] at h
  have e : (madeCells (Value.int .i64 0).cells (n * 1)) = (iv (List.replicate n 0)).toArray := by
    apply Array.ext'
    unfold madeCells
    have hc : (Value.int .i64 0).cells = #[.int .i64 0] := rfl
    rw [hc]
    apply List.ext_getElem?
    intro i
    unfold iv
    by_cases hi : i < n
    · simp [Nat.mod_one, hi]
    · simp [hi]
  rw [h, e]
end Go.Proofs.Ytokjdadgdfmffaa
