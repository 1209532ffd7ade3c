/- An element is read. -/
import Derived.Test.YtokjdadgdfmffaaKD
namespace Go.Proofs.Ytokjdadgdfmffaa
open Go.RowKit
set_option maxHeartbeats 1000000
set_option maxRecDepth 100000
/-- What is read as an element, and whether it is one. -/
def elA (m : Nat) : List Int → Int
  | [_] => 0
  | [x, _] => if m = 1 then 0 else x
  | _ => 0
def elB (m : Nat) : List Int → Int
  | [y] => if m = 1 then y else 0
  | [_, y] => if m = 1 then 0 else y
  | _ => 0
def elV (m n : Nat) : List Int → Bool
  | [y] => decide (m = 1 ∧ 0 ≤ y ∧ y < n)
  | [x, y] => decide (m ≠ 1 ∧ (0 ≤ x ∧ x < m) ∧ 0 ≤ y ∧ y < n)
  | _ => false
def elR (m n : Nat) (xs : List Int) : Value := .tuple #[pv (elA m xs) (elB m xs), .bool (elV m n xs)]
theorem hidden_one (m n : Nat) (w : World) (h : m = 1) : Calls Try.prog 68 #[pv m n] w fun e w' => e = .returned (.int .i64 1) ∧ Below w.heap.size w w' :=
  (hidden_any m n w).mono fun _ _ ⟨h1, h2⟩ => ⟨by rw [h1, if_pos h], h2⟩
theorem hidden_no (m n : Nat) (w : World) (h : m ≠ 1) : Calls Try.prog 68 #[pv m n] w fun e w' => e = .returned (.int .i64 0) ∧ Below w.heap.size w w' :=
  (hidden_any m n w).mono fun _ _ ⟨h1, h2⟩ => ⟨by rw [h1, if_neg h], h2⟩
theorem emod_self_iff {a : Int} {m : Nat} (hm : 1 ≤ m) : a % m = a ↔ 0 ≤ a ∧ a < m := by
  constructor
  · intro h
    have h1 := Int.emod_nonneg a (b := m) (by omega)
    have h2 := Int.emod_lt_of_pos a (b := m) (by omega)
    omega
  · rintro ⟨h1, h2⟩
    exact Int.emod_eq_of_lt h1 h2
theorem elV_one {m n : Nat} {y : Int} (hg : Gr m n) (h : m = 1) : elR m n [y] = .tuple #[pv 0 y, .bool (decide ((0 : Int) % m = 0 ∧ y % n = y))] := by
  obtain ⟨g1, g2, g3, g4⟩ := hg
  have e := emod_self_iff (a := y) g3
  simp only [elR, elA, elB, elV, h, if_true, true_and, e]
  simp
theorem elV_two {m n : Nat} {x y : Int} (hg : Gr m n) (h : m ≠ 1) : elR m n [x, y] = .tuple #[pv x y, .bool (decide (x % m = x ∧ y % n = y))] := by
  obtain ⟨g1, g2, g3, g4⟩ := hg
  have e := emod_self_iff (a := y) g3
  have e2 := emod_self_iff (a := x) g1
  simp only [elR, elA, elB, elV, h, if_false, ne_eq, not_false_eq_true, true_and, e, e2]
theorem readEl_bad (A : Option Addr) (c m n : Nat) (xs : List Int) (w : World) (_hg : Gr m n) (hl : xs.length ≤ 1000000) (hb : m = 1 ∧ xs.length ≠ 1 ∨ m ≠ 1 ∧ xs.length ≠ 2) :
    Calls Try.prog 50 #[pv m n, .slice A xs.length c] w fun e w' => e = .returned (elR m n xs) ∧ Below w.heap.size w w' := by
  have hv : Hid (elR m n xs = .tuple #[pv 0 0, .bool false]) := Lib.hid (by
    match xs, hb with
    | [], _ => rfl
    | [y], hb =>
      have h : m ≠ 1 := by rcases hb with h | h; exact absurd rfl h.2; exact h.1
      simp [elR, elA, elB, elV, h]
    | [x, y], hb =>
      have h : m = 1 := by rcases hb with h | h; exact h.1; exact absurd rfl h.2
      simp [elR, elA, elB, elV, h]
    | _ :: _ :: _ :: _, _ => rfl)
  have r1 : Row (((w.alloc (.cells #[.int .i64 m, .int .i64 n] 63)).alloc (.cells #[.int .i64 0, .int .i64 0] 69)).alloc (.cells #[.int .i64 0, .int .i64 0] 69)) (w.heap.size + 1) 69 [.int .i64 0, .int .i64 0] := (row_new (by simp)).alloc _
  have b0 : Below w.heap.size w (((w.alloc (.cells #[.int .i64 m, .int .i64 n] 63)).alloc (.cells #[.int .i64 0, .int .i64 0] 69)).alloc (.cells #[.int .i64 0, .int .i64 0] 69)) := by (repeat (first | exact Below.refl _ _ | assumption | (refine Below.setCell ?_ (by first | exact Nat.le_refl _ | omega | (simp; done) | (simp; omega)) _) | (refine Below.trans ?_ (below_drewN _)) | (refine Below.drew ?_) | (refine Below.alloc ?_ (by first | exact Nat.le_refl _ | omega | (simp; done) | (simp; omega)) _) | (refine below_row ?_ (by first | exact Nat.le_refl _ | omega | (simp; done) | (simp; omega)) _)))
  rcases hb with ⟨h, h1⟩ | ⟨h, h1⟩
  · have g1 : ((xs.length : Int) != 1) = true := by simp; omega
    have HH := Lib.hid h
    clear h h1
    go_enter Try.func50, Try.ntmps50
    go_wp2_with (go_at_call 68; refine (hidden_one m n _ HH.out).mono ?_; rintro e w1 ⟨rfl, hb⟩; have q := r1.below hb; have hb2 := b0.trans (hb.mono (by simp; omega)); obtain ⟨⟨q1, q2⟩, q3, q4⟩ := q.cells2)
    exact bodyPost_ret (v := .tuple #[pv 0 0, .bool false]) (res2 Try.results50 rfl rfl (load69 ((q.set 0 (.int .i64 0)).set 1 (.int .i64 0)))) rfl ⟨by rw [hv.out], (hb2.setCell (p := ⟨w.heap.size + 1, 0, none⟩) (by dsimp only; omega) _).setCell (p := ⟨w.heap.size + 1, 1, none⟩) (by dsimp only; omega) _⟩
  · have g1 : ((xs.length : Int) != 2) = true := by simp; omega
    have HH := Lib.hid h
    clear h h1
    go_enter Try.func50, Try.ntmps50
    go_wp2_with (go_at_call 68; refine (hidden_no m n _ HH.out).mono ?_; rintro e w1 ⟨rfl, hb⟩; have q := r1.below hb; have hb2 := b0.trans (hb.mono (by simp; omega)); obtain ⟨⟨q1, q2⟩, q3, q4⟩ := q.cells2)
    exact bodyPost_ret (v := .tuple #[pv 0 0, .bool false]) (res2 Try.results50 rfl rfl (load69 ((q.set 0 (.int .i64 0)).set 1 (.int .i64 0)))) rfl ⟨by rw [hv.out], (hb2.setCell (p := ⟨w.heap.size + 1, 0, none⟩) (by dsimp only; omega) _).setCell (p := ⟨w.heap.size + 1, 1, none⟩) (by dsimp only; omega) _⟩
theorem copy_one {W : World} {g b o : Nat} {a x y : Int} (h : Row W g 69 [.int .i64 a, .int .i64 x]) (hc : W.cell? ⟨b, o, none⟩ = some (.int .i64 y)) (c : Nat) :
    (Builtin.copy_ #[22, 22] 3 #[.slice (some ⟨g, 1, none⟩) 1 1, .slice (some ⟨b, o, none⟩) 1 c]).run Try.prog W = .ok (goInt 1) (W.setRow g #[.int .i64 a, .int .i64 y]) := by
  have h := run_copy_row (P := Try.prog) W 22 22 3 3 g 1 1 1 ⟨b, o, none⟩ 1 c #[.int .i64 a, .int .i64 x] 69 [.int .i64 y] Try.underlying22 (by kernel_rfl) h rfl
    (fun j v hj => by
      match j, hj with
      | 0, hj => injection hj with hj; subst hj; rw [WideShapes.add_plain, Nat.add_zero]; exact hc) (by simp) (fun v hv => by rcases List.mem_singleton.1 hv; rfl)
  rw [h]; rfl
theorem copy_two {W : World} {g b o : Nat} {a x y z : Int} (h : Row W g 69 [.int .i64 a, .int .i64 x]) (hc : W.cell? ⟨b, o, none⟩ = some (.int .i64 y)) (hc2 : W.cell? ⟨b, o + 1, none⟩ = some (.int .i64 z)) (c : Nat) :
    (Builtin.copy_ #[22, 22] 3 #[.slice (some ⟨g, 0, none⟩) 2 2, .slice (some ⟨b, o, none⟩) 2 c]).run Try.prog W = .ok (goInt 2) (W.setRow g #[.int .i64 y, .int .i64 z]) := by
  have h := run_copy_row (P := Try.prog) W 22 22 3 3 g 0 2 2 ⟨b, o, none⟩ 2 c #[.int .i64 a, .int .i64 x] 69 [.int .i64 y, .int .i64 z] Try.underlying22 (by kernel_rfl) h rfl
    (fun j v hj => by
      match j, hj with
      | 0, hj => injection hj with hj; subst hj; rw [WideShapes.add_plain, Nat.add_zero]; exact hc
      | 1, hj => injection hj with hj; subst hj; rw [WideShapes.add_plain]; exact hc2) (by simp) (fun v hv => by simp only [List.mem_cons, List.not_mem_nil, or_false] at hv; rcases hv with rfl | rfl <;> rfl)
  rw [h]; rfl
theorem el_keep {w w' w8 : World} {m n : Nat} {x y : Int} {A G : Nat} (h : Hid (Row w' A 63 [.int .i64 m, .int .i64 n] ∧ Row w' G 69 [.int .i64 x, .int .i64 y] ∧ Below w.heap.size w w')) (b : Below w'.heap.size w' w8) :
    w8.cell? ⟨G, 0, none⟩ = some (.int .i64 x) ∧ w8.cell? ⟨G, 1, none⟩ = some (.int .i64 y) ∧ w8.cell? ⟨A, 0, none⟩ = some (.int .i64 m) ∧ w8.cell? ⟨A, 1, none⟩ = some (.int .i64 n) ∧
    Hid (Row w8 A 63 [.int .i64 m, .int .i64 n] ∧ Row w8 G 69 [.int .i64 x, .int .i64 y] ∧ Below w.heap.size w w8) := by
  obtain ⟨h1, h2, h3⟩ := h.out
  have k1 := h1.below b
  have k2 := h2.below b
  exact ⟨k2.cells2.1.1, k2.cells2.1.2, k1.cells2.1.1, k1.cells2.1.2, Lib.hid ⟨k1, k2, h3.trans (b.mono h3.size)⟩⟩
theorem el_set {w w' : World} {m n : Nat} {x y u v : Int} {H : Nat} (hH : w.heap.size = H) (h : Hid (Row w' H 63 [.int .i64 m, .int .i64 n] ∧ Row w' (H + 1 + 1) 69 [.int .i64 x, .int .i64 y] ∧ Below w.heap.size w w')) :
    ((w'.setCell ⟨H + 1, 0, none⟩ (.int .i64 u)).setCell ⟨H + 1, 1, none⟩ (.int .i64 v)).cell? ⟨H + 1 + 1, 0, none⟩ = some (.int .i64 x) ∧ ((w'.setCell ⟨H + 1, 0, none⟩ (.int .i64 u)).setCell ⟨H + 1, 1, none⟩ (.int .i64 v)).cell? ⟨H + 1 + 1, 1, none⟩ = some (.int .i64 y) ∧
    ((w'.setCell ⟨H + 1, 0, none⟩ (.int .i64 u)).setCell ⟨H + 1, 1, none⟩ (.int .i64 v)).cell? ⟨H, 0, none⟩ = some (.int .i64 m) ∧ ((w'.setCell ⟨H + 1, 0, none⟩ (.int .i64 u)).setCell ⟨H + 1, 1, none⟩ (.int .i64 v)).cell? ⟨H, 1, none⟩ = some (.int .i64 n) ∧
    Hid (Row ((w'.setCell ⟨H + 1, 0, none⟩ (.int .i64 u)).setCell ⟨H + 1, 1, none⟩ (.int .i64 v)) H 63 [.int .i64 m, .int .i64 n] ∧ Row ((w'.setCell ⟨H + 1, 0, none⟩ (.int .i64 u)).setCell ⟨H + 1, 1, none⟩ (.int .i64 v)) (H + 1 + 1) 69 [.int .i64 x, .int .i64 y] ∧ Below w.heap.size w ((w'.setCell ⟨H + 1, 0, none⟩ (.int .i64 u)).setCell ⟨H + 1, 1, none⟩ (.int .i64 v))) := by
  obtain ⟨h1, h2, h3⟩ := h.out
  have k1 := (h1.far (p := ⟨H + 1, 0, none⟩) (by dsimp only; omega) (.int .i64 u)).far (p := ⟨H + 1, 1, none⟩) (by dsimp only; omega) (.int .i64 v)
  have k2 := (h2.far (p := ⟨H + 1, 0, none⟩) (by dsimp only; omega) (.int .i64 u)).far (p := ⟨H + 1, 1, none⟩) (by dsimp only; omega) (.int .i64 v)
  exact ⟨k2.cells2.1.1, k2.cells2.1.2, k1.cells2.1.1, k1.cells2.1.2, Lib.hid ⟨k1, k2, (h3.setCell (p := ⟨H + 1, 0, none⟩) (by dsimp only; omega) _).setCell (p := ⟨H + 1, 1, none⟩) (by dsimp only; omega) _⟩⟩
theorem readEl_one (A : Option Addr) (c m n : Nat) (y : Int) (w : World) (hg : Gr m n) (ha : IntsAt w A [y]) (h : m = 1) :
    Calls Try.prog 50 #[pv m n, .slice A 1 c] w fun e w' => e = .returned (elR m n [y]) ∧ Below w.heap.size w w' := by
  obtain ⟨b, o, rfl, hb, hc⟩ := ha (by simp)
  have c0 := hc 0 (by simp)
  rw [show geti [y] 0 = y from rfl, Nat.add_zero] at c0
  clear hc ha
  have r0 : Row (((w.alloc (.cells #[.int .i64 m, .int .i64 n] 63)).alloc (.cells #[.int .i64 0, .int .i64 0] 69)).alloc (.cells #[.int .i64 0, .int .i64 0] 69)) w.heap.size 63 [.int .i64 m, .int .i64 n] := ((row_new rfl).alloc _).alloc _
  have r1 : Row (((w.alloc (.cells #[.int .i64 m, .int .i64 n] 63)).alloc (.cells #[.int .i64 0, .int .i64 0] 69)).alloc (.cells #[.int .i64 0, .int .i64 0] 69)) (w.heap.size + 1) 69 [.int .i64 0, .int .i64 0] := (row_new (by simp)).alloc _
  have r2 : Row (((w.alloc (.cells #[.int .i64 m, .int .i64 n] 63)).alloc (.cells #[.int .i64 0, .int .i64 0] 69)).alloc (.cells #[.int .i64 0, .int .i64 0] 69)) (w.heap.size + 1 + 1) 69 [.int .i64 0, .int .i64 0] := row_new (by simp)
  have b0 : Below w.heap.size w (((w.alloc (.cells #[.int .i64 m, .int .i64 n] 63)).alloc (.cells #[.int .i64 0, .int .i64 0] 69)).alloc (.cells #[.int .i64 0, .int .i64 0] 69)) := by (repeat (first | exact Below.refl _ _ | assumption | (refine Below.setCell ?_ (by first | exact Nat.le_refl _ | omega | (simp; done) | (simp; omega)) _) | (refine Below.trans ?_ (below_drewN _)) | (refine Below.drew ?_) | (refine Below.alloc ?_ (by first | exact Nat.le_refl _ | omega | (simp; done) | (simp; omega)) _) | (refine below_row ?_ (by first | exact Nat.le_refl _ | omega | (simp; done) | (simp; omega)) _)))
  have hv := Lib.hid (elV_one (y := y) hg h)
  have HH := Lib.hid h
  have HG := Lib.hid hg
  clear h
  have ⟨g1, g2, g3, g4⟩ := hg
  clear hg
  go_enter Try.func50, Try.ntmps50
  go_wp2_with (go_at_call 68; refine (hidden_one m n _ HH.out).mono ?_; rintro e w1 ⟨rfl, hb1⟩; have p0 := r0.below hb1; have p1 := r1.below hb1; have p2 := r2.below hb1; have hb2 := b0.trans (hb1.mono (by simp; omega)); have HC := copy_one p2 (cell_up hb2 hb c0) c)
  have q0 := p0.row_far (k := w.heap.size + 1 + 1) (by omega) #[.int .i64 0, .int .i64 y]
  have q1 := p1.row_far (k := w.heap.size + 1 + 1) (by omega) #[.int .i64 0, .int .i64 y]
  have q2 := p2.row [.int .i64 0, .int .i64 y]
  have b3 := below_row (g := w.heap.size + 1 + 1) hb2 (by omega) #[.int .i64 0, .int .i64 y]
  have RC : ∀ W, Calls Try.prog 59 #[pv m n, pv 0 y] W fun e w' => e = .returned (pv (0 % m) (y % n)) ∧ Below W.heap.size W w' := fun W => red_any m n 0 y W ⟨g1, by omega⟩ ⟨g3, by omega⟩
  clear p0 p1 p2 hb2 hb1 r0 r1 r2 b0 HC c0
  generalize w1.setRow (w.heap.size + 1 + 1) #[.int .i64 0, .int .i64 y] = W at *
  generalize (0 : Int) % m = x' at *
  generalize y % n = y' at *
  obtain ⟨⟨c0, c1⟩, -, -⟩ := q0.cells2
  obtain ⟨⟨c2, c3⟩, -, -⟩ := q2.cells2
  obtain ⟨⟨c4, c5⟩, f4, f5⟩ := q1.cells2
  have HR := Lib.hid RC
  clear RC
  have h1 := eq69 x' y' 0 y
  have HS0 : Hid (Row W w.heap.size 63 [.int .i64 m, .int .i64 n] ∧ Row W (w.heap.size + 1 + 1) 69 [.int .i64 0, .int .i64 y] ∧ Below w.heap.size w W) := Lib.hid ⟨q0, q2, b3⟩
  go_region_held3 (fun w' => w'.cell? ⟨w.heap.size + 1 + 1, 0, none⟩ = some (.int .i64 0) ∧ w'.cell? ⟨w.heap.size + 1 + 1, 1, none⟩ = some (.int .i64 y) ∧ w'.cell? ⟨w.heap.size, 0, none⟩ = some (.int .i64 m) ∧ w'.cell? ⟨w.heap.size, 1, none⟩ = some (.int .i64 n) ∧ Hid (Row w' w.heap.size 63 [.int .i64 m, .int .i64 n] ∧ Row w' (w.heap.size + 1 + 1) 69 [.int .i64 0, .int .i64 y] ∧ Below w.heap.size w w')) (first | assumption | exact el_keep HS0 (Below.refl _ _).drew | exact el_keep HS0 (((Below.refl _ _).drew).trans b8) | exact el_set rfl (el_keep HS0 (((Below.refl _ _).drew).trans b8)).2.2.2.2) (first | (with_reducible refine (HR.out _).mono ?_; rintro e w8 ⟨rfl, b8⟩; have p1 := (Row.drew q1).below b8; obtain ⟨⟨c8, c9⟩, f8, f9⟩ := p1.cells2))
  go_wp2
  exact bodyPost_ret (v := .tuple #[pv 0 y, .bool (decide (x' = 0) && decide (y' = y))]) (res2 Try.results50 rfl rfl (load69 ((p1.set 0 (.int .i64 0)).set 1 (.int .i64 y)))) rfl ⟨by rw [hv.out, Bool.decide_and], ((b3.drew.trans (b8.mono b3.size)).setCell (p := ⟨w.heap.size + 1, 0, none⟩) (by dsimp only; omega) _).setCell (p := ⟨w.heap.size + 1, 1, none⟩) (by dsimp only; omega) _⟩
theorem readEl_two (A : Option Addr) (c m n : Nat) (x y : Int) (w : World) (hg : Gr m n) (ha : IntsAt w A [x, y]) (h : m ≠ 1) :
    Calls Try.prog 50 #[pv m n, .slice A 2 c] w fun e w' => e = .returned (elR m n [x, y]) ∧ Below w.heap.size w w' := by
  obtain ⟨b, o, rfl, hb, hc⟩ := ha (by simp)
  have c0 := hc 0 (by simp)
  rw [show geti [x, y] 0 = x from rfl, Nat.add_zero] at c0
  have c1 := hc 1 (by simp)
  rw [show geti [x, y] 1 = y from rfl] at c1
  clear hc ha
  have r0 : Row (((w.alloc (.cells #[.int .i64 m, .int .i64 n] 63)).alloc (.cells #[.int .i64 0, .int .i64 0] 69)).alloc (.cells #[.int .i64 0, .int .i64 0] 69)) w.heap.size 63 [.int .i64 m, .int .i64 n] := ((row_new rfl).alloc _).alloc _
  have r1 : Row (((w.alloc (.cells #[.int .i64 m, .int .i64 n] 63)).alloc (.cells #[.int .i64 0, .int .i64 0] 69)).alloc (.cells #[.int .i64 0, .int .i64 0] 69)) (w.heap.size + 1) 69 [.int .i64 0, .int .i64 0] := (row_new (by simp)).alloc _
  have r2 : Row (((w.alloc (.cells #[.int .i64 m, .int .i64 n] 63)).alloc (.cells #[.int .i64 0, .int .i64 0] 69)).alloc (.cells #[.int .i64 0, .int .i64 0] 69)) (w.heap.size + 1 + 1) 69 [.int .i64 0, .int .i64 0] := row_new (by simp)
  have b0 : Below w.heap.size w (((w.alloc (.cells #[.int .i64 m, .int .i64 n] 63)).alloc (.cells #[.int .i64 0, .int .i64 0] 69)).alloc (.cells #[.int .i64 0, .int .i64 0] 69)) := by (repeat (first | exact Below.refl _ _ | assumption | (refine Below.setCell ?_ (by first | exact Nat.le_refl _ | omega | (simp; done) | (simp; omega)) _) | (refine Below.trans ?_ (below_drewN _)) | (refine Below.drew ?_) | (refine Below.alloc ?_ (by first | exact Nat.le_refl _ | omega | (simp; done) | (simp; omega)) _) | (refine below_row ?_ (by first | exact Nat.le_refl _ | omega | (simp; done) | (simp; omega)) _)))
  have hv := Lib.hid (elV_two (x := x) (y := y) hg h)
  have HH := Lib.hid h
  have HG := Lib.hid hg
  clear h
  have ⟨g1, g2, g3, g4⟩ := hg
  clear hg
  go_enter Try.func50, Try.ntmps50
  go_wp2_with (go_at_call 68; refine (hidden_no m n _ HH.out).mono ?_; rintro e w1 ⟨rfl, hb1⟩; have p0 := r0.below hb1; have p1 := r1.below hb1; have p2 := r2.below hb1; have hb2 := b0.trans (hb1.mono (by simp; omega)); have HC := copy_two p2 (cell_up hb2 hb c0) (cell_up hb2 hb c1) c)
  have q0 := p0.row_far (k := w.heap.size + 1 + 1) (by omega) #[.int .i64 x, .int .i64 y]
  have q1 := p1.row_far (k := w.heap.size + 1 + 1) (by omega) #[.int .i64 x, .int .i64 y]
  have q2 := p2.row [.int .i64 x, .int .i64 y]
  have b3 := below_row (g := w.heap.size + 1 + 1) hb2 (by omega) #[.int .i64 x, .int .i64 y]
  have RC : ∀ W, Calls Try.prog 59 #[pv m n, pv x y] W fun e w' => e = .returned (pv (x % m) (y % n)) ∧ Below W.heap.size W w' := fun W => red_any m n x y W ⟨g1, by omega⟩ ⟨g3, by omega⟩
  clear p0 p1 p2 hb2 hb1 r0 r1 r2 b0 HC c0 c1
  generalize w1.setRow (w.heap.size + 1 + 1) #[.int .i64 x, .int .i64 y] = W at *
  generalize x % m = x' at *
  generalize y % n = y' at *
  obtain ⟨⟨c0, c1⟩, -, -⟩ := q0.cells2
  obtain ⟨⟨c2, c3⟩, -, -⟩ := q2.cells2
  obtain ⟨⟨c4, c5⟩, f4, f5⟩ := q1.cells2
  have HR := Lib.hid RC
  clear RC
  have h1 := eq69 x' y' x y
  have HS0 : Hid (Row W w.heap.size 63 [.int .i64 m, .int .i64 n] ∧ Row W (w.heap.size + 1 + 1) 69 [.int .i64 x, .int .i64 y] ∧ Below w.heap.size w W) := Lib.hid ⟨q0, q2, b3⟩
  go_region_held3 (fun w' => w'.cell? ⟨w.heap.size + 1 + 1, 0, none⟩ = some (.int .i64 x) ∧ w'.cell? ⟨w.heap.size + 1 + 1, 1, none⟩ = some (.int .i64 y) ∧ w'.cell? ⟨w.heap.size, 0, none⟩ = some (.int .i64 m) ∧ w'.cell? ⟨w.heap.size, 1, none⟩ = some (.int .i64 n) ∧ Hid (Row w' w.heap.size 63 [.int .i64 m, .int .i64 n] ∧ Row w' (w.heap.size + 1 + 1) 69 [.int .i64 x, .int .i64 y] ∧ Below w.heap.size w w')) (first | assumption | exact el_keep HS0 (Below.refl _ _).drew | exact el_keep HS0 (((Below.refl _ _).drew).trans b8) | exact el_set rfl (el_keep HS0 (((Below.refl _ _).drew).trans b8)).2.2.2.2) (first | (with_reducible refine (HR.out _).mono ?_; rintro e w8 ⟨rfl, b8⟩; have p1 := (Row.drew q1).below b8; obtain ⟨⟨c8, c9⟩, f8, f9⟩ := p1.cells2))
  go_wp2
  exact bodyPost_ret (v := .tuple #[pv x y, .bool (decide (x' = x) && decide (y' = y))]) (res2 Try.results50 rfl rfl (load69 ((p1.set 0 (.int .i64 x)).set 1 (.int .i64 y)))) rfl ⟨by rw [hv.out, Bool.decide_and], ((b3.drew.trans (b8.mono b3.size)).setCell (p := ⟨w.heap.size + 1, 0, none⟩) (by dsimp only; omega) _).setCell (p := ⟨w.heap.size + 1, 1, none⟩) (by dsimp only; omega) _⟩
theorem readEl_any (A : Option Addr) (c m n : Nat) (xs : List Int) (w : World) (hg : Gr m n) (hl : xs.length ≤ 1000000) (ha : IntsAt w A xs) :
    Calls Try.prog 50 #[pv m n, .slice A xs.length c] w fun e w' => e = .returned (elR m n xs) ∧ Below w.heap.size w w' := by
  by_cases hb : m = 1 ∧ xs.length ≠ 1 ∨ m ≠ 1 ∧ xs.length ≠ 2
  · exact readEl_bad A c m n xs w hg hl hb
  · match xs, hb, ha, hl with
    | [], hb, _, _ => exact absurd (by simp; omega) hb
    | [y], hb, ha, _ => exact readEl_one A c m n y w hg ha (by simp at hb; exact hb)
    | [x, y], hb, ha, _ => exact readEl_two A c m n x y w hg ha (by simp at hb; exact hb)
    | _ :: _ :: _ :: _, hb, _, _ => exact absurd (by simp; omega) hb
end Go.Proofs.Ytokjdadgdfmffaa
