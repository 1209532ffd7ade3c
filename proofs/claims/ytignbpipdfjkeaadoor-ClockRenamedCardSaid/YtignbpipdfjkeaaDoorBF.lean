/- ClockMerges walked. -/
import Derived.Test.YtignbpipdfjkeaaDoorBE
import Derived.Test.YtignbpipdfjkeaaDoorAU
namespace Go.Proofs.YtignbpipdfjkeaaDoor
open Go.RowKit
set_option maxHeartbeats 2000000
set_option maxRecDepth 100000
theorem tbR_row (L : List (List Int)) (k i : Nat) : (getl (tbR L k) i).length ≤ 11 := by
  unfold getl tbR
  rw [List.getD_eq_getElem?_getD, List.getElem?_map]
  cases (L.take k)[i]? with
  | none => simp
  | some l => simp; omega
/-- A table as a call's own. -/
def TabM (w : World) (M : List (List Int)) (e : Ending) (w' : World) : Prop := ∃ A c, e = .returned (.slice A M.length c) ∧ RowsAt w' A M ∧ Below w.heap.size w w'
theorem tabM_any (A : Option Addr) (c : Nat) (L : List (List Int)) (w : World) (hx : L.length ≤ c) (hc : c ≤ maxLen) (ha : RowsIn w A L) :
    ∃ M, (∀ i, i < M.length → (getl M i).length ≤ 1000) ∧ ∀ V, Below w.heap.size w V → Calls Tryd.prog 16 #[.slice A L.length c] V (TabM V M) := by
  refine ⟨tbR L (min L.length 6), fun i _ => by have := tbR_row L (min L.length 6) i; omega, fun V hV => (table_any A c L V (by omega) (ha.below hV)).mono ?_⟩
  rintro e w1 ⟨A1, c1, cs, h1, o1, R1, b1⟩
  exact ⟨A1, c1, by rw [h1, tbR_len (by omega)], rows_at R1 o1, b1⟩
theorem cm_no (A : Option Addr) (c n : Nat) (x y : Int) (w : World) (M : List (List Int)) (HT : Hid (∀ V, Below w.heap.size w V → Calls Tryd.prog 16 #[.slice A n c] V (TabM V M)))
    (HAW : Hid (∀ V, Below w.heap.size w V → Calls Tryd.prog 22 #[] V fun e w' => e = .returned (.bool true) ∧ Below V.heap.size V w'))
    (HM : Hid (∀ V A c, Below w.heap.size w V → RowsAt V A M → Calls Tryd.prog 29 #[.slice A M.length c, .int .i64 x, .int .i64 y] V fun e w' => e = .returned (.tuple #[.string ⟨#[]⟩, .int .i64 2]) ∧ Below V.heap.size V w'))
    (HRM : Hid (∀ V A c, RowsAt V A M → Calls Tryd.prog 21 #[.slice A M.length c] V fun e w' => e = .returned (.bool false) ∧ V = w')) :
    Calls Tryd.prog 4 #[.slice A n c, .agg #[.int .i64 x, .int .i64 y]] w fun e w' => e = .returned (.bool true) ∧ Below w.heap.size w w' := by
  have q0 : Row (w.alloc (.cells #[.int .i64 x, .int .i64 y] 43)) w.heap.size 43 [.int .i64 x, .int .i64 y] := row_new rfl
  have b0 : Below w.heap.size w (w.alloc (.cells #[.int .i64 x, .int .i64 y] 43)) := (Below.refl _ w).alloc (Nat.le_refl _) _
  go_enter Tryd.func4, Tryd.ntmps4
  go_wp2_with (go_at_call 16; refine (HT.out _ b0).mono ?_; rintro e w1 ⟨A1, c1, rfl, ra, b1⟩; have q1 := q0.below b1; replace b0 := b0.trans (b1.mono b0.size))
  have x0 := q1.cell 0
  have x1 := q1.cell 1
  refine wp_region_quiet_lit (by kernel_rfl) (by kernel_rfl) ?_
  repeat go_big_quiet_step ((fail))
  refine wpQuiet_nil ?_
  rintro _ ⟨nq, rfl⟩
  clear x0 x1 q1
  replace b0 := b0.trans (below_drewN nq)
  replace ra := ra.below (below_drewN nq)
  generalize World.drewN w1 nq = W1 at *
  go_wp2_with (first
    | (go_at_call 29; refine (HM.out _ _ _ b0 ra).mono ?_; rintro e w2 ⟨rfl, b2⟩; have ra2 := ra.below b2; replace b0 := b0.trans (b2.mono b0.size))
    | (go_at_call 21; refine (HRM.out _ _ _ ra2).mono ?_; rintro e w3 ⟨rfl, rfl⟩)
    | (go_at_call 22; refine (HAW.out _ b0).mono ?_; rintro e w4 ⟨rfl, b4⟩; replace b0 := b0.trans (b4.mono b0.size)))
  go_ret
  exact ⟨rfl, b0⟩
theorem cm_p0 (A : Option Addr) (c n : Nat) (x y : Int) (w : World) (M : List (List Int)) (HT : Hid (∀ V, Below w.heap.size w V → Calls Tryd.prog 16 #[.slice A n c] V (TabM V M)))
    (HAW : Hid (∀ V, Below w.heap.size w V → Calls Tryd.prog 22 #[] V fun e w' => e = .returned (.bool true) ∧ Below V.heap.size V w'))
    (HM : Hid (∀ V A c, Below w.heap.size w V → RowsAt V A M → Calls Tryd.prog 29 #[.slice A M.length c, .int .i64 x, .int .i64 y] V fun e w' => e = .returned (.tuple #[.string ⟨#[]⟩, .int .i64 2]) ∧ Below V.heap.size V w'))
    (HRM : Hid (∀ V A c, RowsAt V A M → Calls Tryd.prog 21 #[.slice A M.length c] V fun e w' => e = .returned (.bool true) ∧ V = w')) (hk1 : 1 ≤ M.length) (g1 : decide (x < 0) = true) :
    Calls Tryd.prog 4 #[.slice A n c, .agg #[.int .i64 x, .int .i64 y]] w fun e w' => e = .returned (.bool true) ∧ Below w.heap.size w w' := by
  have q0 : Row (w.alloc (.cells #[.int .i64 x, .int .i64 y] 43)) w.heap.size 43 [.int .i64 x, .int .i64 y] := row_new rfl
  have b0 : Below w.heap.size w (w.alloc (.cells #[.int .i64 x, .int .i64 y] 43)) := (Below.refl _ w).alloc (Nat.le_refl _) _
  go_enter Tryd.func4, Tryd.ntmps4
  go_wp2_with (go_at_call 16; refine (HT.out _ b0).mono ?_; rintro e w1 ⟨A1, c1, rfl, ra, b1⟩; have q1 := q0.below b1; replace b0 := b0.trans (b1.mono b0.size); have ra0 := ra; obtain ⟨bA, oA, hA, hbA, hcA⟩ := ra0 hk1; subst hA; obtain ⟨B0, c00, d0, -⟩ := hcA 0 hk1; rw [show (getl M 0).length = nS M from rfl, Nat.add_zero] at d0; clear hcA)
  have x0 := q1.cell 0
  have x1 := q1.cell 1
  refine wp_region_quiet_lit (by kernel_rfl) (by kernel_rfl) ?_
  repeat go_big_quiet_step ((fail))
  refine wpQuiet_nil ?_
  rintro _ ⟨nq, rfl⟩
  clear x0 x1 q1
  replace b0 := b0.trans (below_drewN nq)
  replace ra := ra.below (below_drewN nq)
  replace d0 := ((below_drewN nq).cell (p := ⟨bA, oA, none⟩) hbA).trans d0
  have hbA : bA < (World.drewN w1 nq).heap.size := Nat.lt_of_lt_of_le hbA (below_drewN (B := w1.heap.size) nq).size
  generalize World.drewN w1 nq = W1 at *
  go_wp2_with (first
    | (go_at_call 29; refine (HM.out _ _ _ b0 ra).mono ?_; rintro e w2 ⟨rfl, b2⟩; have ra2 := ra.below b2; have d2 := (b2.cell (p := ⟨bA, oA, none⟩) hbA).trans d0; replace b0 := b0.trans (b2.mono b0.size))
    | (go_at_call 21; refine (HRM.out _ _ _ ra2).mono ?_; rintro e w3 ⟨rfl, rfl⟩)
    | (go_at_call 22; refine (HAW.out _ b0).mono ?_; rintro e w4 ⟨rfl, b4⟩; replace b0 := b0.trans (b4.mono b0.size)))
  go_ret
  exact ⟨rfl, b0⟩
theorem cm_p1 (A : Option Addr) (c n : Nat) (x y : Int) (w : World) (M : List (List Int)) (HT : Hid (∀ V, Below w.heap.size w V → Calls Tryd.prog 16 #[.slice A n c] V (TabM V M)))
    (HAW : Hid (∀ V, Below w.heap.size w V → Calls Tryd.prog 22 #[] V fun e w' => e = .returned (.bool true) ∧ Below V.heap.size V w'))
    (HM : Hid (∀ V A c, Below w.heap.size w V → RowsAt V A M → Calls Tryd.prog 29 #[.slice A M.length c, .int .i64 x, .int .i64 y] V fun e w' => e = .returned (.tuple #[.string ⟨#[]⟩, .int .i64 2]) ∧ Below V.heap.size V w'))
    (HRM : Hid (∀ V A c, RowsAt V A M → Calls Tryd.prog 21 #[.slice A M.length c] V fun e w' => e = .returned (.bool true) ∧ V = w')) (hk1 : 1 ≤ M.length) (g1 : decide (x < 0) = false) (g2 : decide ((nS M : Int) ≤ x) = true) :
    Calls Tryd.prog 4 #[.slice A n c, .agg #[.int .i64 x, .int .i64 y]] w fun e w' => e = .returned (.bool true) ∧ Below w.heap.size w w' := by
  have q0 : Row (w.alloc (.cells #[.int .i64 x, .int .i64 y] 43)) w.heap.size 43 [.int .i64 x, .int .i64 y] := row_new rfl
  have b0 : Below w.heap.size w (w.alloc (.cells #[.int .i64 x, .int .i64 y] 43)) := (Below.refl _ w).alloc (Nat.le_refl _) _
  go_enter Tryd.func4, Tryd.ntmps4
  go_wp2_with (go_at_call 16; refine (HT.out _ b0).mono ?_; rintro e w1 ⟨A1, c1, rfl, ra, b1⟩; have q1 := q0.below b1; replace b0 := b0.trans (b1.mono b0.size); have ra0 := ra; obtain ⟨bA, oA, hA, hbA, hcA⟩ := ra0 hk1; subst hA; obtain ⟨B0, c00, d0, -⟩ := hcA 0 hk1; rw [show (getl M 0).length = nS M from rfl, Nat.add_zero] at d0; clear hcA)
  have x0 := q1.cell 0
  have x1 := q1.cell 1
  refine wp_region_quiet_lit (by kernel_rfl) (by kernel_rfl) ?_
  repeat go_big_quiet_step ((fail))
  refine wpQuiet_nil ?_
  rintro _ ⟨nq, rfl⟩
  clear x0 x1 q1
  replace b0 := b0.trans (below_drewN nq)
  replace ra := ra.below (below_drewN nq)
  replace d0 := ((below_drewN nq).cell (p := ⟨bA, oA, none⟩) hbA).trans d0
  have hbA : bA < (World.drewN w1 nq).heap.size := Nat.lt_of_lt_of_le hbA (below_drewN (B := w1.heap.size) nq).size
  generalize World.drewN w1 nq = W1 at *
  go_wp2_with (first
    | (go_at_call 29; refine (HM.out _ _ _ b0 ra).mono ?_; rintro e w2 ⟨rfl, b2⟩; have ra2 := ra.below b2; have d2 := (b2.cell (p := ⟨bA, oA, none⟩) hbA).trans d0; replace b0 := b0.trans (b2.mono b0.size))
    | (go_at_call 21; refine (HRM.out _ _ _ ra2).mono ?_; rintro e w3 ⟨rfl, rfl⟩)
    | (go_at_call 22; refine (HAW.out _ b0).mono ?_; rintro e w4 ⟨rfl, b4⟩; replace b0 := b0.trans (b4.mono b0.size)))
  go_ret
  exact ⟨rfl, b0⟩
theorem cm_q0 (A : Option Addr) (c n : Nat) (x y : Int) (w : World) (M : List (List Int)) (HT : Hid (∀ V, Below w.heap.size w V → Calls Tryd.prog 16 #[.slice A n c] V (TabM V M)))
    (HAW : Hid (∀ V, Below w.heap.size w V → Calls Tryd.prog 22 #[] V fun e w' => e = .returned (.bool true) ∧ Below V.heap.size V w'))
    (HM : Hid (∀ V A c, Below w.heap.size w V → RowsAt V A M → Calls Tryd.prog 29 #[.slice A M.length c, .int .i64 x, .int .i64 y] V fun e w' => e = .returned (.tuple #[.string ⟨#[]⟩, .int .i64 2]) ∧ Below V.heap.size V w'))
    (HRM : Hid (∀ V A c, RowsAt V A M → Calls Tryd.prog 21 #[.slice A M.length c] V fun e w' => e = .returned (.bool true) ∧ V = w')) (hk1 : 1 ≤ M.length) (g1 : decide (x < 0) = false) (g2 : decide ((nS M : Int) ≤ x) = false) (g3 : decide (y < 0) = true) :
    Calls Tryd.prog 4 #[.slice A n c, .agg #[.int .i64 x, .int .i64 y]] w fun e w' => e = .returned (.bool true) ∧ Below w.heap.size w w' := by
  have q0 : Row (w.alloc (.cells #[.int .i64 x, .int .i64 y] 43)) w.heap.size 43 [.int .i64 x, .int .i64 y] := row_new rfl
  have b0 : Below w.heap.size w (w.alloc (.cells #[.int .i64 x, .int .i64 y] 43)) := (Below.refl _ w).alloc (Nat.le_refl _) _
  go_enter Tryd.func4, Tryd.ntmps4
  go_wp2_with (go_at_call 16; refine (HT.out _ b0).mono ?_; rintro e w1 ⟨A1, c1, rfl, ra, b1⟩; have q1 := q0.below b1; replace b0 := b0.trans (b1.mono b0.size); have ra0 := ra; obtain ⟨bA, oA, hA, hbA, hcA⟩ := ra0 hk1; subst hA; obtain ⟨B0, c00, d0, -⟩ := hcA 0 hk1; rw [show (getl M 0).length = nS M from rfl, Nat.add_zero] at d0; clear hcA)
  have x0 := q1.cell 0
  have x1 := q1.cell 1
  refine wp_region_quiet_lit (by kernel_rfl) (by kernel_rfl) ?_
  repeat go_big_quiet_step ((fail))
  refine wpQuiet_nil ?_
  rintro _ ⟨nq, rfl⟩
  clear x0 x1 q1
  replace b0 := b0.trans (below_drewN nq)
  replace ra := ra.below (below_drewN nq)
  replace d0 := ((below_drewN nq).cell (p := ⟨bA, oA, none⟩) hbA).trans d0
  have hbA : bA < (World.drewN w1 nq).heap.size := Nat.lt_of_lt_of_le hbA (below_drewN (B := w1.heap.size) nq).size
  generalize World.drewN w1 nq = W1 at *
  go_wp2_with (first
    | (go_at_call 29; refine (HM.out _ _ _ b0 ra).mono ?_; rintro e w2 ⟨rfl, b2⟩; have ra2 := ra.below b2; have d2 := (b2.cell (p := ⟨bA, oA, none⟩) hbA).trans d0; replace b0 := b0.trans (b2.mono b0.size))
    | (go_at_call 21; refine (HRM.out _ _ _ ra2).mono ?_; rintro e w3 ⟨rfl, rfl⟩)
    | (go_at_call 22; refine (HAW.out _ b0).mono ?_; rintro e w4 ⟨rfl, b4⟩; replace b0 := b0.trans (b4.mono b0.size)))
  go_ret
  exact ⟨rfl, b0⟩
theorem cm_q1 (A : Option Addr) (c n : Nat) (x y : Int) (w : World) (M : List (List Int)) (HT : Hid (∀ V, Below w.heap.size w V → Calls Tryd.prog 16 #[.slice A n c] V (TabM V M)))
    (HAW : Hid (∀ V, Below w.heap.size w V → Calls Tryd.prog 22 #[] V fun e w' => e = .returned (.bool true) ∧ Below V.heap.size V w'))
    (HM : Hid (∀ V A c, Below w.heap.size w V → RowsAt V A M → Calls Tryd.prog 29 #[.slice A M.length c, .int .i64 x, .int .i64 y] V fun e w' => e = .returned (.tuple #[.string ⟨#[]⟩, .int .i64 2]) ∧ Below V.heap.size V w'))
    (HRM : Hid (∀ V A c, RowsAt V A M → Calls Tryd.prog 21 #[.slice A M.length c] V fun e w' => e = .returned (.bool true) ∧ V = w')) (hk1 : 1 ≤ M.length) (g1 : decide (x < 0) = false) (g2 : decide ((nS M : Int) ≤ x) = false) (g3 : decide (y < 0) = false) (g4 : decide ((nS M : Int) ≤ y) = true) :
    Calls Tryd.prog 4 #[.slice A n c, .agg #[.int .i64 x, .int .i64 y]] w fun e w' => e = .returned (.bool true) ∧ Below w.heap.size w w' := by
  have q0 : Row (w.alloc (.cells #[.int .i64 x, .int .i64 y] 43)) w.heap.size 43 [.int .i64 x, .int .i64 y] := row_new rfl
  have b0 : Below w.heap.size w (w.alloc (.cells #[.int .i64 x, .int .i64 y] 43)) := (Below.refl _ w).alloc (Nat.le_refl _) _
  go_enter Tryd.func4, Tryd.ntmps4
  go_wp2_with (go_at_call 16; refine (HT.out _ b0).mono ?_; rintro e w1 ⟨A1, c1, rfl, ra, b1⟩; have q1 := q0.below b1; replace b0 := b0.trans (b1.mono b0.size); have ra0 := ra; obtain ⟨bA, oA, hA, hbA, hcA⟩ := ra0 hk1; subst hA; obtain ⟨B0, c00, d0, -⟩ := hcA 0 hk1; rw [show (getl M 0).length = nS M from rfl, Nat.add_zero] at d0; clear hcA)
  have x0 := q1.cell 0
  have x1 := q1.cell 1
  refine wp_region_quiet_lit (by kernel_rfl) (by kernel_rfl) ?_
  repeat go_big_quiet_step ((fail))
  refine wpQuiet_nil ?_
  rintro _ ⟨nq, rfl⟩
  clear x0 x1 q1
  replace b0 := b0.trans (below_drewN nq)
  replace ra := ra.below (below_drewN nq)
  replace d0 := ((below_drewN nq).cell (p := ⟨bA, oA, none⟩) hbA).trans d0
  have hbA : bA < (World.drewN w1 nq).heap.size := Nat.lt_of_lt_of_le hbA (below_drewN (B := w1.heap.size) nq).size
  generalize World.drewN w1 nq = W1 at *
  go_wp2_with (first
    | (go_at_call 29; refine (HM.out _ _ _ b0 ra).mono ?_; rintro e w2 ⟨rfl, b2⟩; have ra2 := ra.below b2; have d2 := (b2.cell (p := ⟨bA, oA, none⟩) hbA).trans d0; replace b0 := b0.trans (b2.mono b0.size))
    | (go_at_call 21; refine (HRM.out _ _ _ ra2).mono ?_; rintro e w3 ⟨rfl, rfl⟩)
    | (go_at_call 22; refine (HAW.out _ b0).mono ?_; rintro e w4 ⟨rfl, b4⟩; replace b0 := b0.trans (b4.mono b0.size)))
  go_ret
  exact ⟨rfl, b0⟩
theorem cm_none (A : Option Addr) (c n : Nat) (x y : Int) (w : World) (M : List (List Int)) (HT : Hid (∀ V, Below w.heap.size w V → Calls Tryd.prog 16 #[.slice A n c] V (TabM V M)))
    (HAW : Hid (∀ V, Below w.heap.size w V → Calls Tryd.prog 22 #[] V fun e w' => e = .returned (.bool true) ∧ Below V.heap.size V w')) (S : ByteArray)
    (HM : Hid (∀ V A c, Below w.heap.size w V → RowsAt V A M → Calls Tryd.prog 29 #[.slice A M.length c, .int .i64 x, .int .i64 y] V fun e w' => e = .returned (.tuple #[.string ⟨#[]⟩, .int .i64 6]) ∧ Below V.heap.size V w'))
    (HRM : Hid (∀ V A c, RowsAt V A M → Calls Tryd.prog 21 #[.slice A M.length c] V fun e w' => e = .returned (.bool true) ∧ V = w'))
    (HR2 : Hid (∀ V A c, Below w.heap.size w V → RowsAt V A M → Calls Tryd.prog 30 #[.slice A M.length c, .int .i64 x, .int .i64 y] V fun e w' => e = .returned (.tuple #[.string S, .bool false]) ∧ Below V.heap.size V w')) (hk1 : 1 ≤ M.length) (g1 : decide (x < 0) = false) (g2 : decide ((nS M : Int) ≤ x) = false) (g3 : decide (y < 0) = false) (g4 : decide ((nS M : Int) ≤ y) = false) :
    Calls Tryd.prog 4 #[.slice A n c, .agg #[.int .i64 x, .int .i64 y]] w fun e w' => e = .returned (.bool true) ∧ Below w.heap.size w w' := by
  have q0 : Row (w.alloc (.cells #[.int .i64 x, .int .i64 y] 43)) w.heap.size 43 [.int .i64 x, .int .i64 y] := row_new rfl
  have b0 : Below w.heap.size w (w.alloc (.cells #[.int .i64 x, .int .i64 y] 43)) := (Below.refl _ w).alloc (Nat.le_refl _) _
  go_enter Tryd.func4, Tryd.ntmps4
  go_wp2_with (go_at_call 16; refine (HT.out _ b0).mono ?_; rintro e w1 ⟨A1, c1, rfl, ra, b1⟩; have q1 := q0.below b1; replace b0 := b0.trans (b1.mono b0.size); have ra0 := ra; obtain ⟨bA, oA, hA, hbA, hcA⟩ := ra0 hk1; subst hA; obtain ⟨B0, c00, d0, -⟩ := hcA 0 hk1; rw [show (getl M 0).length = nS M from rfl, Nat.add_zero] at d0; clear hcA)
  have x0 := q1.cell 0
  have x1 := q1.cell 1
  refine wp_region_quiet_lit (by kernel_rfl) (by kernel_rfl) ?_
  repeat go_big_quiet_step ((fail))
  refine wpQuiet_nil ?_
  rintro _ ⟨nq, rfl⟩
  clear x0 x1 q1
  replace b0 := b0.trans (below_drewN nq)
  replace ra := ra.below (below_drewN nq)
  replace d0 := ((below_drewN nq).cell (p := ⟨bA, oA, none⟩) hbA).trans d0
  have hbA : bA < (World.drewN w1 nq).heap.size := Nat.lt_of_lt_of_le hbA (below_drewN (B := w1.heap.size) nq).size
  generalize World.drewN w1 nq = W1 at *
  go_wp2_with (first
    | (go_at_call 29; refine (HM.out _ _ _ b0 ra).mono ?_; rintro e w2 ⟨rfl, b2⟩; have ra2 := ra.below b2; have d2 := (b2.cell (p := ⟨bA, oA, none⟩) hbA).trans d0; replace b0 := b0.trans (b2.mono b0.size))
    | (go_at_call 21; refine (HRM.out _ _ _ ra2).mono ?_; rintro e w3 ⟨rfl, rfl⟩)
    | (go_at_call 22; refine (HAW.out _ b0).mono ?_; rintro e w4 ⟨rfl, b4⟩; replace b0 := b0.trans (b4.mono b0.size))
    | (go_at_call 30; refine (HR2.out _ _ _ b0 ra2).mono ?_; rintro e w5 ⟨rfl, b5⟩; replace b0 := b0.trans (b5.mono b0.size)))
  go_ret
  exact ⟨rfl, b0⟩
theorem cm_yes (A : Option Addr) (c n : Nat) (x y : Int) (w : World) (M : List (List Int)) (HT : Hid (∀ V, Below w.heap.size w V → Calls Tryd.prog 16 #[.slice A n c] V (TabM V M)))
    (HAW : Hid (∀ V, Below w.heap.size w V → Calls Tryd.prog 22 #[] V fun e w' => e = .returned (.bool true) ∧ Below V.heap.size V w')) (S : ByteArray)
    (HM : Hid (∀ V A c, Below w.heap.size w V → RowsAt V A M → Calls Tryd.prog 29 #[.slice A M.length c, .int .i64 x, .int .i64 y] V fun e w' => e = .returned (.tuple #[.string S, .int .i64 0]) ∧ Below V.heap.size V w'))
    (HRM : Hid (∀ V A c, RowsAt V A M → Calls Tryd.prog 21 #[.slice A M.length c] V fun e w' => e = .returned (.bool true) ∧ V = w'))
    (HR2 : Hid (∀ V A c, Below w.heap.size w V → RowsAt V A M → Calls Tryd.prog 30 #[.slice A M.length c, .int .i64 x, .int .i64 y] V fun e w' => e = .returned (.tuple #[.string S, .bool true]) ∧ Below V.heap.size V w')) (hk1 : 1 ≤ M.length) (g1 : decide (x < 0) = false) (g2 : decide ((nS M : Int) ≤ x) = false) (g3 : decide (y < 0) = false) (g4 : decide ((nS M : Int) ≤ y) = false) :
    Calls Tryd.prog 4 #[.slice A n c, .agg #[.int .i64 x, .int .i64 y]] w fun e w' => e = .returned (.bool true) ∧ Below w.heap.size w w' := by
  have q0 : Row (w.alloc (.cells #[.int .i64 x, .int .i64 y] 43)) w.heap.size 43 [.int .i64 x, .int .i64 y] := row_new rfl
  have b0 : Below w.heap.size w (w.alloc (.cells #[.int .i64 x, .int .i64 y] 43)) := (Below.refl _ w).alloc (Nat.le_refl _) _
  go_enter Tryd.func4, Tryd.ntmps4
  go_wp2_with (go_at_call 16; refine (HT.out _ b0).mono ?_; rintro e w1 ⟨A1, c1, rfl, ra, b1⟩; have q1 := q0.below b1; replace b0 := b0.trans (b1.mono b0.size); have ra0 := ra; obtain ⟨bA, oA, hA, hbA, hcA⟩ := ra0 hk1; subst hA; obtain ⟨B0, c00, d0, -⟩ := hcA 0 hk1; rw [show (getl M 0).length = nS M from rfl, Nat.add_zero] at d0; clear hcA)
  have x0 := q1.cell 0
  have x1 := q1.cell 1
  refine wp_region_quiet_lit (by kernel_rfl) (by kernel_rfl) ?_
  repeat go_big_quiet_step ((fail))
  refine wpQuiet_nil ?_
  rintro _ ⟨nq, rfl⟩
  clear x0 x1 q1
  replace b0 := b0.trans (below_drewN nq)
  replace ra := ra.below (below_drewN nq)
  replace d0 := ((below_drewN nq).cell (p := ⟨bA, oA, none⟩) hbA).trans d0
  have hbA : bA < (World.drewN w1 nq).heap.size := Nat.lt_of_lt_of_le hbA (below_drewN (B := w1.heap.size) nq).size
  generalize World.drewN w1 nq = W1 at *
  go_wp2_with (first
    | (go_at_call 29; refine (HM.out _ _ _ b0 ra).mono ?_; rintro e w2 ⟨rfl, b2⟩; have ra2 := ra.below b2; have d2 := (b2.cell (p := ⟨bA, oA, none⟩) hbA).trans d0; replace b0 := b0.trans (b2.mono b0.size))
    | (go_at_call 21; refine (HRM.out _ _ _ ra2).mono ?_; rintro e w3 ⟨rfl, rfl⟩)
    | (go_at_call 22; refine (HAW.out _ b0).mono ?_; rintro e w4 ⟨rfl, b4⟩; replace b0 := b0.trans (b4.mono b0.size))
    | (go_at_call 30; refine (HR2.out _ _ _ b0 ra2).mono ?_; rintro e w5 ⟨rfl, b5⟩; replace b0 := b0.trans (b5.mono b0.size)))
  go_ret
  exact ⟨rfl, b0⟩
theorem clockMerges_any (A : Option Addr) (c : Nat) (L : List (List Int)) (x y : Int) (w : World) (ht : TabW w) (hx : L.length ≤ c) (hc : c ≤ maxLen) (ha : RowsIn w A L) :
    Calls Tryd.prog 4 #[.slice A L.length c, .agg #[.int .i64 x, .int .i64 y]] w fun e w' => e = .returned (.bool true) ∧ Below w.heap.size w w' := by
  obtain ⟨M, hl, hT⟩ := tabM_any A c L w hx hc ha
  have HT := Lib.hid hT
  have HAW := Lib.hid (fun (V : World) (hV : Below w.heap.size w V) => awake_any V (ht.below hV ht.lt))
  have HRM := Lib.hid (fun (V : World) A c ha => refMachine_any A c M V hl ha)
  cases hk : okM M
  · rw [hk] at HRM
    exact cm_no A c L.length x y w M HT HAW (Lib.hid (fun V A c _ ha => Merge_no A c M x y V hk ha)) HRM
  · rw [hk] at HRM
    have h := okM_iff.1 hk
    have HB : (isQ (nS M) x && isQ (nS M) y) = false → Hid (∀ V A c, Below w.heap.size w V → RowsAt V A M → Calls Tryd.prog 29 #[.slice A M.length c, .int .i64 x, .int .i64 y] V fun e w' => e = .returned (.tuple #[.string ⟨#[]⟩, .int .i64 2]) ∧ Below V.heap.size V w') := fun hb => Lib.hid (fun V A c _ ha => Merge_bad A c M x y V h ha hb)
    by_cases h1 : x < 0
    · exact cm_p0 A c L.length x y w M HT HAW (HB (by simp [isQ]; omega)) HRM h.k1 (decide_eq_true h1)
    by_cases h2 : (nS M : Int) ≤ x
    · exact cm_p1 A c L.length x y w M HT HAW (HB (by simp [isQ]; omega)) HRM h.k1 (decide_eq_false h1) (decide_eq_true h2)
    by_cases h3 : y < 0
    · exact cm_q0 A c L.length x y w M HT HAW (HB (by simp [isQ]; omega)) HRM h.k1 (decide_eq_false h1) (decide_eq_false h2) (decide_eq_true h3)
    by_cases h4 : (nS M : Int) ≤ y
    · exact cm_q1 A c L.length x y w M HT HAW (HB (by simp [isQ]; omega)) HRM h.k1 (decide_eq_false h1) (decide_eq_false h2) (decide_eq_false h3) (decide_eq_true h4)
    obtain ⟨p, rfl⟩ := Int.eq_ofNat_of_zero_le (show 0 ≤ x by omega)
    obtain ⟨q, rfl⟩ := Int.eq_ofNat_of_zero_le (show 0 ≤ y by omega)
    have hp : p < nS M := by omega
    have hq : q < nS M := by omega
    have HMY := fun (V : World) (hV : Below w.heap.size w V) A c ha => Merge_yes A c M p q V h ha (ht.below hV ht.lt) hp hq
    have HRY := fun (V : World) A c ha => refMerge_any A c M p q V h hp hq ha
    by_cases h5 : szS (shP M p q).1 = 1
    · rw [if_pos h5, if_pos h5] at HMY
      rw [h5] at HRY
      exact cm_yes A c L.length p q w M HT HAW (wS (shP M p q).2) (Lib.hid (fun V A c hV ha => HMY V hV A c ha)) HRM (Lib.hid (fun V A c _ ha => HRY V A c ha)) h.k1 (decide_eq_false h1) (decide_eq_false h2) (decide_eq_false h3) (decide_eq_false h4)
    · rw [if_neg h5, if_neg h5] at HMY
      have hf : ((szS (shP M p q).1 : Int) == 1) = false := by rw [beq_eq_false_iff_ne]; omega
      rw [hf] at HRY
      exact cm_none A c L.length p q w M HT HAW (wS (shP M p q).2) (Lib.hid (fun V A c hV ha => HMY V hV A c ha)) HRM (Lib.hid (fun V A c _ ha => HRY V A c ha)) h.k1 (decide_eq_false h1) (decide_eq_false h2) (decide_eq_false h3) (decide_eq_false h4)
end Go.Proofs.YtignbpipdfjkeaaDoor
