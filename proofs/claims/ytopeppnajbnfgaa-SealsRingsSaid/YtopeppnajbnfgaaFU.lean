/- The reference: even chains, kinds of cuts. -/
import Derived.Test.YtopeppnajbnfgaaFT
namespace Go.Proofs.Ytopeppnajbnfgaa
open Go.RowKit
set_option maxHeartbeats 1000000
set_option maxRecDepth 100000
theorem evV_iff (s : ByteArray) : evV s = true ↔ ∀ c, c < 4 → cnt s s.size c % 2 = 0 := by
  unfold evV
  rw [decide_eq_true_eq]
  constructor
  · intro h c hc
    have h1 : geti (addL (halfL (sumL s s.size)) (halfL (sumL s s.size))) c = geti (sumL s s.size) c := by rw [h]
    rw [addL_at (by exact hc) (by exact hc), halfS_at s _ hc, sumL_at s _ hc] at h1
    omega
  · intro h
    apply ext_geti (by simp [addL, halfL, sumL])
    intro c hc
    have hc4 : c < 4 := by simpa [addL, halfL, sumL] using hc
    rw [addL_at (by exact hc4) (by exact hc4), halfS_at s _ hc4, sumL_at s _ hc4]
    have := h c hc4
    omega
theorem evV_no {s : ByteArray} {c : Nat} (hc : c < 4) (h : cnt s s.size c % 2 ≠ 0) : evV s = false := by
  cases he : evV s
  · rfl
  · exact absurd ((evV_iff s).1 he c hc) h
theorem Even_any (s : ByteArray) (w : World) (hs : s.size ≤ 1000000) (hok : ∀ i, i < s.size → okC s i) : Calls Try.prog 18 #[.string s] w fun e w' => e = .returned (.bool (evV s)) ∧ Below w.heap.size w w' := by
  have z1 := z46
  have HL := Lib.hid (fun w => Letters_any s w hs hok)
  have hi := info46_iv (x := sumL s s.size) rfl
  have HE := Lib.hid (evV_iff s)
  have HN := Lib.hid (fun (c : Nat) (hc : c < 4) => evV_no (s := s) hc)
  have n0 := (cnt_rng s 0 s.size).1
  have n1 := (cnt_rng s 1 s.size).1
  have n2 := (cnt_rng s 2 s.size).1
  have n3 := (cnt_rng s 3 s.size).1
  have HX := Lib.hid (show evV s = true ↔ (cnt s s.size 0 % 2 = 0 ∧ cnt s s.size 1 % 2 = 0 ∧ cnt s s.size 2 % 2 = 0 ∧ cnt s s.size 3 % 2 = 0) by
    rw [HE.out]
    constructor
    · exact fun h => ⟨h 0 (by omega), h 1 (by omega), h 2 (by omega), h 3 (by omega)⟩
    · rintro ⟨h0, h1, h2, h3⟩ c hc
      rcases c with _ | _ | _ | _ | c
      · exact h0
      · exact h1
      · exact h2
      · exact h3
      · omega)
  clear HE HN hok
  cases g0 : (cnt s s.size 0 % 2 == 0)
  · have HB := Lib.hid (show evV s = false by
      rw [Bool.eq_false_iff]
      intro h
      have h := HX.out.1 h
      have := g0
      simp only [beq_eq_false_iff_ne] at this
      omega)
    go_enter Try.func18, Try.ntmps18
    go_wp2_with (first
      | (go_at_call 41; with_reducible refine (HL.out _).mono ?_; rintro e w1 ⟨rfl, b1⟩; have q1 : Row (w1.alloc (.cells Z4.toArray 46)) w1.heap.size 46 Z4 := row_new rfl)
      | ((with_reducible refine (?_ : wpList _ _ _ (Oper.mk none _ _ _ _ _ :: _) _ _)); refine wpList_store_row rfl 46 (.tmp 3) (.tmp 5) rfl w1.heap.size (iv (sumL s s.size)).toArray rfl rfl 46 Z4.toArray (row_heap q1) hi (size51_iv rfl) (iv_all _) ?_; have q2 := q1.row (iv (sumL s s.size)); have b2 := below_row (b1.alloc b1.size (.cells Z4.toArray 46)) b1.size (iv (sumL s s.size)).toArray; generalize w1.heap.size = g1 at *; generalize World.setRow _ _ _ = W2 at *; clear q1; have d0 : W2.cell? ⟨g1, 0, none⟩ = some (.int .i64 (cnt s s.size 0)) := q2.cell 0; have d1 : W2.cell? ⟨g1, 1, none⟩ = some (.int .i64 (cnt s s.size 1)) := q2.cell 1; have d2 : W2.cell? ⟨g1, 2, none⟩ = some (.int .i64 (cnt s s.size 2)) := q2.cell 2; have d3 : W2.cell? ⟨g1, 3, none⟩ = some (.int .i64 (cnt s s.size 3)) := q2.cell 3; clear q2))
    go_ret
    exact ⟨ret_bool HB.out.symm, b2⟩
  · cases g1 : (cnt s s.size 1 % 2 == 0)
    · have HB := Lib.hid (show evV s = false by
        rw [Bool.eq_false_iff]
        intro h
        have h := HX.out.1 h
        have := g1
        simp only [beq_eq_false_iff_ne] at this
        omega)
      go_enter Try.func18, Try.ntmps18
      go_wp2_with (first
        | (go_at_call 41; with_reducible refine (HL.out _).mono ?_; rintro e w1 ⟨rfl, b1⟩; have q1 : Row (w1.alloc (.cells Z4.toArray 46)) w1.heap.size 46 Z4 := row_new rfl)
        | ((with_reducible refine (?_ : wpList _ _ _ (Oper.mk none _ _ _ _ _ :: _) _ _)); refine wpList_store_row rfl 46 (.tmp 3) (.tmp 5) rfl w1.heap.size (iv (sumL s s.size)).toArray rfl rfl 46 Z4.toArray (row_heap q1) hi (size51_iv rfl) (iv_all _) ?_; have q2 := q1.row (iv (sumL s s.size)); have b2 := below_row (b1.alloc b1.size (.cells Z4.toArray 46)) b1.size (iv (sumL s s.size)).toArray; generalize w1.heap.size = g1 at *; generalize World.setRow _ _ _ = W2 at *; clear q1; have d0 : W2.cell? ⟨g1, 0, none⟩ = some (.int .i64 (cnt s s.size 0)) := q2.cell 0; have d1 : W2.cell? ⟨g1, 1, none⟩ = some (.int .i64 (cnt s s.size 1)) := q2.cell 1; have d2 : W2.cell? ⟨g1, 2, none⟩ = some (.int .i64 (cnt s s.size 2)) := q2.cell 2; have d3 : W2.cell? ⟨g1, 3, none⟩ = some (.int .i64 (cnt s s.size 3)) := q2.cell 3; clear q2))
      go_ret
      exact ⟨ret_bool HB.out.symm, b2⟩
    · cases g2 : (cnt s s.size 2 % 2 == 0)
      · have HB := Lib.hid (show evV s = false by
          rw [Bool.eq_false_iff]
          intro h
          have h := HX.out.1 h
          have := g2
          simp only [beq_eq_false_iff_ne] at this
          omega)
        go_enter Try.func18, Try.ntmps18
        go_wp2_with (first
          | (go_at_call 41; with_reducible refine (HL.out _).mono ?_; rintro e w1 ⟨rfl, b1⟩; have q1 : Row (w1.alloc (.cells Z4.toArray 46)) w1.heap.size 46 Z4 := row_new rfl)
          | ((with_reducible refine (?_ : wpList _ _ _ (Oper.mk none _ _ _ _ _ :: _) _ _)); refine wpList_store_row rfl 46 (.tmp 3) (.tmp 5) rfl w1.heap.size (iv (sumL s s.size)).toArray rfl rfl 46 Z4.toArray (row_heap q1) hi (size51_iv rfl) (iv_all _) ?_; have q2 := q1.row (iv (sumL s s.size)); have b2 := below_row (b1.alloc b1.size (.cells Z4.toArray 46)) b1.size (iv (sumL s s.size)).toArray; generalize w1.heap.size = g1 at *; generalize World.setRow _ _ _ = W2 at *; clear q1; have d0 : W2.cell? ⟨g1, 0, none⟩ = some (.int .i64 (cnt s s.size 0)) := q2.cell 0; have d1 : W2.cell? ⟨g1, 1, none⟩ = some (.int .i64 (cnt s s.size 1)) := q2.cell 1; have d2 : W2.cell? ⟨g1, 2, none⟩ = some (.int .i64 (cnt s s.size 2)) := q2.cell 2; have d3 : W2.cell? ⟨g1, 3, none⟩ = some (.int .i64 (cnt s s.size 3)) := q2.cell 3; clear q2))
        go_ret
        exact ⟨ret_bool HB.out.symm, b2⟩
      · cases g3 : (cnt s s.size 3 % 2 == 0)
        · have HB := Lib.hid (show evV s = false by
            rw [Bool.eq_false_iff]
            intro h
            have h := HX.out.1 h
            have := g3
            simp only [beq_eq_false_iff_ne] at this
            omega)
          go_enter Try.func18, Try.ntmps18
          go_wp2_with (first
            | (go_at_call 41; with_reducible refine (HL.out _).mono ?_; rintro e w1 ⟨rfl, b1⟩; have q1 : Row (w1.alloc (.cells Z4.toArray 46)) w1.heap.size 46 Z4 := row_new rfl)
            | ((with_reducible refine (?_ : wpList _ _ _ (Oper.mk none _ _ _ _ _ :: _) _ _)); refine wpList_store_row rfl 46 (.tmp 3) (.tmp 5) rfl w1.heap.size (iv (sumL s s.size)).toArray rfl rfl 46 Z4.toArray (row_heap q1) hi (size51_iv rfl) (iv_all _) ?_; have q2 := q1.row (iv (sumL s s.size)); have b2 := below_row (b1.alloc b1.size (.cells Z4.toArray 46)) b1.size (iv (sumL s s.size)).toArray; generalize w1.heap.size = g1 at *; generalize World.setRow _ _ _ = W2 at *; clear q1; have d0 : W2.cell? ⟨g1, 0, none⟩ = some (.int .i64 (cnt s s.size 0)) := q2.cell 0; have d1 : W2.cell? ⟨g1, 1, none⟩ = some (.int .i64 (cnt s s.size 1)) := q2.cell 1; have d2 : W2.cell? ⟨g1, 2, none⟩ = some (.int .i64 (cnt s s.size 2)) := q2.cell 2; have d3 : W2.cell? ⟨g1, 3, none⟩ = some (.int .i64 (cnt s s.size 3)) := q2.cell 3; clear q2))
          go_ret
          exact ⟨ret_bool HB.out.symm, b2⟩
        · have HB := Lib.hid (show evV s = true by
            rw [HX.out]
            exact ⟨by simpa using g0, by simpa using g1, by simpa using g2, by simpa using g3⟩)
          go_enter Try.func18, Try.ntmps18
          go_wp2_with (first
            | (go_at_call 41; with_reducible refine (HL.out _).mono ?_; rintro e w1 ⟨rfl, b1⟩; have q1 : Row (w1.alloc (.cells Z4.toArray 46)) w1.heap.size 46 Z4 := row_new rfl)
            | ((with_reducible refine (?_ : wpList _ _ _ (Oper.mk none _ _ _ _ _ :: _) _ _)); refine wpList_store_row rfl 46 (.tmp 3) (.tmp 5) rfl w1.heap.size (iv (sumL s s.size)).toArray rfl rfl 46 Z4.toArray (row_heap q1) hi (size51_iv rfl) (iv_all _) ?_; have q2 := q1.row (iv (sumL s s.size)); have b2 := below_row (b1.alloc b1.size (.cells Z4.toArray 46)) b1.size (iv (sumL s s.size)).toArray; generalize w1.heap.size = g1 at *; generalize World.setRow _ _ _ = W2 at *; clear q1; have d0 : W2.cell? ⟨g1, 0, none⟩ = some (.int .i64 (cnt s s.size 0)) := q2.cell 0; have d1 : W2.cell? ⟨g1, 1, none⟩ = some (.int .i64 (cnt s s.size 1)) := q2.cell 1; have d2 : W2.cell? ⟨g1, 2, none⟩ = some (.int .i64 (cnt s s.size 2)) := q2.cell 2; have d3 : W2.cell? ⟨g1, 3, none⟩ = some (.int .i64 (cnt s s.size 3)) := q2.cell 3; clear q2))
          go_ret
          exact ⟨ret_bool HB.out.symm, b2⟩
end Go.Proofs.Ytopeppnajbnfgaa
