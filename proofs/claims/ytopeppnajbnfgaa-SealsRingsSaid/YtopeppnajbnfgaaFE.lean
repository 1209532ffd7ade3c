/- Is the chain even: the code. -/
import Derived.Test.YtopeppnajbnfgaaFF
namespace Go.Proofs.Ytopeppnajbnfgaa
open Go.RowKit
set_option maxHeartbeats 1000000
set_option maxRecDepth 100000
/-- Is it even? -/
def evV (s : ByteArray) : Bool := decide (addL (halfL (sumL s s.size)) (halfL (sumL s s.size)) = sumL s s.size)
def reV (s : ByteArray) : Value := .tuple #[.agg (iv (if chV s then tal s else Z101)).toArray, .bool (chV s && evV s)]
theorem halfS_at (s : ByteArray) (p : Nat) {i : Nat} (hi : i < 4) : geti (halfL (sumL s p)) i = cnt s p i / 2 := by
  rw [halfL_at (by exact hi), sumL_at s p hi, Int.tdiv_eq_ediv_of_nonneg (cnt_rng s i p).1]
theorem halfS_sm (s : ByteArray) {p : Nat} (hp : p ≤ 1000) : Sm (halfL (sumL s p)) := ⟨rfl, fun i hi => by
  rw [halfS_at s p hi]
  have := cnt_rng s i p
  omega⟩
theorem Z4I_sm : Sm Z4I := ⟨rfl, fun i hi => by
  have : geti Z4I i = 0 := by
    rcases i with _ | _ | _ | _ | i <;> first | rfl | omega
  omega⟩
theorem reV_no {s : ByteArray} (h : chV s = false) : reV s = .tuple #[.agg (iv Z101).toArray, .bool false] := by unfold reV; rw [h]; rfl
theorem readEven_any (s : ByteArray) (w : World) : Calls Try.prog 42 #[.string s] w fun e w' => e = .returned (reV s) ∧ Below w.heap.size w w' := by
  have z4 := z54
  have z1 := z51
  have HR := Lib.hid (fun w => readChain_any s w)
  cases hc : chV s
  · have HR := Lib.hid (fun w => (rcV_no hc ▸ readChain_any s w : Calls Try.prog 47 #[.string s] w fun e w' => e = .returned (.tuple #[.agg (iv Z101).toArray, .bool false]) ∧ Below w.heap.size w w'))
    have HA := Lib.hid all_zero
    have HH := Lib.hid (fun w => half_any Z4I w Z4I_sm)
    have r0 : Row (w.alloc (.cells (iv Z101).toArray 54)) w.heap.size 54 (iv Z101) := row_new rfl
    have b0 : Below w.heap.size w (w.alloc (.cells (iv Z101).toArray 54)) := (Below.refl _ w).alloc (Nat.le_refl _) _
    have hl := Z101_len
    have hi := info54_iv hl
    have h5i := info51_iv (x := halfL Z4I) rfl
    have h5i' : (Try.prog.info? 51).map (·.size) = some (iv (halfL Z4I)).length := info51
    have hi' : (Try.prog.info? 54).map (·.size) = some (iv Z101).length := by rw [iv_len, hl]; exact info54
    have hcl := reV_no hc
    generalize Z101 = X at *
    go_enter Try.func42, Try.ntmps42
    go_wp2_with (first
      | (go_at_call 47; with_reducible refine (HR.out _).mono ?_; rintro e w1 ⟨rfl, b1⟩; have q0 := r0.below b1; have bq := b0.trans (b1.mono b0.size); have hz1 := bq.size; have q1 : Row (w1.alloc (.cells (iv X).toArray 54)) w1.heap.size 54 (iv X) := row_new rfl)
      | ((with_reducible refine (?_ : wpList _ _ _ (Oper.mk none _ _ _ _ _ :: _) _ _)); with_reducible refine (?_ : wpList _ _ _ (Oper.mk _ (Op.store 54 (.tmp 4) _) _ _ _ _ :: _) _ _); refine wpList_store_row rfl 54 (.tmp 4) (.tmp 10) rfl w1.heap.size (iv X).toArray rfl rfl 54 (iv X).toArray (row_heap q1) hi (size54_iv hl hl) (iv_all _) ?_; have p1 := q1.row (iv X); have p0 := (q0.alloc (.cells (iv X).toArray 54)).row_far (k := w1.heap.size) (by have := q0.lt; omega) (iv X).toArray; have hne4 : w.heap.size ≠ w1.heap.size := (by have := q0.lt; omega); have bp := below_row (bq.alloc hz1 (.cells (iv X).toArray 54)) hz1 (iv X).toArray; generalize hg4 : w1.heap.size = g4 at *; generalize hW2 : World.setRow _ _ _ = W2 at *; clear hW2 q0 bq q1 hg4)
      | ((with_reducible refine (?_ : wpList _ _ _ (Oper.mk (some 12) _ _ _ _ _ :: _) _ _)); refine wpList_load_row rfl 54 (.tmp 4) rfl g4 rfl 54 (iv X).toArray (0, 0) _ (row_heap p1) Try.underlying54 rfl hi ?_)
      | (go_at_call 51; with_reducible refine (HA.out _).mono ?_; rintro e w3 ⟨rfl, b3⟩; replace p1 := p1.below b3; replace p0 := p0.below b3; replace bp := bp.trans (b3.mono bp.size); clear b3)
      | (go_at_call 52; with_reducible refine (HH.out _).mono ?_; rintro e w5 ⟨rfl, b5⟩; replace p1 := p1.below b5; replace p0 := p0.below b5; replace bp := bp.trans (b5.mono bp.size); clear b5; have p6 : Row (w5.alloc (.cells Z4.toArray 51)) w5.heap.size 51 Z4 := row_new rfl)
      | ((with_reducible refine (?_ : wpList _ _ _ (Oper.mk none _ _ _ _ _ :: _) _ _)); with_reducible refine (?_ : wpList _ _ _ (Oper.mk _ (Op.store 51 (.tmp 6) _) _ _ _ _ :: _) _ _); refine wpList_store_row rfl 51 (.tmp 6) (.tmp 14) rfl w5.heap.size (iv (halfL Z4I)).toArray rfl rfl 51 Z4.toArray (row_heap p6) h5i (size51_iv rfl) (iv_all _) ?_; have hne5 : w.heap.size ≠ w5.heap.size := (by have := p0.lt; omega); replace p6 := p6.row (iv (halfL Z4I)); replace p1 := (p1.alloc (.cells Z4.toArray 51)).row_far (k := w5.heap.size) (by have := p1.lt; omega) (iv (halfL Z4I)).toArray; replace p0 := (p0.alloc (.cells Z4.toArray 51)).row_far (k := w5.heap.size) (by have := p0.lt; omega) (iv (halfL Z4I)).toArray; replace bp := below_row (bp.alloc bp.size (.cells Z4.toArray 51)) bp.size (iv (halfL Z4I)).toArray; generalize w5.heap.size = g5 at *; generalize hW6 : World.setRow _ _ _ = W6 at *; clear hW6 w5 W2 b1 w1))
    refine wp_region_noPanic ?_
    refine wp_region_held_drew (S := fun W => Row W g4 54 (iv X) ∧ Row W g5 51 (iv (halfL Z4I)) ∧ Below w.heap.size w W) (by kernel_rfl) ⟨p1.drew, p6.drew, bp.drew⟩ (fun hH => ?_)
    simp only [Act.put]
    replace p0 := p0.drew
    clear p1 p6 bp
    generalize World.drew W6 = Wd at *
    refine wpAnyH_take (i := 0) (v := .agg (iv X).toArray) rfl (by kernel_rfl) (by kernel_rfl) (by kernel_rfl) (fun _ _ _ h => h) (yieldsIf_load_mid (by rfl) _ _ rfl _ _ rfl _ _ (fun W hW => hW.1.range) Try.underlying54 rfl hi') hH ?_
    simp only [List.getElem_toArray, List.getElem_cons_zero, Act.put, List.setIfInBounds_toArray, List.set_cons_zero, List.set_cons_succ]
    refine wpAnyH_take (i := 1) (v := .bool false) rfl (by kernel_rfl) (by kernel_rfl) (by kernel_rfl) (fun _ _ _ h => h) (Or.inl ⟨by rfl, fun W hW => ?_⟩) hH ?_
    · go_simp
    simp only [List.getElem_toArray, List.getElem_cons_zero, List.getElem_cons_succ, Act.put, List.setIfInBounds_toArray, List.set_cons_zero, List.set_cons_succ]
    refine wpAnyH_take (i := 2) (v := .bool false) rfl (by kernel_rfl) (by kernel_rfl) (by kernel_rfl) (fun _ _ _ h => h) (Or.inl ⟨by rfl, fun W hW => ?_⟩) hH ?_
    · go_simp
    simp only [List.getElem_toArray, List.getElem_cons_zero, List.getElem_cons_succ, Act.put, List.setIfInBounds_toArray, List.set_cons_zero, List.set_cons_succ]
    refine wpAnyH_take (i := 3) (v := undef) rfl (by kernel_rfl) (by kernel_rfl) (by kernel_rfl) (fun _ _ _ h => h) (Or.inr ⟨by kernel_rfl, rfl⟩) hH ?_
    simp only [List.getElem_toArray, List.getElem_cons_zero, List.getElem_cons_succ, Act.put, List.setIfInBounds_toArray, List.set_cons_zero, List.set_cons_succ]
    refine wpAnyH_take (i := 4) (v := undef) rfl (by kernel_rfl) (by kernel_rfl) (by kernel_rfl) (fun _ _ _ h => h) (Or.inr ⟨by kernel_rfl, rfl⟩) hH ?_
    simp only [List.getElem_toArray, List.getElem_cons_zero, List.getElem_cons_succ, Act.put, List.setIfInBounds_toArray, List.set_cons_zero, List.set_cons_succ]
    refine wpAnyH_take (i := 5) (v := undef) rfl (by kernel_rfl) (by kernel_rfl) (by kernel_rfl) (fun _ _ _ h => h) (Or.inr ⟨by kernel_rfl, rfl⟩) hH ?_
    simp only [List.getElem_toArray, List.getElem_cons_zero, List.getElem_cons_succ, Act.put, List.setIfInBounds_toArray, List.set_cons_zero, List.set_cons_succ]
    refine wpAnyH_take (i := 6) (v := undef) rfl (by kernel_rfl) (by kernel_rfl) (by kernel_rfl) (fun _ _ _ h => h) (Or.inr ⟨by kernel_rfl, rfl⟩) hH ?_
    simp only [List.getElem_toArray, List.getElem_cons_zero, List.getElem_cons_succ, Act.put, List.setIfInBounds_toArray, List.set_cons_zero, List.set_cons_succ]
    refine wpAnyH_take (i := 7) (v := undef) rfl (by kernel_rfl) (by kernel_rfl) (by kernel_rfl) (fun _ _ _ h => h) (Or.inr ⟨by kernel_rfl, rfl⟩) hH ?_
    simp only [List.getElem_toArray, List.getElem_cons_zero, List.getElem_cons_succ, Act.put, List.setIfInBounds_toArray, List.set_cons_zero, List.set_cons_succ]
    refine wpAnyH_take (i := 8) (v := undef) rfl (by kernel_rfl) (by kernel_rfl) (by kernel_rfl) (fun _ _ _ h => h) (Or.inr ⟨by kernel_rfl, rfl⟩) hH ?_
    simp only [List.getElem_toArray, List.getElem_cons_zero, List.getElem_cons_succ, Act.put, List.setIfInBounds_toArray, List.set_cons_zero, List.set_cons_succ]
    refine wpAnyH_take (i := 9) (v := .bool false) rfl (by kernel_rfl) (by kernel_rfl) (by kernel_rfl) (fun _ _ _ h => h) (Or.inl ⟨by rfl, fun W hW => ?_⟩) hH ?_
    · go_simp
    simp only [List.getElem_toArray, List.getElem_cons_zero, List.getElem_cons_succ, Act.put, List.setIfInBounds_toArray, List.set_cons_zero, List.set_cons_succ]
    refine wpAnyH_ready (rs := [10]) (by kernel_rfl) (by simp) ?_
    refine AllReadyH.cons rfl (fun K hK => ?_) AllReadyH.nil
    rw [if_pos (by rfl)]
    have q0 := p0
    refine wp_store_row 54 (.tmp 2) (.tmp 15) rfl w.heap.size (iv X).toArray rfl rfl 54 (iv X).toArray (row_heap q0) hi (size54_iv hl hl) (iv_all _) ?_
    simp only [List.getElem_toArray, List.getElem_cons_zero, List.getElem_cons_succ, Act.put]
    refine hK.out _ _ ?_ (fun hHf => ?_)
    · exact ⟨hH.1.row_far (Ne.symm hne4) _, hH.2.1.row_far (Ne.symm hne5) _, below_row hH.2.2 (Nat.le_refl _) _⟩
    clear hK K
    refine wpAnyH_ready (rs := [11]) (by kernel_rfl) (by simp) ?_
    refine AllReadyH.cons rfl (fun K hK => ?_) AllReadyH.nil
    go_simp
    refine hK.out _ _ hHf (fun _ => ?_)
    clear hK K
    refine wpAnyH_done (by kernel_rfl) ?_ _
    refine NoPanic.normal ?_
    go_wp2_with fail
    exact bodyPost_ret (v := .tuple #[.agg (iv X).toArray, .bool false]) (res2 Try.results42 rfl rfl (cell101_res hl (p0.row _))) rfl ⟨by rw [hcl], hHf.2.2⟩
  · have hs : s.size ≤ 24 := by unfold chV at hc; exact (of_decide_eq_true hc).1
    have HA := Lib.hid (fun w => all_any s w hs)
    have HH := Lib.hid (fun w => half_any (sumL s s.size) w (sumL_sm s (by omega)))
    have r0 : Row (w.alloc (.cells (iv Z101).toArray 54)) w.heap.size 54 (iv Z101) := row_new rfl
    have b0 : Below w.heap.size w (w.alloc (.cells (iv Z101).toArray 54)) := (Below.refl _ w).alloc (Nat.le_refl _) _
    have hl := talL_len s s.size
    have hi := info54_iv hl
    rw [← tal] at hi hl
    have h5i := info51_iv (x := halfL (sumL s s.size)) rfl
    have h5i' : (Try.prog.info? 51).map (·.size) = some (iv (halfL (sumL s s.size))).length := info51
    have E51 := eq51 (x := addL (halfL (sumL s s.size)) (halfL (sumL s s.size))) (y := sumL s s.size) rfl rfl
    have HP := Lib.hid (fun w => plus_any (halfL (sumL s s.size)) (halfL (sumL s s.size)) w (halfS_sm s (by omega)) (halfS_sm s (by omega)))
    have hi' : (Try.prog.info? 54).map (·.size) = some (iv (tal s)).length := by rw [iv_len, hl]; exact info54
    go_enter Try.func42, Try.ntmps42
    go_wp2_with (first
      | (go_at_call 47; with_reducible refine (HR.out _).mono ?_; rintro e w1 ⟨rfl, b1⟩; rw [rcV_yes hc]; have q0 := r0.below b1; have bq := b0.trans (b1.mono b0.size); have hz1 := bq.size; have q1 : Row (w1.alloc (.cells (iv Z101).toArray 54)) w1.heap.size 54 (iv Z101) := row_new rfl)
      | ((with_reducible refine (?_ : wpList _ _ _ (Oper.mk none _ _ _ _ _ :: _) _ _)); with_reducible refine (?_ : wpList _ _ _ (Oper.mk _ (Op.store 54 (.tmp 4) _) _ _ _ _ :: _) _ _); refine wpList_store_row rfl 54 (.tmp 4) (.tmp 10) rfl w1.heap.size (iv (tal s)).toArray rfl rfl 54 (iv Z101).toArray (row_heap q1) hi (size54_iv Z101_len hl) (iv_all _) ?_; have p1 := q1.row (iv (tal s)); have p0 := (q0.alloc (.cells (iv Z101).toArray 54)).row_far (k := w1.heap.size) (by have := q0.lt; omega) (iv (tal s)).toArray; have hne4 : w.heap.size ≠ w1.heap.size := (by have := q0.lt; omega); have bp := below_row (bq.alloc hz1 (.cells (iv Z101).toArray 54)) hz1 (iv (tal s)).toArray; generalize hg4 : w1.heap.size = g4 at *; generalize hW2 : World.setRow _ _ _ = W2 at *; clear hW2 q0 bq q1 hg4)
      | ((with_reducible refine (?_ : wpList _ _ _ (Oper.mk (some 12) _ _ _ _ _ :: _) _ _)); refine wpList_load_row rfl 54 (.tmp 4) rfl g4 rfl 54 (iv (tal s)).toArray (0, 0) _ (row_heap p1) Try.underlying54 rfl hi ?_)
      | (go_at_call 51; with_reducible refine (HA.out _).mono ?_; rintro e w3 ⟨rfl, b3⟩; replace p1 := p1.below b3; replace p0 := p0.below b3; replace bp := bp.trans (b3.mono bp.size); clear b3)
      | (go_at_call 52; with_reducible refine (HH.out _).mono ?_; rintro e w5 ⟨rfl, b5⟩; replace p1 := p1.below b5; replace p0 := p0.below b5; replace bp := bp.trans (b5.mono bp.size); clear b5; have p6 : Row (w5.alloc (.cells Z4.toArray 51)) w5.heap.size 51 Z4 := row_new rfl)
      | ((with_reducible refine (?_ : wpList _ _ _ (Oper.mk none _ _ _ _ _ :: _) _ _)); with_reducible refine (?_ : wpList _ _ _ (Oper.mk _ (Op.store 51 (.tmp 6) _) _ _ _ _ :: _) _ _); refine wpList_store_row rfl 51 (.tmp 6) (.tmp 14) rfl w5.heap.size (iv (halfL (sumL s s.size))).toArray rfl rfl 51 Z4.toArray (row_heap p6) h5i (size51_iv rfl) (iv_all _) ?_; have hne5 : w.heap.size ≠ w5.heap.size := (by have := p0.lt; omega); replace p6 := p6.row (iv (halfL (sumL s s.size))); replace p1 := (p1.alloc (.cells Z4.toArray 51)).row_far (k := w5.heap.size) (by have := p1.lt; omega) (iv (halfL (sumL s s.size))).toArray; replace p0 := (p0.alloc (.cells Z4.toArray 51)).row_far (k := w5.heap.size) (by have := p0.lt; omega) (iv (halfL (sumL s s.size))).toArray; replace bp := below_row (bp.alloc bp.size (.cells Z4.toArray 51)) bp.size (iv (halfL (sumL s s.size))).toArray; generalize w5.heap.size = g5 at *; generalize hW6 : World.setRow _ _ _ = W6 at *; clear hW6 w5 W2 b1 w1))
    refine wp_region_noPanic ?_
    refine wp_region_held_drew (S := fun W => Row W g4 54 (iv (tal s)) ∧ Row W g5 51 (iv (halfL (sumL s s.size))) ∧ Below w.heap.size w W) (by kernel_rfl) ⟨p1.drew, p6.drew, bp.drew⟩ (fun hH => ?_)
    simp only [Act.put]
    replace p0 := p0.drew
    clear p1 p6 bp
    generalize World.drew W6 = Wd at *
    refine wpAnyH_take (i := 0) (v := .agg (iv (tal s)).toArray) rfl (by kernel_rfl) (by kernel_rfl) (by kernel_rfl) (fun _ _ _ h => h) (yieldsIf_load_mid (by rfl) _ _ rfl _ _ rfl _ _ (fun W hW => hW.1.range) Try.underlying54 rfl hi') hH ?_
    simp only [List.getElem_toArray, List.getElem_cons_zero, Act.put, List.setIfInBounds_toArray, List.set_cons_zero, List.set_cons_succ]
    refine wpAnyH_take (i := 1) (v := .bool true) rfl (by kernel_rfl) (by kernel_rfl) (by kernel_rfl) (fun _ _ _ h => h) (Or.inl ⟨by rfl, fun W hW => ?_⟩) hH ?_
    · go_simp
    simp only [List.getElem_toArray, List.getElem_cons_zero, List.getElem_cons_succ, Act.put, List.setIfInBounds_toArray, List.set_cons_zero, List.set_cons_succ]
    refine wpAnyH_take (i := 2) (v := .bool true) rfl (by kernel_rfl) (by kernel_rfl) (by kernel_rfl) (fun _ _ _ h => h) (Or.inl ⟨by rfl, fun W hW => ?_⟩) hH ?_
    · go_simp
    simp only [List.getElem_toArray, List.getElem_cons_zero, List.getElem_cons_succ, Act.put, List.setIfInBounds_toArray, List.set_cons_zero, List.set_cons_succ]
    refine wpAnyH_take (i := 3) (v := .agg (iv (halfL (sumL s s.size))).toArray) rfl (by kernel_rfl) (by kernel_rfl) (by kernel_rfl) (fun _ _ _ h => h) (yieldsIf_load_mid (by rfl) _ _ rfl _ _ rfl _ _ (fun W hW => hW.2.1.range) Try.underlying51 rfl h5i') hH ?_
    simp only [List.getElem_toArray, List.getElem_cons_zero, List.getElem_cons_succ, Act.put, List.setIfInBounds_toArray, List.set_cons_zero, List.set_cons_succ]
    refine wpAnyH_take (i := 4) (v := .agg (iv (halfL (sumL s s.size))).toArray) rfl (by kernel_rfl) (by kernel_rfl) (by kernel_rfl) (fun _ _ _ h => h) (yieldsIf_load_mid (by rfl) _ _ rfl _ _ rfl _ _ (fun W hW => hW.2.1.range) Try.underlying51 rfl h5i') hH ?_
    simp only [List.getElem_toArray, List.getElem_cons_zero, List.getElem_cons_succ, Act.put, List.setIfInBounds_toArray, List.set_cons_zero, List.set_cons_succ]
    refine wpAnyH_take (i := 6) (v := .agg (iv (tal s)).toArray) rfl (by kernel_rfl) (by kernel_rfl) (by kernel_rfl) (fun _ _ _ h => h) (yieldsIf_load_mid (by rfl) _ _ rfl _ _ rfl _ _ (fun W hW => hW.1.range) Try.underlying54 rfl hi') hH ?_
    simp only [List.getElem_toArray, List.getElem_cons_zero, List.getElem_cons_succ, Act.put, List.setIfInBounds_toArray, List.set_cons_zero, List.set_cons_succ]
    refine wpAnyH_ready (rs := [5]) (by kernel_rfl) (by simp) ?_
    refine AllReadyH.cons rfl (fun K hK => ?_) AllReadyH.nil
    go_simp
    refine (HP.out _).mono ?_
    rintro e w8 ⟨rfl, b8⟩
    go_wp2_with fail
    refine hK.out _ _ ⟨hH.1.below b8, hH.2.1.below b8, hH.2.2.trans (b8.mono hH.2.2.size)⟩ (fun hH => ?_)
    replace p0 := p0.below b8
    clear hK K
    refine wpAnyH_ready (rs := [7]) (by kernel_rfl) (by simp) ?_
    refine AllReadyH.cons rfl (fun K hK => ?_) AllReadyH.nil
    go_simp
    refine (HA.out _).mono ?_
    rintro e w9 ⟨rfl, b9⟩
    go_wp2_with fail
    refine hK.out _ _ ⟨hH.1.below b9, hH.2.1.below b9, hH.2.2.trans (b9.mono hH.2.2.size)⟩ (fun hH => ?_)
    replace p0 := p0.below b9
    clear hK K
    refine wpAnyH_take (i := 8) (v := .bool (evV s)) rfl (by kernel_rfl) (by kernel_rfl) (by kernel_rfl) (fun _ _ _ h => h) (Or.inl ⟨by rfl, fun W hW => ?_⟩) hH ?_
    · unfold evV; go_simp
    simp only [List.getElem_toArray, List.getElem_cons_zero, List.getElem_cons_succ, Act.put, List.setIfInBounds_toArray, List.set_cons_zero, List.set_cons_succ]
    refine wpAnyH_take (i := 9) (v := .bool (evV s)) rfl (by kernel_rfl) (by kernel_rfl) (by kernel_rfl) (fun _ _ _ h => h) (Or.inl ⟨by rfl, fun W hW => ?_⟩) hH ?_
    · cases evV s <;> go_simp
    simp only [List.getElem_toArray, List.getElem_cons_zero, List.getElem_cons_succ, Act.put, List.setIfInBounds_toArray, List.set_cons_zero, List.set_cons_succ]
    refine wpAnyH_ready (rs := [10]) (by kernel_rfl) (by simp) ?_
    refine AllReadyH.cons rfl (fun K hK => ?_) AllReadyH.nil
    rw [if_pos (by rfl)]
    have q0 := p0
    refine wp_store_row 54 (.tmp 2) (.tmp 15) rfl w.heap.size (iv (tal s)).toArray rfl rfl 54 (iv Z101).toArray (row_heap q0) hi (size54_iv Z101_len hl) (iv_all _) ?_
    simp only [List.getElem_toArray, List.getElem_cons_zero, List.getElem_cons_succ, Act.put]
    refine hK.out _ _ ?_ (fun hHf => ?_)
    · exact ⟨hH.1.row_far (Ne.symm hne4) _, hH.2.1.row_far (Ne.symm hne5) _, below_row hH.2.2 (Nat.le_refl _) _⟩
    clear hK K
    refine wpAnyH_ready (rs := [11]) (by kernel_rfl) (by simp) ?_
    refine AllReadyH.cons rfl (fun K hK => ?_) AllReadyH.nil
    go_simp
    refine hK.out _ _ hHf (fun _ => ?_)
    clear hK K
    refine wpAnyH_done (by kernel_rfl) ?_ _
    refine NoPanic.normal ?_
    go_wp2_with fail
    exact bodyPost_ret (v := .tuple #[.agg (iv (tal s)).toArray, .bool (evV s)]) (res2 Try.results42 rfl rfl (cell101_res hl (p0.row _))) rfl ⟨by unfold reV; rw [hc]; rfl, hHf.2.2⟩
end Go.Proofs.Ytopeppnajbnfgaa
