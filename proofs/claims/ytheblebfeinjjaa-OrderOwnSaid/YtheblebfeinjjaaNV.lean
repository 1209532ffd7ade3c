/- Counts of orders. -/
import Derived.Test.YtheblebfeinjjaaNUI
import Derived.Test.YtheblebfeinjjaaNUD
import Derived.Test.YtheblebfeinjjaaNUC
namespace Go.Proofs.Ytheblebfeinjjaa
open Go.RowKit
set_option maxHeartbeats 1000000
set_option maxRecDepth 100000
/-- What a count returns. -/
def cntV (m : Nat → Nat → Nat) (n k : Int) : Value := if n < 0 ∨ 18 < n ∨ k < 0 then .tuple #[.int .i64 0, .int .i64 2] else .tuple #[.int .i64 (getn (rowN m n.toNat) k.toNat : Nat), .int .i64 0]
theorem cntV_bad {m : Nat → Nat → Nat} {n k : Int} (h : n < 0 ∨ 18 < n ∨ k < 0) : cntV m n k = .tuple #[.int .i64 0, .int .i64 2] := by unfold cntV; rw [if_pos h]
theorem cntV_ok {m : Nat → Nat → Nat} {a b : Nat} (h : a ≤ 18) : cntV m a b = .tuple #[.int .i64 (getn (rowN m a) b : Nat), .int .i64 0] := by unfold cntV; rw [if_neg (by omega)]; rfl
theorem cntV_two (m : Nat → Nat → Nat) (n k : Int) : ∃ a b, cntV m n k = .tuple #[.int .i64 a, .int .i64 b] := by
  unfold cntV
  split
  · exact ⟨_, _, rfl⟩
  · exact ⟨_, _, rfl⟩
theorem ordersWithI_any (n k : Nat) (w : World) (hn : n ≤ 18) : Calls Try.prog 80 #[.int .i64 n, .int .i64 k, .func (.func 65) #[] #[]] w fun e w' => e = .returned (.int .i64 (getn (rowN mI n) k : Nat)) ∧ Below w.heap.size w w' := by
  have HRF := Lib.hid (fun m (hm : m ≤ 18) => rowN_facts growI rfl m hm)
  by_cases hk : 153 < k
  · have g1 : decide ((153 : Int) < k) = true := decide_eq_true (by omega)
    have hv : getn (rowN mI n) k = 0 := by
      have := (HRF.out n hn).len
      unfold getn
      rw [List.getD_eq_getElem?_getD, List.getElem?_eq_none (by omega)]; rfl
    rw [hv]
    go_enter Try.func80, Try.ntmps80
    go_wp2
    go_ret
    exact ⟨rfl, Below.refl _ _⟩
  · have g1 : decide ((153 : Int) < k) = false := decide_eq_false (by omega)
    have hz := z77
    have hbt := built77
    have q0 : Row (w.alloc (.cells (intv Z154).toArray 77)) w.heap.size 77 (intv Z154) := row_new rfl
    have b0 : Below w.heap.size w (w.alloc (.cells (intv Z154).toArray 77)) := by (repeat (first | exact Below.refl _ _ | assumption | (refine Below.setCell ?_ (by first | exact Nat.le_refl _ | omega | (simp; done) | (simp; omega)) _) | (refine Below.trans ?_ (below_drewN _)) | (refine Below.drew ?_) | (refine Below.alloc ?_ (by first | exact Nat.le_refl _ | omega | (simp; done) | (simp; omega)) _) | (refine below_row ?_ (by first | exact Nat.le_refl _ | omega | (simp; done) | (simp; omega)) _)))
    have r0 : Row ((w.alloc (.cells (intv Z154).toArray 77)).setRow w.heap.size (intv (1 :: List.replicate 153 0)).toArray) w.heap.size 77 (intv (rowN mI 0)) := q0.row (intv (rowN mI 0))
    have b1 : Below w.heap.size w ((w.alloc (.cells (intv Z154).toArray 77)).setRow w.heap.size (intv (1 :: List.replicate 153 0)).toArray) := below_row b0 (Nat.le_refl _) _
    have hl0 : (1 :: List.replicate 153 0).length = 154 := by simp
    have HLO := Lib.hid (fun m (hm : m < 18) w => longerI_any m (rowN mI m) w hm (HRF.out m (by omega)))
    go_enter Try.func80, Try.ntmps80
    go_wp2_with ((with_reducible refine (?_ : wpList _ _ _ (Oper.mk none _ _ _ _ _ :: _) _ _)); refine wpList_store_row rfl 77 (.tmp 7) (.tmp 11) rfl w.heap.size (intv (1 :: List.replicate 153 0)).toArray rfl rfl 77 (intv Z154).toArray (row_heap q0) (info77_iv hl0) (size77_iv (by simp [Z154]) hl0) (intv_all _) ?_)
    go_loopw [13] (fun i wr => ∃ m : Nat, m ≤ n ∧ i = .int .i64 m ∧ Row wr w.heap.size 77 (intv (rowN mI m)) ∧ Below w.heap.size w wr) (fun i _ => n - (intOf i).toNat)
    case atStart => exact ⟨0, by omega, rfl, r0, b1⟩
    case round =>
      clear r0 b1 q0 b0 hbt
      obtain ⟨m, hm, rfl, r0, b0⟩ := hrel
      by_cases hlt : m < n
      · have hi := info77_iv (HRF.out m (by omega)).len
        have hl2 := (HRF.out (m + 1) (by omega)).len
        have HL := Lib.hid (fun w => HLO.out m (by omega) w)
        have HR := Lib.hid (show rowN mI (m + 1) = lon mI m (rowN mI m) from rfl)
        have hl1 := (HRF.out m (by omega)).len
        rw [← HR.out] at HL
        obtain ⟨R1, hR1⟩ : ∃ R1, rowN mI (m + 1) = R1 := ⟨_, rfl⟩
        rw [hR1] at HL hl2
        have HR1 := Lib.hid hR1
        clear hR1 HR
        generalize rowN mI m = R at *
        have hlt0 := r0.lt
        go_wp2_with (first
          | ((with_reducible refine (?_ : wpList _ _ _ (Oper.mk (some 16) _ _ _ _ _ :: _) _ _)); refine wpList_load_row rfl 77 (.tmp 7) rfl w.heap.size rfl 77 (intv R).toArray (0, 0) _ (row_heap r0) Try.underlying77 rfl hi ?_)
          | (go_at_call 90; refine (HL.out _).mono ?_; rintro e w2 ⟨rfl, b2⟩; replace r0 := r0.below b2; replace b0 := b0.trans (b2.mono b0.size))
          | ((with_reducible refine (?_ : wpList _ _ _ (Oper.mk none _ _ _ _ _ :: _) _ _)); refine wpList_store_row rfl 77 (.tmp 7) (.tmp 19) rfl w.heap.size (intv R1).toArray rfl rfl 77 (intv R).toArray (row_heap r0) (info77_iv hl2) (size77_iv hl1 hl2) (intv_all _) ?_; have r3 := r0.row (intv R1); have b3 := below_row (g := w.heap.size) b0 (Nat.le_refl _) (intv R1).toArray))
        go_roundw
        case rel => exact ⟨m + 1, by omega, by go_num, by rw [HR1.out]; exact r3, b3⟩
        case measure => simp [intOf]; omega
      · obtain rfl : m = n := by omega
        have hl1 := (HRF.out m hn).len
        have hc := intv_row r0 (i := k) (by omega)
        clear hl1
        go_wp2
        go_ret
        exact ⟨rfl, b0⟩
theorem countedI_any (n k : Int) (w : World) : Calls Try.prog 64 #[.int .i64 n, .int .i64 k, .func (.func 65) #[] #[]] w fun e w' => e = .returned (cntV mI n k) ∧ Below w.heap.size w w' := by
  by_cases hbad : n < 0 ∨ 18 < n ∨ k < 0
  · rw [cntV_bad hbad]
    by_cases h1 : n < 0
    · have g1 : decide (n < 0) = true := decide_eq_true h1
      go_enter Try.func64, Try.ntmps64
      go_wp2
      go_ret2
      exact ⟨rfl, Below.refl _ _⟩
    · have g1 : decide (n < 0) = false := decide_eq_false h1
      by_cases h2 : 18 < n
      · have g2 : decide (18 < n) = true := decide_eq_true h2
        go_enter Try.func64, Try.ntmps64
        go_wp2
        go_ret2
        exact ⟨rfl, Below.refl _ _⟩
      · have g2 : decide (18 < n) = false := decide_eq_false h2
        have g3 : decide (k < 0) = true := decide_eq_true (by omega)
        go_enter Try.func64, Try.ntmps64
        go_wp2
        go_ret2
        exact ⟨rfl, Below.refl _ _⟩
  · obtain ⟨a, rfl⟩ : ∃ a : Nat, n = a := ⟨n.toNat, by omega⟩
    obtain ⟨b, rfl⟩ : ∃ b : Nat, k = b := ⟨k.toNat, by omega⟩
    have ha : a ≤ 18 := by omega
    rw [cntV_ok ha]
    have HO := Lib.hid (fun w => ordersWithI_any a b w ha)
    have g1 : decide ((a : Int) < 0) = false := decide_eq_false (by omega)
    have g2 : decide ((18 : Int) < a) = false := decide_eq_false (by omega)
    have g3 : decide ((b : Int) < 0) = false := decide_eq_false (by omega)
    clear hbad
    go_enter Try.func64, Try.ntmps64
    go_wp2_with (go_at_call 80; refine (HO.out _).mono ?_; rintro e w2 ⟨rfl, b2⟩)
    go_ret2
    exact ⟨rfl, b2⟩
theorem Inversions_any (n k : Int) (w : World) : Calls Try.prog 37 #[.int .i64 n, .int .i64 k] w fun e w' => e = .returned (cntV mI n k) ∧ Below w.heap.size w w' := by
  have HC := Lib.hid (fun w => countedI_any n k w)
  obtain ⟨a, b, hab⟩ := cntV_two mI n k
  rw [hab] at HC ⊢
  go_enter Try.func37, Try.ntmps37
  go_wp2_with (go_at_call 64; refine (HC.out _).mono ?_; rintro e w2 ⟨rfl, b2⟩)
  go_ret2
  exact ⟨rfl, b2⟩
theorem ordersWithD_any (n k : Nat) (w : World) (hn : n ≤ 18) : Calls Try.prog 80 #[.int .i64 n, .int .i64 k, .func (.func 66) #[] #[]] w fun e w' => e = .returned (.int .i64 (getn (rowN mD n) k : Nat)) ∧ Below w.heap.size w w' := by
  have HRF := Lib.hid (fun m (hm : m ≤ 18) => rowN_facts growD rfl m hm)
  by_cases hk : 153 < k
  · have g1 : decide ((153 : Int) < k) = true := decide_eq_true (by omega)
    have hv : getn (rowN mD n) k = 0 := by
      have := (HRF.out n hn).len
      unfold getn
      rw [List.getD_eq_getElem?_getD, List.getElem?_eq_none (by omega)]; rfl
    rw [hv]
    go_enter Try.func80, Try.ntmps80
    go_wp2
    go_ret
    exact ⟨rfl, Below.refl _ _⟩
  · have g1 : decide ((153 : Int) < k) = false := decide_eq_false (by omega)
    have hz := z77
    have hbt := built77
    have q0 : Row (w.alloc (.cells (intv Z154).toArray 77)) w.heap.size 77 (intv Z154) := row_new rfl
    have b0 : Below w.heap.size w (w.alloc (.cells (intv Z154).toArray 77)) := by (repeat (first | exact Below.refl _ _ | assumption | (refine Below.setCell ?_ (by first | exact Nat.le_refl _ | omega | (simp; done) | (simp; omega)) _) | (refine Below.trans ?_ (below_drewN _)) | (refine Below.drew ?_) | (refine Below.alloc ?_ (by first | exact Nat.le_refl _ | omega | (simp; done) | (simp; omega)) _) | (refine below_row ?_ (by first | exact Nat.le_refl _ | omega | (simp; done) | (simp; omega)) _)))
    have r0 : Row ((w.alloc (.cells (intv Z154).toArray 77)).setRow w.heap.size (intv (1 :: List.replicate 153 0)).toArray) w.heap.size 77 (intv (rowN mD 0)) := q0.row (intv (rowN mD 0))
    have b1 : Below w.heap.size w ((w.alloc (.cells (intv Z154).toArray 77)).setRow w.heap.size (intv (1 :: List.replicate 153 0)).toArray) := below_row b0 (Nat.le_refl _) _
    have hl0 : (1 :: List.replicate 153 0).length = 154 := by simp
    have HLO := Lib.hid (fun m (hm : m < 18) w => longerD_any m (rowN mD m) w hm (HRF.out m (by omega)))
    go_enter Try.func80, Try.ntmps80
    go_wp2_with ((with_reducible refine (?_ : wpList _ _ _ (Oper.mk none _ _ _ _ _ :: _) _ _)); refine wpList_store_row rfl 77 (.tmp 7) (.tmp 11) rfl w.heap.size (intv (1 :: List.replicate 153 0)).toArray rfl rfl 77 (intv Z154).toArray (row_heap q0) (info77_iv hl0) (size77_iv (by simp [Z154]) hl0) (intv_all _) ?_)
    go_loopw [13] (fun i wr => ∃ m : Nat, m ≤ n ∧ i = .int .i64 m ∧ Row wr w.heap.size 77 (intv (rowN mD m)) ∧ Below w.heap.size w wr) (fun i _ => n - (intOf i).toNat)
    case atStart => exact ⟨0, by omega, rfl, r0, b1⟩
    case round =>
      clear r0 b1 q0 b0 hbt
      obtain ⟨m, hm, rfl, r0, b0⟩ := hrel
      by_cases hlt : m < n
      · have hi := info77_iv (HRF.out m (by omega)).len
        have hl2 := (HRF.out (m + 1) (by omega)).len
        have HL := Lib.hid (fun w => HLO.out m (by omega) w)
        have HR := Lib.hid (show rowN mD (m + 1) = lon mD m (rowN mD m) from rfl)
        have hl1 := (HRF.out m (by omega)).len
        rw [← HR.out] at HL
        obtain ⟨R1, hR1⟩ : ∃ R1, rowN mD (m + 1) = R1 := ⟨_, rfl⟩
        rw [hR1] at HL hl2
        have HR1 := Lib.hid hR1
        clear hR1 HR
        generalize rowN mD m = R at *
        have hlt0 := r0.lt
        go_wp2_with (first
          | ((with_reducible refine (?_ : wpList _ _ _ (Oper.mk (some 16) _ _ _ _ _ :: _) _ _)); refine wpList_load_row rfl 77 (.tmp 7) rfl w.heap.size rfl 77 (intv R).toArray (0, 0) _ (row_heap r0) Try.underlying77 rfl hi ?_)
          | (go_at_call 90; refine (HL.out _).mono ?_; rintro e w2 ⟨rfl, b2⟩; replace r0 := r0.below b2; replace b0 := b0.trans (b2.mono b0.size))
          | ((with_reducible refine (?_ : wpList _ _ _ (Oper.mk none _ _ _ _ _ :: _) _ _)); refine wpList_store_row rfl 77 (.tmp 7) (.tmp 19) rfl w.heap.size (intv R1).toArray rfl rfl 77 (intv R).toArray (row_heap r0) (info77_iv hl2) (size77_iv hl1 hl2) (intv_all _) ?_; have r3 := r0.row (intv R1); have b3 := below_row (g := w.heap.size) b0 (Nat.le_refl _) (intv R1).toArray))
        go_roundw
        case rel => exact ⟨m + 1, by omega, by go_num, by rw [HR1.out]; exact r3, b3⟩
        case measure => simp [intOf]; omega
      · obtain rfl : m = n := by omega
        have hl1 := (HRF.out m hn).len
        have hc := intv_row r0 (i := k) (by omega)
        clear hl1
        go_wp2
        go_ret
        exact ⟨rfl, b0⟩
theorem countedD_any (n k : Int) (w : World) : Calls Try.prog 64 #[.int .i64 n, .int .i64 k, .func (.func 66) #[] #[]] w fun e w' => e = .returned (cntV mD n k) ∧ Below w.heap.size w w' := by
  by_cases hbad : n < 0 ∨ 18 < n ∨ k < 0
  · rw [cntV_bad hbad]
    by_cases h1 : n < 0
    · have g1 : decide (n < 0) = true := decide_eq_true h1
      go_enter Try.func64, Try.ntmps64
      go_wp2
      go_ret2
      exact ⟨rfl, Below.refl _ _⟩
    · have g1 : decide (n < 0) = false := decide_eq_false h1
      by_cases h2 : 18 < n
      · have g2 : decide (18 < n) = true := decide_eq_true h2
        go_enter Try.func64, Try.ntmps64
        go_wp2
        go_ret2
        exact ⟨rfl, Below.refl _ _⟩
      · have g2 : decide (18 < n) = false := decide_eq_false h2
        have g3 : decide (k < 0) = true := decide_eq_true (by omega)
        go_enter Try.func64, Try.ntmps64
        go_wp2
        go_ret2
        exact ⟨rfl, Below.refl _ _⟩
  · obtain ⟨a, rfl⟩ : ∃ a : Nat, n = a := ⟨n.toNat, by omega⟩
    obtain ⟨b, rfl⟩ : ∃ b : Nat, k = b := ⟨k.toNat, by omega⟩
    have ha : a ≤ 18 := by omega
    rw [cntV_ok ha]
    have HO := Lib.hid (fun w => ordersWithD_any a b w ha)
    have g1 : decide ((a : Int) < 0) = false := decide_eq_false (by omega)
    have g2 : decide ((18 : Int) < a) = false := decide_eq_false (by omega)
    have g3 : decide ((b : Int) < 0) = false := decide_eq_false (by omega)
    clear hbad
    go_enter Try.func64, Try.ntmps64
    go_wp2_with (go_at_call 80; refine (HO.out _).mono ?_; rintro e w2 ⟨rfl, b2⟩)
    go_ret2
    exact ⟨rfl, b2⟩
theorem Descents_any (n k : Int) (w : World) : Calls Try.prog 38 #[.int .i64 n, .int .i64 k] w fun e w' => e = .returned (cntV mD n k) ∧ Below w.heap.size w w' := by
  have HC := Lib.hid (fun w => countedD_any n k w)
  obtain ⟨a, b, hab⟩ := cntV_two mD n k
  rw [hab] at HC ⊢
  go_enter Try.func38, Try.ntmps38
  go_wp2_with (go_at_call 64; refine (HC.out _).mono ?_; rintro e w2 ⟨rfl, b2⟩)
  go_ret2
  exact ⟨rfl, b2⟩
theorem ordersWithC_any (n k : Nat) (w : World) (hn : n ≤ 18) : Calls Try.prog 80 #[.int .i64 n, .int .i64 k, .func (.func 67) #[] #[]] w fun e w' => e = .returned (.int .i64 (getn (rowN mC n) k : Nat)) ∧ Below w.heap.size w w' := by
  have HRF := Lib.hid (fun m (hm : m ≤ 18) => rowN_facts growC rfl m hm)
  by_cases hk : 153 < k
  · have g1 : decide ((153 : Int) < k) = true := decide_eq_true (by omega)
    have hv : getn (rowN mC n) k = 0 := by
      have := (HRF.out n hn).len
      unfold getn
      rw [List.getD_eq_getElem?_getD, List.getElem?_eq_none (by omega)]; rfl
    rw [hv]
    go_enter Try.func80, Try.ntmps80
    go_wp2
    go_ret
    exact ⟨rfl, Below.refl _ _⟩
  · have g1 : decide ((153 : Int) < k) = false := decide_eq_false (by omega)
    have hz := z77
    have hbt := built77
    have q0 : Row (w.alloc (.cells (intv Z154).toArray 77)) w.heap.size 77 (intv Z154) := row_new rfl
    have b0 : Below w.heap.size w (w.alloc (.cells (intv Z154).toArray 77)) := by (repeat (first | exact Below.refl _ _ | assumption | (refine Below.setCell ?_ (by first | exact Nat.le_refl _ | omega | (simp; done) | (simp; omega)) _) | (refine Below.trans ?_ (below_drewN _)) | (refine Below.drew ?_) | (refine Below.alloc ?_ (by first | exact Nat.le_refl _ | omega | (simp; done) | (simp; omega)) _) | (refine below_row ?_ (by first | exact Nat.le_refl _ | omega | (simp; done) | (simp; omega)) _)))
    have r0 : Row ((w.alloc (.cells (intv Z154).toArray 77)).setRow w.heap.size (intv (1 :: List.replicate 153 0)).toArray) w.heap.size 77 (intv (rowN mC 0)) := q0.row (intv (rowN mC 0))
    have b1 : Below w.heap.size w ((w.alloc (.cells (intv Z154).toArray 77)).setRow w.heap.size (intv (1 :: List.replicate 153 0)).toArray) := below_row b0 (Nat.le_refl _) _
    have hl0 : (1 :: List.replicate 153 0).length = 154 := by simp
    have HLO := Lib.hid (fun m (hm : m < 18) w => longerC_any m (rowN mC m) w hm (HRF.out m (by omega)))
    go_enter Try.func80, Try.ntmps80
    go_wp2_with ((with_reducible refine (?_ : wpList _ _ _ (Oper.mk none _ _ _ _ _ :: _) _ _)); refine wpList_store_row rfl 77 (.tmp 7) (.tmp 11) rfl w.heap.size (intv (1 :: List.replicate 153 0)).toArray rfl rfl 77 (intv Z154).toArray (row_heap q0) (info77_iv hl0) (size77_iv (by simp [Z154]) hl0) (intv_all _) ?_)
    go_loopw [13] (fun i wr => ∃ m : Nat, m ≤ n ∧ i = .int .i64 m ∧ Row wr w.heap.size 77 (intv (rowN mC m)) ∧ Below w.heap.size w wr) (fun i _ => n - (intOf i).toNat)
    case atStart => exact ⟨0, by omega, rfl, r0, b1⟩
    case round =>
      clear r0 b1 q0 b0 hbt
      obtain ⟨m, hm, rfl, r0, b0⟩ := hrel
      by_cases hlt : m < n
      · have hi := info77_iv (HRF.out m (by omega)).len
        have hl2 := (HRF.out (m + 1) (by omega)).len
        have HL := Lib.hid (fun w => HLO.out m (by omega) w)
        have HR := Lib.hid (show rowN mC (m + 1) = lon mC m (rowN mC m) from rfl)
        have hl1 := (HRF.out m (by omega)).len
        rw [← HR.out] at HL
        obtain ⟨R1, hR1⟩ : ∃ R1, rowN mC (m + 1) = R1 := ⟨_, rfl⟩
        rw [hR1] at HL hl2
        have HR1 := Lib.hid hR1
        clear hR1 HR
        generalize rowN mC m = R at *
        have hlt0 := r0.lt
        go_wp2_with (first
          | ((with_reducible refine (?_ : wpList _ _ _ (Oper.mk (some 16) _ _ _ _ _ :: _) _ _)); refine wpList_load_row rfl 77 (.tmp 7) rfl w.heap.size rfl 77 (intv R).toArray (0, 0) _ (row_heap r0) Try.underlying77 rfl hi ?_)
          | (go_at_call 90; refine (HL.out _).mono ?_; rintro e w2 ⟨rfl, b2⟩; replace r0 := r0.below b2; replace b0 := b0.trans (b2.mono b0.size))
          | ((with_reducible refine (?_ : wpList _ _ _ (Oper.mk none _ _ _ _ _ :: _) _ _)); refine wpList_store_row rfl 77 (.tmp 7) (.tmp 19) rfl w.heap.size (intv R1).toArray rfl rfl 77 (intv R).toArray (row_heap r0) (info77_iv hl2) (size77_iv hl1 hl2) (intv_all _) ?_; have r3 := r0.row (intv R1); have b3 := below_row (g := w.heap.size) b0 (Nat.le_refl _) (intv R1).toArray))
        go_roundw
        case rel => exact ⟨m + 1, by omega, by go_num, by rw [HR1.out]; exact r3, b3⟩
        case measure => simp [intOf]; omega
      · obtain rfl : m = n := by omega
        have hl1 := (HRF.out m hn).len
        have hc := intv_row r0 (i := k) (by omega)
        clear hl1
        go_wp2
        go_ret
        exact ⟨rfl, b0⟩
theorem countedC_any (n k : Int) (w : World) : Calls Try.prog 64 #[.int .i64 n, .int .i64 k, .func (.func 67) #[] #[]] w fun e w' => e = .returned (cntV mC n k) ∧ Below w.heap.size w w' := by
  by_cases hbad : n < 0 ∨ 18 < n ∨ k < 0
  · rw [cntV_bad hbad]
    by_cases h1 : n < 0
    · have g1 : decide (n < 0) = true := decide_eq_true h1
      go_enter Try.func64, Try.ntmps64
      go_wp2
      go_ret2
      exact ⟨rfl, Below.refl _ _⟩
    · have g1 : decide (n < 0) = false := decide_eq_false h1
      by_cases h2 : 18 < n
      · have g2 : decide (18 < n) = true := decide_eq_true h2
        go_enter Try.func64, Try.ntmps64
        go_wp2
        go_ret2
        exact ⟨rfl, Below.refl _ _⟩
      · have g2 : decide (18 < n) = false := decide_eq_false h2
        have g3 : decide (k < 0) = true := decide_eq_true (by omega)
        go_enter Try.func64, Try.ntmps64
        go_wp2
        go_ret2
        exact ⟨rfl, Below.refl _ _⟩
  · obtain ⟨a, rfl⟩ : ∃ a : Nat, n = a := ⟨n.toNat, by omega⟩
    obtain ⟨b, rfl⟩ : ∃ b : Nat, k = b := ⟨k.toNat, by omega⟩
    have ha : a ≤ 18 := by omega
    rw [cntV_ok ha]
    have HO := Lib.hid (fun w => ordersWithC_any a b w ha)
    have g1 : decide ((a : Int) < 0) = false := decide_eq_false (by omega)
    have g2 : decide ((18 : Int) < a) = false := decide_eq_false (by omega)
    have g3 : decide ((b : Int) < 0) = false := decide_eq_false (by omega)
    clear hbad
    go_enter Try.func64, Try.ntmps64
    go_wp2_with (go_at_call 80; refine (HO.out _).mono ?_; rintro e w2 ⟨rfl, b2⟩)
    go_ret2
    exact ⟨rfl, b2⟩
theorem CyclesOf_any (n k : Int) (w : World) : Calls Try.prog 39 #[.int .i64 n, .int .i64 k] w fun e w' => e = .returned (cntV mC n k) ∧ Below w.heap.size w w' := by
  have HC := Lib.hid (fun w => countedC_any n k w)
  obtain ⟨a, b, hab⟩ := cntV_two mC n k
  rw [hab] at HC ⊢
  go_enter Try.func39, Try.ntmps39
  go_wp2_with (go_at_call 64; refine (HC.out _).mono ?_; rintro e w2 ⟨rfl, b2⟩)
  go_ret2
  exact ⟨rfl, b2⟩
end Go.Proofs.Ytheblebfeinjjaa
