/- How many positions are of a kind. -/
import Derived.Test.YtheblebfeinjjaaNJ
namespace Go.Proofs.Ytheblebfeinjjaa
open Go.RowKit
set_option maxHeartbeats 1000000
set_option maxRecDepth 100000
def isGb (l : List Int) (k : Nat) : Bool := isG l (k + 1)
theorem count_isDescent (l : List Int) (w : World) (h : IsO l) : Calls Try.prog 103 #[arr l, .func (.func 102) #[] #[]] w fun e w' => e = .returned (.int .i64 (cntN (isDb l) l.length)) ∧ Below w.heap.size w w' := by
  have r0 : Row (w.alloc (.cells (iv (pad l)).toArray 50)) w.heap.size 50 (iv (pad l)) := row_new rfl
  have b0 : Below w.heap.size w (w.alloc (.cells (iv (pad l)).toArray 50)) := by (repeat (first | exact Below.refl _ _ | assumption | (refine Below.setCell ?_ (by first | exact Nat.le_refl _ | omega | (simp; done) | (simp; omega)) _) | (refine Below.trans ?_ (below_drewN _)) | (refine Below.drew ?_) | (refine Below.alloc ?_ (by first | exact Nat.le_refl _ | omega | (simp; done) | (simp; omega)) _) | (refine below_row ?_ (by first | exact Nat.le_refl _ | omega | (simp; done) | (simp; omega)) _)))
  have hle := h.le
  have hi := info50_iv (pad_len hle)
  have HL := Lib.hid (fun w => length_any l w h)
  have HQ : Hid (∀ (k : Nat) (w : World), k < l.length → Calls Try.prog 102 #[arr l, .int .i64 k] w fun e w' => e = .returned (.bool (isDb l k)) ∧ Below w.heap.size w w') := Lib.hid (fun k w (hk : k < l.length) => isDescent_any l k w hle (by omega))
  unfold arr at HL HQ ⊢
  clear h
  generalize pad l = X at *
  go_enter Try.func103, Try.ntmps103
  go_wp2_with (first
    | ((with_reducible refine (?_ : wpList _ _ _ (Oper.mk (some 7) _ _ _ _ _ :: _) _ _)); refine wpList_load_row rfl 50 (.tmp 2) rfl w.heap.size rfl 50 (iv X).toArray (0, 0) _ (row_heap r0) Try.underlying50 rfl hi ?_)
    | (go_at_call 72; refine (HL.out _).mono ?_; rintro e w2 ⟨rfl, b2⟩; replace r0 := r0.below b2; replace b0 := b0.trans (b2.mono b0.size)))
  go_loopw [5, 6, 9] (fun m _ i wr => ∃ k : Nat, k ≤ l.length ∧ i = .int .i64 k ∧ m = .int .i64 (cntN (isDb l) k) ∧ Row wr w.heap.size 50 (iv X) ∧ Below w.heap.size w wr) (fun _ _ i _ => l.length - (intOf i).toNat)
  case atStart => exact ⟨0, by omega, rfl, rfl, r0, b0⟩
  case round =>
    clear r0 b0
    obtain ⟨k, hk, rfl, rfl, r0, b0⟩ := hrel
    have hcl := cntN_le (isDb l) k
    by_cases hlt : k < l.length
    · have HK := Lib.hid (fun w => HQ.out k w hlt)
      have HCN := Lib.hid (show cntN (isDb l) (k + 1) = cntN (isDb l) k + if isDb l k then 1 else 0 from rfl)
      generalize isDb l k = q at *
      generalize cntN (isDb l) k = m at *
      cases q
      · go_wp2_with (first
          | ((with_reducible refine (?_ : wpList _ _ _ (Oper.mk (some 13) _ _ _ _ _ :: _) _ _)); refine wpList_load_row rfl 50 (.tmp 2) rfl w.heap.size rfl 50 (iv X).toArray (0, 0) _ (row_heap r0) Try.underlying50 rfl hi ?_)
          | (go_at_call 102; refine (HK.out _).mono ?_; rintro e w2 ⟨rfl, b2⟩; replace r0 := r0.below b2; replace b0 := b0.trans (b2.mono b0.size)))
        go_roundw
        case rel => exact ⟨k + 1, by omega, by go_num, by rw [HCN.out]; simp, r0, b0⟩
        case measure => simp [intOf]; omega
      · go_wp2_with (first
          | ((with_reducible refine (?_ : wpList _ _ _ (Oper.mk (some 13) _ _ _ _ _ :: _) _ _)); refine wpList_load_row rfl 50 (.tmp 2) rfl w.heap.size rfl 50 (iv X).toArray (0, 0) _ (row_heap r0) Try.underlying50 rfl hi ?_)
          | (go_at_call 102; refine (HK.out _).mono ?_; rintro e w2 ⟨rfl, b2⟩; replace r0 := r0.below b2; replace b0 := b0.trans (b2.mono b0.size)))
        go_roundw
        case rel => exact ⟨k + 1, by omega, by go_num, by rw [HCN.out]; simp, r0, b0⟩
        case measure => simp [intOf]; omega
    · obtain rfl : k = l.length := by omega
      go_wp2
      go_ret
      exact ⟨rfl, b0⟩
theorem descents_any (l : List Int) (w : World) (h : IsO l) : Calls Try.prog 85 #[arr l] w fun e w' => e = .returned (.int .i64 (cntN (isDb l) l.length)) ∧ Below w.heap.size w w' := by
  have r0 : Row (w.alloc (.cells (iv (pad l)).toArray 50)) w.heap.size 50 (iv (pad l)) := row_new rfl
  have b0 : Below w.heap.size w (w.alloc (.cells (iv (pad l)).toArray 50)) := by (repeat (first | exact Below.refl _ _ | assumption | (refine Below.setCell ?_ (by first | exact Nat.le_refl _ | omega | (simp; done) | (simp; omega)) _) | (refine Below.trans ?_ (below_drewN _)) | (refine Below.drew ?_) | (refine Below.alloc ?_ (by first | exact Nat.le_refl _ | omega | (simp; done) | (simp; omega)) _) | (refine below_row ?_ (by first | exact Nat.le_refl _ | omega | (simp; done) | (simp; omega)) _)))
  have hi := info50_iv (pad_len h.le)
  have HC := Lib.hid (fun w => count_isDescent l w h)
  unfold arr at HC ⊢
  generalize pad l = X at *
  go_enter Try.func85, Try.ntmps85
  go_wp2_with (first
    | ((with_reducible refine (?_ : wpList _ _ _ (Oper.mk (some 3) _ _ _ _ _ :: _) _ _)); refine wpList_load_row rfl 50 (.tmp 1) rfl w.heap.size rfl 50 (iv X).toArray (0, 0) _ (row_heap r0) Try.underlying50 rfl hi ?_)
    | (go_at_call 103; refine (HC.out _).mono ?_; rintro e w2 ⟨rfl, b2⟩; replace b0 := b0.trans (b2.mono b0.size)))
  go_ret
  exact ⟨rfl, b0⟩
theorem count_isExcedance (l : List Int) (w : World) (h : IsO l) : Calls Try.prog 103 #[arr l, .func (.func 104) #[] #[]] w fun e w' => e = .returned (.int .i64 (cntN (isEb l) l.length)) ∧ Below w.heap.size w w' := by
  have r0 : Row (w.alloc (.cells (iv (pad l)).toArray 50)) w.heap.size 50 (iv (pad l)) := row_new rfl
  have b0 : Below w.heap.size w (w.alloc (.cells (iv (pad l)).toArray 50)) := by (repeat (first | exact Below.refl _ _ | assumption | (refine Below.setCell ?_ (by first | exact Nat.le_refl _ | omega | (simp; done) | (simp; omega)) _) | (refine Below.trans ?_ (below_drewN _)) | (refine Below.drew ?_) | (refine Below.alloc ?_ (by first | exact Nat.le_refl _ | omega | (simp; done) | (simp; omega)) _) | (refine below_row ?_ (by first | exact Nat.le_refl _ | omega | (simp; done) | (simp; omega)) _)))
  have hle := h.le
  have hi := info50_iv (pad_len hle)
  have HL := Lib.hid (fun w => length_any l w h)
  have HQ : Hid (∀ (k : Nat) (w : World), k < l.length → Calls Try.prog 104 #[arr l, .int .i64 k] w fun e w' => e = .returned (.bool (isEb l k)) ∧ Below w.heap.size w w') := Lib.hid (fun k w (hk : k < l.length) => isExcedance_any l k w hle (by omega))
  unfold arr at HL HQ ⊢
  clear h
  generalize pad l = X at *
  go_enter Try.func103, Try.ntmps103
  go_wp2_with (first
    | ((with_reducible refine (?_ : wpList _ _ _ (Oper.mk (some 7) _ _ _ _ _ :: _) _ _)); refine wpList_load_row rfl 50 (.tmp 2) rfl w.heap.size rfl 50 (iv X).toArray (0, 0) _ (row_heap r0) Try.underlying50 rfl hi ?_)
    | (go_at_call 72; refine (HL.out _).mono ?_; rintro e w2 ⟨rfl, b2⟩; replace r0 := r0.below b2; replace b0 := b0.trans (b2.mono b0.size)))
  go_loopw [5, 6, 9] (fun m _ i wr => ∃ k : Nat, k ≤ l.length ∧ i = .int .i64 k ∧ m = .int .i64 (cntN (isEb l) k) ∧ Row wr w.heap.size 50 (iv X) ∧ Below w.heap.size w wr) (fun _ _ i _ => l.length - (intOf i).toNat)
  case atStart => exact ⟨0, by omega, rfl, rfl, r0, b0⟩
  case round =>
    clear r0 b0
    obtain ⟨k, hk, rfl, rfl, r0, b0⟩ := hrel
    have hcl := cntN_le (isEb l) k
    by_cases hlt : k < l.length
    · have HK := Lib.hid (fun w => HQ.out k w hlt)
      have HCN := Lib.hid (show cntN (isEb l) (k + 1) = cntN (isEb l) k + if isEb l k then 1 else 0 from rfl)
      generalize isEb l k = q at *
      generalize cntN (isEb l) k = m at *
      cases q
      · go_wp2_with (first
          | ((with_reducible refine (?_ : wpList _ _ _ (Oper.mk (some 13) _ _ _ _ _ :: _) _ _)); refine wpList_load_row rfl 50 (.tmp 2) rfl w.heap.size rfl 50 (iv X).toArray (0, 0) _ (row_heap r0) Try.underlying50 rfl hi ?_)
          | (go_at_call 104; refine (HK.out _).mono ?_; rintro e w2 ⟨rfl, b2⟩; replace r0 := r0.below b2; replace b0 := b0.trans (b2.mono b0.size)))
        go_roundw
        case rel => exact ⟨k + 1, by omega, by go_num, by rw [HCN.out]; simp, r0, b0⟩
        case measure => simp [intOf]; omega
      · go_wp2_with (first
          | ((with_reducible refine (?_ : wpList _ _ _ (Oper.mk (some 13) _ _ _ _ _ :: _) _ _)); refine wpList_load_row rfl 50 (.tmp 2) rfl w.heap.size rfl 50 (iv X).toArray (0, 0) _ (row_heap r0) Try.underlying50 rfl hi ?_)
          | (go_at_call 104; refine (HK.out _).mono ?_; rintro e w2 ⟨rfl, b2⟩; replace r0 := r0.below b2; replace b0 := b0.trans (b2.mono b0.size)))
        go_roundw
        case rel => exact ⟨k + 1, by omega, by go_num, by rw [HCN.out]; simp, r0, b0⟩
        case measure => simp [intOf]; omega
    · obtain rfl : k = l.length := by omega
      go_wp2
      go_ret
      exact ⟨rfl, b0⟩
theorem excedances_any (l : List Int) (w : World) (h : IsO l) : Calls Try.prog 86 #[arr l] w fun e w' => e = .returned (.int .i64 (cntN (isEb l) l.length)) ∧ Below w.heap.size w w' := by
  have r0 : Row (w.alloc (.cells (iv (pad l)).toArray 50)) w.heap.size 50 (iv (pad l)) := row_new rfl
  have b0 : Below w.heap.size w (w.alloc (.cells (iv (pad l)).toArray 50)) := by (repeat (first | exact Below.refl _ _ | assumption | (refine Below.setCell ?_ (by first | exact Nat.le_refl _ | omega | (simp; done) | (simp; omega)) _) | (refine Below.trans ?_ (below_drewN _)) | (refine Below.drew ?_) | (refine Below.alloc ?_ (by first | exact Nat.le_refl _ | omega | (simp; done) | (simp; omega)) _) | (refine below_row ?_ (by first | exact Nat.le_refl _ | omega | (simp; done) | (simp; omega)) _)))
  have hi := info50_iv (pad_len h.le)
  have HC := Lib.hid (fun w => count_isExcedance l w h)
  unfold arr at HC ⊢
  generalize pad l = X at *
  go_enter Try.func86, Try.ntmps86
  go_wp2_with (first
    | ((with_reducible refine (?_ : wpList _ _ _ (Oper.mk (some 3) _ _ _ _ _ :: _) _ _)); refine wpList_load_row rfl 50 (.tmp 1) rfl w.heap.size rfl 50 (iv X).toArray (0, 0) _ (row_heap r0) Try.underlying50 rfl hi ?_)
    | (go_at_call 103; refine (HC.out _).mono ?_; rintro e w2 ⟨rfl, b2⟩; replace b0 := b0.trans (b2.mono b0.size)))
  go_ret
  exact ⟨rfl, b0⟩
theorem count_isGreatest (l : List Int) (w : World) (h : IsO l) : Calls Try.prog 103 #[arr l, .func (.func 77) #[] #[]] w fun e w' => e = .returned (.int .i64 (cntN (isGb l) l.length)) ∧ Below w.heap.size w w' := by
  have r0 : Row (w.alloc (.cells (iv (pad l)).toArray 50)) w.heap.size 50 (iv (pad l)) := row_new rfl
  have b0 : Below w.heap.size w (w.alloc (.cells (iv (pad l)).toArray 50)) := by (repeat (first | exact Below.refl _ _ | assumption | (refine Below.setCell ?_ (by first | exact Nat.le_refl _ | omega | (simp; done) | (simp; omega)) _) | (refine Below.trans ?_ (below_drewN _)) | (refine Below.drew ?_) | (refine Below.alloc ?_ (by first | exact Nat.le_refl _ | omega | (simp; done) | (simp; omega)) _) | (refine below_row ?_ (by first | exact Nat.le_refl _ | omega | (simp; done) | (simp; omega)) _)))
  have hle := h.le
  have hi := info50_iv (pad_len hle)
  have HL := Lib.hid (fun w => length_any l w h)
  have HQ : Hid (∀ (k : Nat) (w : World), k < l.length → Calls Try.prog 77 #[arr l, .int .i64 k] w fun e w' => e = .returned (.bool (isGb l k)) ∧ Below w.heap.size w w') := Lib.hid (fun k w (hk : k < l.length) => isGreatest_any l k w h hk)
  unfold arr at HL HQ ⊢
  clear h
  generalize pad l = X at *
  go_enter Try.func103, Try.ntmps103
  go_wp2_with (first
    | ((with_reducible refine (?_ : wpList _ _ _ (Oper.mk (some 7) _ _ _ _ _ :: _) _ _)); refine wpList_load_row rfl 50 (.tmp 2) rfl w.heap.size rfl 50 (iv X).toArray (0, 0) _ (row_heap r0) Try.underlying50 rfl hi ?_)
    | (go_at_call 72; refine (HL.out _).mono ?_; rintro e w2 ⟨rfl, b2⟩; replace r0 := r0.below b2; replace b0 := b0.trans (b2.mono b0.size)))
  go_loopw [5, 6, 9] (fun m _ i wr => ∃ k : Nat, k ≤ l.length ∧ i = .int .i64 k ∧ m = .int .i64 (cntN (isGb l) k) ∧ Row wr w.heap.size 50 (iv X) ∧ Below w.heap.size w wr) (fun _ _ i _ => l.length - (intOf i).toNat)
  case atStart => exact ⟨0, by omega, rfl, rfl, r0, b0⟩
  case round =>
    clear r0 b0
    obtain ⟨k, hk, rfl, rfl, r0, b0⟩ := hrel
    have hcl := cntN_le (isGb l) k
    by_cases hlt : k < l.length
    · have HK := Lib.hid (fun w => HQ.out k w hlt)
      have HCN := Lib.hid (show cntN (isGb l) (k + 1) = cntN (isGb l) k + if isGb l k then 1 else 0 from rfl)
      generalize isGb l k = q at *
      generalize cntN (isGb l) k = m at *
      cases q
      · go_wp2_with (first
          | ((with_reducible refine (?_ : wpList _ _ _ (Oper.mk (some 13) _ _ _ _ _ :: _) _ _)); refine wpList_load_row rfl 50 (.tmp 2) rfl w.heap.size rfl 50 (iv X).toArray (0, 0) _ (row_heap r0) Try.underlying50 rfl hi ?_)
          | (go_at_call 77; refine (HK.out _).mono ?_; rintro e w2 ⟨rfl, b2⟩; replace r0 := r0.below b2; replace b0 := b0.trans (b2.mono b0.size)))
        go_roundw
        case rel => exact ⟨k + 1, by omega, by go_num, by rw [HCN.out]; simp, r0, b0⟩
        case measure => simp [intOf]; omega
      · go_wp2_with (first
          | ((with_reducible refine (?_ : wpList _ _ _ (Oper.mk (some 13) _ _ _ _ _ :: _) _ _)); refine wpList_load_row rfl 50 (.tmp 2) rfl w.heap.size rfl 50 (iv X).toArray (0, 0) _ (row_heap r0) Try.underlying50 rfl hi ?_)
          | (go_at_call 77; refine (HK.out _).mono ?_; rintro e w2 ⟨rfl, b2⟩; replace r0 := r0.below b2; replace b0 := b0.trans (b2.mono b0.size)))
        go_roundw
        case rel => exact ⟨k + 1, by omega, by go_num, by rw [HCN.out]; simp, r0, b0⟩
        case measure => simp [intOf]; omega
    · obtain rfl : k = l.length := by omega
      go_wp2
      go_ret
      exact ⟨rfl, b0⟩
theorem cycles_any (l : List Int) (w : World) (h : IsO l) : Calls Try.prog 87 #[arr l] w fun e w' => e = .returned (.int .i64 (cntN (isGb l) l.length)) ∧ Below w.heap.size w w' := by
  have r0 : Row (w.alloc (.cells (iv (pad l)).toArray 50)) w.heap.size 50 (iv (pad l)) := row_new rfl
  have b0 : Below w.heap.size w (w.alloc (.cells (iv (pad l)).toArray 50)) := by (repeat (first | exact Below.refl _ _ | assumption | (refine Below.setCell ?_ (by first | exact Nat.le_refl _ | omega | (simp; done) | (simp; omega)) _) | (refine Below.trans ?_ (below_drewN _)) | (refine Below.drew ?_) | (refine Below.alloc ?_ (by first | exact Nat.le_refl _ | omega | (simp; done) | (simp; omega)) _) | (refine below_row ?_ (by first | exact Nat.le_refl _ | omega | (simp; done) | (simp; omega)) _)))
  have hi := info50_iv (pad_len h.le)
  have HC := Lib.hid (fun w => count_isGreatest l w h)
  unfold arr at HC ⊢
  generalize pad l = X at *
  go_enter Try.func87, Try.ntmps87
  go_wp2_with (first
    | ((with_reducible refine (?_ : wpList _ _ _ (Oper.mk (some 3) _ _ _ _ _ :: _) _ _)); refine wpList_load_row rfl 50 (.tmp 1) rfl w.heap.size rfl 50 (iv X).toArray (0, 0) _ (row_heap r0) Try.underlying50 rfl hi ?_)
    | (go_at_call 103; refine (HC.out _).mono ?_; rintro e w2 ⟨rfl, b2⟩; replace b0 := b0.trans (b2.mono b0.size)))
  go_ret
  exact ⟨rfl, b0⟩
theorem count_isRecord (l : List Int) (w : World) (h : IsO l) : Calls Try.prog 103 #[arr l, .func (.func 79) #[] #[]] w fun e w' => e = .returned (.int .i64 (cntN (isRb l) l.length)) ∧ Below w.heap.size w w' := by
  have r0 : Row (w.alloc (.cells (iv (pad l)).toArray 50)) w.heap.size 50 (iv (pad l)) := row_new rfl
  have b0 : Below w.heap.size w (w.alloc (.cells (iv (pad l)).toArray 50)) := by (repeat (first | exact Below.refl _ _ | assumption | (refine Below.setCell ?_ (by first | exact Nat.le_refl _ | omega | (simp; done) | (simp; omega)) _) | (refine Below.trans ?_ (below_drewN _)) | (refine Below.drew ?_) | (refine Below.alloc ?_ (by first | exact Nat.le_refl _ | omega | (simp; done) | (simp; omega)) _) | (refine below_row ?_ (by first | exact Nat.le_refl _ | omega | (simp; done) | (simp; omega)) _)))
  have hle := h.le
  have hi := info50_iv (pad_len hle)
  have HL := Lib.hid (fun w => length_any l w h)
  have HQ : Hid (∀ (k : Nat) (w : World), k < l.length → Calls Try.prog 79 #[arr l, .int .i64 k] w fun e w' => e = .returned (.bool (isRb l k)) ∧ Below w.heap.size w w') := Lib.hid (fun k w (hk : k < l.length) => isRecord_any l k w hle hk)
  unfold arr at HL HQ ⊢
  clear h
  generalize pad l = X at *
  go_enter Try.func103, Try.ntmps103
  go_wp2_with (first
    | ((with_reducible refine (?_ : wpList _ _ _ (Oper.mk (some 7) _ _ _ _ _ :: _) _ _)); refine wpList_load_row rfl 50 (.tmp 2) rfl w.heap.size rfl 50 (iv X).toArray (0, 0) _ (row_heap r0) Try.underlying50 rfl hi ?_)
    | (go_at_call 72; refine (HL.out _).mono ?_; rintro e w2 ⟨rfl, b2⟩; replace r0 := r0.below b2; replace b0 := b0.trans (b2.mono b0.size)))
  go_loopw [5, 6, 9] (fun m _ i wr => ∃ k : Nat, k ≤ l.length ∧ i = .int .i64 k ∧ m = .int .i64 (cntN (isRb l) k) ∧ Row wr w.heap.size 50 (iv X) ∧ Below w.heap.size w wr) (fun _ _ i _ => l.length - (intOf i).toNat)
  case atStart => exact ⟨0, by omega, rfl, rfl, r0, b0⟩
  case round =>
    clear r0 b0
    obtain ⟨k, hk, rfl, rfl, r0, b0⟩ := hrel
    have hcl := cntN_le (isRb l) k
    by_cases hlt : k < l.length
    · have HK := Lib.hid (fun w => HQ.out k w hlt)
      have HCN := Lib.hid (show cntN (isRb l) (k + 1) = cntN (isRb l) k + if isRb l k then 1 else 0 from rfl)
      generalize isRb l k = q at *
      generalize cntN (isRb l) k = m at *
      cases q
      · go_wp2_with (first
          | ((with_reducible refine (?_ : wpList _ _ _ (Oper.mk (some 13) _ _ _ _ _ :: _) _ _)); refine wpList_load_row rfl 50 (.tmp 2) rfl w.heap.size rfl 50 (iv X).toArray (0, 0) _ (row_heap r0) Try.underlying50 rfl hi ?_)
          | (go_at_call 79; refine (HK.out _).mono ?_; rintro e w2 ⟨rfl, b2⟩; replace r0 := r0.below b2; replace b0 := b0.trans (b2.mono b0.size)))
        go_roundw
        case rel => exact ⟨k + 1, by omega, by go_num, by rw [HCN.out]; simp, r0, b0⟩
        case measure => simp [intOf]; omega
      · go_wp2_with (first
          | ((with_reducible refine (?_ : wpList _ _ _ (Oper.mk (some 13) _ _ _ _ _ :: _) _ _)); refine wpList_load_row rfl 50 (.tmp 2) rfl w.heap.size rfl 50 (iv X).toArray (0, 0) _ (row_heap r0) Try.underlying50 rfl hi ?_)
          | (go_at_call 79; refine (HK.out _).mono ?_; rintro e w2 ⟨rfl, b2⟩; replace r0 := r0.below b2; replace b0 := b0.trans (b2.mono b0.size)))
        go_roundw
        case rel => exact ⟨k + 1, by omega, by go_num, by rw [HCN.out]; simp, r0, b0⟩
        case measure => simp [intOf]; omega
    · obtain rfl : k = l.length := by omega
      go_wp2
      go_ret
      exact ⟨rfl, b0⟩
theorem records_any (l : List Int) (w : World) (h : IsO l) : Calls Try.prog 88 #[arr l] w fun e w' => e = .returned (.int .i64 (cntN (isRb l) l.length)) ∧ Below w.heap.size w w' := by
  have r0 : Row (w.alloc (.cells (iv (pad l)).toArray 50)) w.heap.size 50 (iv (pad l)) := row_new rfl
  have b0 : Below w.heap.size w (w.alloc (.cells (iv (pad l)).toArray 50)) := by (repeat (first | exact Below.refl _ _ | assumption | (refine Below.setCell ?_ (by first | exact Nat.le_refl _ | omega | (simp; done) | (simp; omega)) _) | (refine Below.trans ?_ (below_drewN _)) | (refine Below.drew ?_) | (refine Below.alloc ?_ (by first | exact Nat.le_refl _ | omega | (simp; done) | (simp; omega)) _) | (refine below_row ?_ (by first | exact Nat.le_refl _ | omega | (simp; done) | (simp; omega)) _)))
  have hi := info50_iv (pad_len h.le)
  have HC := Lib.hid (fun w => count_isRecord l w h)
  unfold arr at HC ⊢
  generalize pad l = X at *
  go_enter Try.func88, Try.ntmps88
  go_wp2_with (first
    | ((with_reducible refine (?_ : wpList _ _ _ (Oper.mk (some 3) _ _ _ _ _ :: _) _ _)); refine wpList_load_row rfl 50 (.tmp 1) rfl w.heap.size rfl 50 (iv X).toArray (0, 0) _ (row_heap r0) Try.underlying50 rfl hi ?_)
    | (go_at_call 103; refine (HC.out _).mono ?_; rintro e w2 ⟨rfl, b2⟩; replace b0 := b0.trans (b2.mono b0.size)))
  go_ret
  exact ⟨rfl, b0⟩
end Go.Proofs.Ytheblebfeinjjaa
