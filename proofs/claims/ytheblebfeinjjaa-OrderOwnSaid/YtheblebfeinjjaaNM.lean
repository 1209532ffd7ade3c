/- The sum of the table, the sum of the descents. -/
import Derived.Test.YtheblebfeinjjaaNL
namespace Go.Proofs.Ytheblebfeinjjaa
open Go.RowKit
set_option maxHeartbeats 1000000
set_option maxRecDepth 100000
def sumN (xs : List Int) : Nat → Int
  | 0 => 0
  | k + 1 => sumN xs k + geti xs k
def majN (l : List Int) : Nat → Nat
  | 0 => 0
  | k + 1 => majN l k + if isDb l k then k else 0
theorem majN_le (l : List Int) : ∀ k, k ≤ 12 → majN l k ≤ 12 * k
  | 0, _ => Nat.le_refl _
  | k + 1, h => by
    have := majN_le l k (by omega)
    unfold majN
    split <;> omega
theorem sumN_tab (l : List Int) (hl : l.length ≤ 12) : ∀ k, k ≤ l.length → 0 ≤ sumN (tabL l) k ∧ sumN (tabL l) k ≤ 12 * k
  | 0, _ => ⟨Int.le_refl _, Int.le_refl _⟩
  | k + 1, h => by
    have := sumN_tab l hl k (by omega)
    have h2 := tabL_at (l := l) (i := k) (by omega)
    have h3 := smN_le l k l.length
    unfold sumN
    omega
theorem inversions_any (l : List Int) (w : World) (h : IsO l) : Calls Try.prog 83 #[arr l] w fun e w' => e = .returned (.int .i64 (sumN (tabL l) l.length)) ∧ Below w.heap.size w w' := by
  have r0 : Row (w.alloc (.cells (iv (pad l)).toArray 50)) w.heap.size 50 (iv (pad l)) := row_new rfl
  have b0 : Below w.heap.size w (w.alloc (.cells (iv (pad l)).toArray 50)) := by (repeat (first | exact Below.refl _ _ | assumption | (refine Below.setCell ?_ (by first | exact Nat.le_refl _ | omega | (simp; done) | (simp; omega)) _) | (refine Below.trans ?_ (below_drewN _)) | (refine Below.drew ?_) | (refine Below.alloc ?_ (by first | exact Nat.le_refl _ | omega | (simp; done) | (simp; omega)) _) | (refine below_row ?_ (by first | exact Nat.le_refl _ | omega | (simp; done) | (simp; omega)) _)))
  have hle := h.le
  have hi := info50_iv (pad_len hle)
  have HT := Lib.hid (fun w => table_any l w h)
  have HB := Lib.hid (sumN_tab l hle)
  have htl := tabL_len l
  have HTB : Hid (∀ k, k < l.length → 0 ≤ geti (tabL l) k ∧ geti (tabL l) k ≤ 12) := Lib.hid (fun k hk => by
    rw [tabL_at hk]
    have := smN_le l k l.length
    omega)
  unfold arr at HT ⊢
  generalize pad l = X at *
  generalize tabL l = T at *
  rw [← htl] at HT HB HTB hle ⊢
  clear h htl
  go_enter Try.func83, Try.ntmps83
  go_wp2_with (first
    | ((with_reducible refine (?_ : wpList _ _ _ (Oper.mk (some 6) _ _ _ _ _ :: _) _ _)); refine wpList_load_row rfl 50 (.tmp 1) rfl w.heap.size rfl 50 (iv X).toArray (0, 0) _ (row_heap r0) Try.underlying50 rfl hi ?_)
    | (go_at_call 53; fail))
  refine (HT.out _).mono ?_
  rintro e w2 ⟨v, rfl, o2, b2⟩
  obtain ⟨A, c, rfl, -, -, i2⟩ := own_intsI o2
  replace b2 := b0.trans (b2.mono b0.size)
  have I2 := Lib.hid i2
  clear o2 i2 b0 r0
  go_wp2
  go_loopw [3, 9] (fun s i wr => ∃ k : Nat, k ≤ T.length ∧ i = .int .i64 k ∧ s = .int .i64 (sumN T k) ∧ w2 = wr) (fun _ i _ => T.length - (intOf i).toNat)
  case atStart => exact ⟨0, by omega, rfl, rfl, rfl⟩
  case round =>
    obtain ⟨k, hk, rfl, rfl, rfl⟩ := hrel
    by_cases hlt : k < T.length
    · obtain ⟨b, o, rfl, hb, hc⟩ := I2.out (by omega)
      have c1 := hc k hlt
      obtain ⟨x1, x2⟩ := HTB.out k hlt
      obtain ⟨s1, s2⟩ := HB.out k hk
      have HS := Lib.hid (show sumN T (k + 1) = sumN T k + geti T k from rfl)
      clear hc
      generalize geti T k = x at *
      generalize sumN T k = s at *
      go_wp2
      go_roundw
      case rel => exact ⟨k + 1, by omega, by go_num, by rw [HS.out], by first | rfl | trivial⟩
      case measure => simp [intOf]; omega
    · obtain rfl : k = T.length := by omega
      go_wp2
      go_ret
      exact ⟨rfl, b2⟩
theorem major_any (l : List Int) (w : World) (h : IsO l) : Calls Try.prog 84 #[arr l] w fun e w' => e = .returned (.int .i64 (majN l l.length)) ∧ Below w.heap.size w w' := by
  have r0 : Row (w.alloc (.cells (iv (pad l)).toArray 50)) w.heap.size 50 (iv (pad l)) := row_new rfl
  have b0 : Below w.heap.size w (w.alloc (.cells (iv (pad l)).toArray 50)) := by (repeat (first | exact Below.refl _ _ | assumption | (refine Below.setCell ?_ (by first | exact Nat.le_refl _ | omega | (simp; done) | (simp; omega)) _) | (refine Below.trans ?_ (below_drewN _)) | (refine Below.drew ?_) | (refine Below.alloc ?_ (by first | exact Nat.le_refl _ | omega | (simp; done) | (simp; omega)) _) | (refine below_row ?_ (by first | exact Nat.le_refl _ | omega | (simp; done) | (simp; omega)) _)))
  have hle := h.le
  have hi := info50_iv (pad_len hle)
  have HL := Lib.hid (fun w => length_any l w h)
  have HQ : Hid (∀ (k : Nat) (w : World), k < l.length → Calls Try.prog 102 #[arr l, .int .i64 k] w fun e w' => e = .returned (.bool (isDb l k)) ∧ Below w.heap.size w w') := Lib.hid (fun k w hk => isDescent_any l k w hle (by omega))
  unfold arr at HL HQ ⊢
  clear h
  generalize pad l = X at *
  go_enter Try.func84, Try.ntmps84
  go_wp2_with (first
    | ((with_reducible refine (?_ : wpList _ _ _ (Oper.mk (some 5) _ _ _ _ _ :: _) _ _)); refine wpList_load_row rfl 50 (.tmp 1) rfl w.heap.size rfl 50 (iv X).toArray (0, 0) _ (row_heap r0) Try.underlying50 rfl hi ?_)
    | (go_at_call 72; refine (HL.out _).mono ?_; rintro e w2 ⟨rfl, b2⟩; replace r0 := r0.below b2; replace b0 := b0.trans (b2.mono b0.size)))
  go_loopw [3, 7] (fun m i wr => ∃ k : Nat, k ≤ l.length ∧ i = .int .i64 k ∧ m = .int .i64 (majN l k) ∧ Row wr w.heap.size 50 (iv X) ∧ Below w.heap.size w wr) (fun _ i _ => l.length - (intOf i).toNat)
  case atStart => exact ⟨0, by omega, rfl, rfl, r0, b0⟩
  case round =>
    clear r0 b0
    obtain ⟨k, hk, rfl, rfl, r0, b0⟩ := hrel
    have hcl := majN_le l k (by omega)
    by_cases hlt : k < l.length
    · have HK := Lib.hid (fun w => HQ.out k w hlt)
      have HCN := Lib.hid (show majN l (k + 1) = majN l k + if isDb l k then k else 0 from rfl)
      generalize isDb l k = q at *
      generalize majN l k = m at *
      cases q
      all_goals
        go_wp2_with (first
          | ((with_reducible refine (?_ : wpList _ _ _ (Oper.mk (some 10) _ _ _ _ _ :: _) _ _)); refine wpList_load_row rfl 50 (.tmp 1) rfl w.heap.size rfl 50 (iv X).toArray (0, 0) _ (row_heap r0) Try.underlying50 rfl hi ?_)
          | (go_at_call 102; refine (HK.out _).mono ?_; rintro e w2 ⟨rfl, b2⟩; replace r0 := r0.below b2; replace b0 := b0.trans (b2.mono b0.size)))
        go_roundw
        case rel => exact ⟨k + 1, by omega, by go_num, by rw [HCN.out]; simp, r0, b0⟩
        case measure => simp [intOf]; omega
    · obtain rfl : k = l.length := by omega
      go_wp2
      go_ret
      exact ⟨rfl, b0⟩
end Go.Proofs.Ytheblebfeinjjaa
