/- Descents, excedances, records, and how many of them. -/
import Derived.Test.YtheblebfeinjjaaNI
namespace Go.Proofs.Ytheblebfeinjjaa
open Go.RowKit
set_option maxHeartbeats 1000000
set_option maxRecDepth 100000
def isDb (l : List Int) (k : Nat) : Bool := decide (0 < k) && decide (geti l k < geti l (k - 1))
def isEb (l : List Int) (k : Nat) : Bool := decide ((k : Int) + 1 < geti l k)
def isRb (l : List Int) (k : Nat) : Bool := decide (mxN l k = geti l k)
def cntN (f : Nat → Bool) : Nat → Nat
  | 0 => 0
  | k + 1 => cntN f k + if f k then 1 else 0
theorem cntN_le (f : Nat → Bool) : ∀ k, cntN f k ≤ k
  | 0 => Nat.le_refl _
  | k + 1 => by
    have := cntN_le f k
    unfold cntN
    split <;> omega
theorem pad_get {l : List Int} (hl : l.length ≤ 12) {k : Nat} (hk : k < 12) : (iv (pad l))[k]? = some (.int .i64 (geti l k)) := by
  rw [iv_get (by rw [pad_len hl]; omega), pad_at]
theorem isExcedance_any (l : List Int) (k : Nat) (w : World) (hl : l.length ≤ 12) (hk : k < 12) :
    Calls Try.prog 104 #[arr l, .int .i64 k] w fun e w' => e = .returned (.bool (isEb l k)) ∧ Below w.heap.size w w' := by
  have h1 := pad_get hl hk
  have b0 : Below w.heap.size w (w.alloc (.cells (iv (pad l)).toArray 50)) := by (repeat (first | exact Below.refl _ _ | assumption | (refine Below.setCell ?_ (by first | exact Nat.le_refl _ | omega | (simp; done) | (simp; omega)) _) | (refine Below.trans ?_ (below_drewN _)) | (refine Below.drew ?_) | (refine Below.alloc ?_ (by first | exact Nat.le_refl _ | omega | (simp; done) | (simp; omega)) _) | (refine below_row ?_ (by first | exact Nat.le_refl _ | omega | (simp; done) | (simp; omega)) _)))
  unfold arr isEb
  generalize geti l k = x at *
  go_enter Try.func104, Try.ntmps104
  go_wp2
  go_ret
  exact ⟨rfl, b0⟩
theorem isDescent_any (l : List Int) (k : Nat) (w : World) (hl : l.length ≤ 12) (hk : k < 12) :
    Calls Try.prog 102 #[arr l, .int .i64 k] w fun e w' => e = .returned (.bool (isDb l k)) ∧ Below w.heap.size w w' := by
  have b0 : Below w.heap.size w (w.alloc (.cells (iv (pad l)).toArray 50)) := by (repeat (first | exact Below.refl _ _ | assumption | (refine Below.setCell ?_ (by first | exact Nat.le_refl _ | omega | (simp; done) | (simp; omega)) _) | (refine Below.trans ?_ (below_drewN _)) | (refine Below.drew ?_) | (refine Below.alloc ?_ (by first | exact Nat.le_refl _ | omega | (simp; done) | (simp; omega)) _) | (refine below_row ?_ (by first | exact Nat.le_refl _ | omega | (simp; done) | (simp; omega)) _)))
  cases k with
  | zero =>
    unfold arr
    go_enter Try.func102, Try.ntmps102
    go_wp2
    refine wp_region_quiet_lit (by kernel_rfl) (by kernel_rfl) ?_
    repeat go_big_quiet_step ((fail))
    refine wpQuiet_nil ?_
    rintro _ ⟨nq, rfl⟩
    go_wp2
    go_ret
    exact ⟨rfl, b0.trans (below_drewN nq)⟩
  | succ m =>
    have r0 : Row (w.alloc (.cells (iv (pad l)).toArray 50)) w.heap.size 50 (iv (pad l)) := row_new rfl
    have c0 := ivR r0 (i := m) (by rw [pad_len hl]; omega)
    have c1 := ivR r0 (i := m + 1) (by rw [pad_len hl]; omega)
    rw [pad_at] at c0 c1
    have hv : isDb l (m + 1) = decide (geti l (m + 1) < geti l m) := by simp [isDb]
    rw [hv]
    have h1 := pad_get hl hk
    have h0 := pad_get hl (show m < 12 by omega)
    generalize geti l (m + 1) = x at *
    generalize geti l m = y at *
    have g1 : decide (0 < m + 1) = true := by simp
    unfold arr
    clear r0
    go_enter Try.func102, Try.ntmps102
    go_wp2
    refine wp_region_quiet_lit (by kernel_rfl) (by kernel_rfl) ?_
    repeat go_big_quiet_step ((fail))
    refine wpQuiet_nil ?_
    rintro _ ⟨nq, rfl⟩
    go_wp2
    go_ret
    exact ⟨rfl, b0.trans (below_drewN nq)⟩
theorem isRecord_any (l : List Int) (k : Nat) (w : World) (hl : l.length ≤ 12) (hk : k < l.length) :
    Calls Try.prog 79 #[arr l, .int .i64 k] w fun e w' => e = .returned (.bool (isRb l k)) ∧ Below w.heap.size w w' := by
  have b0 : Below w.heap.size w (w.alloc (.cells (iv (pad l)).toArray 50)) := by (repeat (first | exact Below.refl _ _ | assumption | (refine Below.setCell ?_ (by first | exact Nat.le_refl _ | omega | (simp; done) | (simp; omega)) _) | (refine Below.trans ?_ (below_drewN _)) | (refine Below.drew ?_) | (refine Below.alloc ?_ (by first | exact Nat.le_refl _ | omega | (simp; done) | (simp; omega)) _) | (refine below_row ?_ (by first | exact Nat.le_refl _ | omega | (simp; done) | (simp; omega)) _)))
  have r0 : Row (w.alloc (.cells (iv (pad l)).toArray 50)) w.heap.size 50 (iv (pad l)) := row_new rfl
  have c0 := ivR r0 (i := k) (by rw [pad_len hl]; omega)
  rw [pad_at] at c0
  have hm : mxN (l.take (k + 1)) k = mxN l k := mxN_congr (fun i hi => by
    unfold geti
    rw [List.getD_eq_getElem?_getD, List.getD_eq_getElem?_getD, List.getElem?_take, if_pos (by omega)])
  have hi : IntsAt (w.alloc (.cells (iv (pad l)).toArray 50)) (some ⟨w.heap.size, 0, none⟩) (l.take (k + 1)) := fun _ => ⟨w.heap.size, 0, rfl, r0.lt, fun i hi => by
    rw [List.length_take] at hi
    rw [Nat.zero_add, ivR r0 (i := i) (by rw [pad_len hl]; omega), pad_at]
    unfold geti
    rw [List.getD_eq_getElem?_getD, List.getD_eq_getElem?_getD, List.getElem?_take, if_pos (by omega)]⟩
  have htl : (l.take (k + 1)).length = k + 1 := by rw [List.length_take]; omega
  have hsl : ∀ w' : World, (Instr.sliceAt 50 (.pointer (some ⟨w.heap.size, 0, none⟩)) none (some (.int .i64 ((k : Int) + 1))) none).run Try.prog w' = .ok (.slice (some ⟨w.heap.size, 0, none⟩) (k + 1) 12) w' := fun w' => slice50_h (b := w.heap.size) (h := k + 1) (by omega)
  have HC := Lib.hid (fun n => Max_any (some ⟨w.heap.size, 0, none⟩) 12 (l.take (k + 1)) ((w.alloc (.cells (iv (pad l)).toArray 50)).drewN n) (by omega) (by omega) (hi.drewN n))
  rw [htl, Nat.add_sub_cancel, hm] at HC
  have h1 := pad_get hl (show k < 12 by omega)
  unfold arr isRb
  clear r0 hi hm htl
  generalize geti l k = x at *
  generalize mxN l k = y at *
  generalize l.take (k + 1) = T at *
  have hk12 : k < 12 := by omega
  clear hk
  go_enter Try.func79, Try.ntmps79
  go_wp2
  refine wp_region_quiet_lit (by kernel_rfl) (by kernel_rfl) ?_
  repeat go_big_quiet_step ((exact Calls.mono (HC.out _) (fun e w2 h => ⟨h.1, _, h.2.symm⟩)))
  refine wpQuiet_nil ?_
  rintro _ ⟨nq, rfl⟩

  go_wp2
  go_ret
  exact ⟨rfl, b0.trans (below_drewN nq)⟩
end Go.Proofs.Ytheblebfeinjjaa
