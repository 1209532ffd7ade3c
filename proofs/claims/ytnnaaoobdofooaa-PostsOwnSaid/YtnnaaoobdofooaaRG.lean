/- Ones in the places of positive numbers. -/
import Derived.Test.YtnnaaoobdofooaaRF
namespace Go.Proofs.Ytnnaaoobdofooaa
open Go.RowKit
set_option maxHeartbeats 1000000
set_option maxRecDepth 100000
/-- A grid's cells by a function. -/
def gl (n : Nat) (f : Nat → Int) : List Int := (n : Int) :: (List.range 100).map f
theorem gl_len (n : Nat) (f : Nat → Int) : (gl n f).length = 101 := by simp [gl]
theorem gl_at (n : Nat) (f : Nat → Int) {k : Nat} (h : k < 100) : geti (gl n f) (1 + k) = f k := by
  unfold gl
  rw [Nat.add_comm]
  exact geti_map h
theorem gl_ext {n : Nat} {f g : Nat → Int} (h : ∀ k, k < 100 → f k = g k) : gl n f = gl n g := by
  unfold gl
  rw [List.map_congr_left (fun k hk => h k (List.mem_range.1 hk))]
theorem gl_set {n : Nat} {f : Nat → Int} {m : Nat} {x : Int} (h : m < 100) : (gl n f).set (1 + m) x = gl n (fun k => if k = m then x else f k) := by
  refine ext_geti (by rw [List.length_set, gl_len, gl_len]) (fun i hi => ?_)
  rw [List.length_set, gl_len] at hi
  rw [geti_set (by rw [gl_len]; omega)]
  cases i with
  | zero => rw [if_neg (by omega)]; rfl
  | succ i =>
    rw [Nat.add_comm i 1, gl_at _ _ (by omega), gl_at _ _ (by omega)]
    by_cases e : i = m
    · subst e; rw [if_pos rfl, if_pos rfl]
    · rw [if_neg (by omega), if_neg e]
theorem grd_gl (L : List (List Int)) : grd L = gl L.length (fun k => gat L (k / 10) (k % 10)) := grd_ent L
def onesL (L : List (List Int)) : List (List Int) := L.map fun row => row.map fun x => min x 1
theorem onesL_len (L : List (List Int)) : (onesL L).length = L.length := by simp [onesL]
theorem onesL_row (L : List (List Int)) (r : Nat) : getl (onesL L) r = (getl L r).map fun x => min x 1 := by
  unfold getl onesL
  rw [List.getD_eq_getElem?_getD, List.getD_eq_getElem?_getD, List.getElem?_map]
  cases L[r]? <;> rfl
theorem onesL_at (L : List (List Int)) (r c : Nat) : gat (onesL L) r c = min (gat L r c) 1 := by
  unfold gat
  rw [onesL_row]
  unfold geti
  rw [List.getD_eq_getElem?_getD, List.getD_eq_getElem?_getD, List.getElem?_map]
  cases (getl L r)[c]? <;> rfl
theorem IsT.ones {L : List (List Int)} (h : IsT L) : IsT (onesL L) := by
  refine ⟨by rw [onesL_len]; exact h.le, fun i hi => ?_, fun i k _ _ => ?_, fun i k _ _ => ?_⟩
  · rw [onesL_len] at hi ⊢
    rw [onesL_row, List.length_map]; exact h.row i hi
  · rw [onesL_at]; have := h.bd i k; omega
  · rw [onesL_at]; have := h.bd i k; omega
def onP (L : List (List Int)) (m : Nat) : List Int := gl L.length (fun k => if k < m then min (gat L (k / 10) (k % 10)) 1 else gat L (k / 10) (k % 10))
theorem onP_len (L : List (List Int)) (m : Nat) : (onP L m).length = 101 := gl_len _ _
theorem onP_zero (L : List (List Int)) : onP L 0 = grd L := by
  rw [grd_gl]; exact gl_ext (fun k _ => by simp)
theorem onP_at (L : List (List Int)) {m : Nat} (h : m < 100) : geti (onP L m) (1 + m) = gat L (m / 10) (m % 10) := by
  unfold onP
  rw [gl_at _ _ h, if_neg (by omega)]
theorem onP_step (L : List (List Int)) {m : Nat} (h : m < 100) : (onP L m).set (1 + m) (min (gat L (m / 10) (m % 10)) 1) = onP L (m + 1) := by
  unfold onP
  rw [gl_set h]
  refine gl_ext (fun k hk => ?_)
  by_cases e : k = m
  · subst e; rw [if_pos rfl, if_pos (by omega)]
  · rw [if_neg e]
    by_cases e2 : k < m
    · rw [if_pos e2, if_pos (by omega)]
    · rw [if_neg e2, if_neg (by omega)]
theorem onP_skip {L : List (List Int)} {m m2 : Nat} (hm : m ≤ m2) (h : ∀ k, m ≤ k → k < m2 → gat L (k / 10) (k % 10) = 0) : onP L m = onP L m2 := by
  refine gl_ext (fun k hk => ?_)
  by_cases e : k < m
  · rw [if_pos e, if_pos (by omega)]
  · rw [if_neg e]
    by_cases e2 : k < m2
    · rw [if_pos e2, h k (by omega) e2]; rfl
    · rw [if_neg e2]
theorem onP_rowEnd {L : List (List Int)} (h : IsT L) (r : Nat) : onP L (r * 10 + L.length) = onP L ((r + 1) * 10) := by
  have := h.le
  refine onP_skip (by omega) (fun k h1 h2 => h.zero (.inr ?_))
  omega
theorem onP_end {L : List (List Int)} (h : IsT L) : onP L (L.length * 10) = grd (onesL L) := by
  have hle := h.le
  rw [grd_gl, onesL_len]
  refine gl_ext (fun k hk => ?_)
  rw [onesL_at]
  by_cases e : k < L.length * 10
  · rw [if_pos e]
  · rw [if_neg e, h.zero (.inl (by omega))]; rfl
theorem ones_grd (L : List (List Int)) (w : World) (h : IsT L) :
    Calls Try.prog 68 #[.agg (iv (grd L)).toArray] w fun e w' => e = .returned (.agg (iv (grd (onesL L))).toArray) ∧ Below w.heap.size w w' := by
  have hle := h.le
  have r0 : Row ((w.alloc (.cells (iv (grd L)).toArray 73)).alloc (.cells Try.zeroCells73 73)) w.heap.size 73 (iv (onP L (0 * 10))) := by
    rw [Nat.zero_mul, onP_zero]; exact (row_new rfl).alloc _
  have q0 : Row ((w.alloc (.cells (iv (grd L)).toArray 73)).alloc (.cells Try.zeroCells73 73)) (w.heap.size + 1) 73 Try.zeroCells73.toList := row_new (by simp)
  have b0 : Below w.heap.size w ((w.alloc (.cells (iv (grd L)).toArray 73)).alloc (.cells Try.zeroCells73 73)) := by (repeat (first | exact Below.refl _ _ | assumption | (refine Below.setCell ?_ (by first | exact Nat.le_refl _ | omega | (simp; done) | (simp; omega)) _) | (refine Below.trans ?_ (below_drewN _)) | (refine Below.drew ?_) | (refine Below.alloc ?_ (by first | exact Nat.le_refl _ | omega | (simp; done) | (simp; omega)) _) | (refine below_row ?_ (by first | exact Nat.le_refl _ | omega | (simp; done) | (simp; omega)) _)))
  have HC0 : Hid (∀ (W : World) (m : Nat), Row W w.heap.size 73 (iv (onP L m)) → W.cell? ⟨w.heap.size, 0, none⟩ = some (.int .i64 (L.length : Int))) := Lib.hid (fun W m h => ivR h (i := 0) (by rw [onP_len]; omega))
  have HA := Lib.hid (fun m (hm : m < 100) => onP_at L hm)
  have HS := Lib.hid (fun m (hm : m < 100) => onP_step L hm)
  have HL := Lib.hid (onP_len L)
  have HR := Lib.hid (onP_rowEnd h)
  have HE := Lib.hid (onP_end h)
  have HB := Lib.hid (fun r c => h.bd r c)
  have c0 := HC0.out _ _ r0
  clear h
  go_enter Try.func68, Try.ntmps68
  go_wp2
  clear c0
  go_loopw [7] (fun i wr => ∃ r : Nat, r ≤ L.length ∧ i = .int .i64 r ∧ Row wr w.heap.size 73 (iv (onP L (r * 10))) ∧ Row wr (w.heap.size + 1) 73 Try.zeroCells73.toList ∧ Below w.heap.size w wr) (fun i _ => L.length - (intOf i).toNat)
  case atStart => exact ⟨0, by omega, rfl, r0, q0, b0⟩
  case round =>
    clear r0 q0 b0
    obtain ⟨r, hr, rfl, r0, q0, b0⟩ := hrel
    by_cases hlt : r < L.length
    · have c0 := HC0.out _ _ r0
      have HRE := Lib.hid (HR.out r)
      go_wp2
      clear c0
      go_loopw [12] (fun i wr2 => ∃ k : Nat, k ≤ L.length ∧ i = .int .i64 k ∧ Row wr2 w.heap.size 73 (iv (onP L (r * 10 + k))) ∧ Row wr2 (w.heap.size + 1) 73 Try.zeroCells73.toList ∧ Below w.heap.size w wr2) (fun i _ => L.length - (intOf i).toNat)
      case atStart => exact ⟨0, by omega, rfl, r0, q0, b0⟩
      case round =>
        clear r0 q0 b0
        obtain ⟨k, hk, rfl, r0, q0, b0⟩ := hrel
        by_cases hlk : k < L.length
        · have hst := HS.out (r * 10 + k) (by omega)
          have d0 := ivR r0 (i := 1 + (r * 10 + k)) (by rw [HL.out]; omega)
          rw [HA.out (r * 10 + k) (by omega)] at d0
          rw [show (r * 10 + k) / 10 = r by omega, show (r * 10 + k) % 10 = k by omega] at hst d0
          rw [← Nat.add_assoc] at d0
          rw [← Nat.add_assoc, Nat.add_assoc (r * 10) k 1] at hst
          have hb := HB.out r k
          have HST := Lib.hid hst
          clear hst
          generalize gat L r k = x at *
          obtain ⟨hb1, hb2⟩ := hb
          go_wp2
          refine wp_region_quiet_tail 12 (by kernel_rfl) (by kernel_rfl) ?_
          simp only [List.take_succ_cons, List.take_zero, List.drop_succ_cons, List.drop_zero]
          repeat go_big_quiet_step ((fail))
          refine wpQuiet_nil ?_
          rintro _ ⟨nq, rfl⟩
          replace r0 := r0.drewN nq
          replace q0 := q0.drewN nq
          replace b0 := b0.trans (below_drewN nq)
          replace d0 : (wr.drewN nq).cell? ⟨w.heap.size, 1 + r * 10 + k, none⟩ = some (.int .i64 x) := d0
          generalize wr.drewN nq = W at *
          have f0 := r0.free (1 + r * 10 + k)
          go_wp2
          go_roundw
          case rel =>
            refine ⟨k + 1, by omega, by go_num, ?_, q0.far (by dsimp only; omega) _, b0.setCell (by dsimp only; omega) _⟩
            have h := r0.set (1 + r * 10 + k) (.int .i64 (min x 1))
            rw [iv_set, HST.out, show min x 1 = (if 1 < x then 1 else x) by split <;> omega] at h
            exact h
          case measure => simp [intOf]; omega
        · obtain rfl : k = L.length := by omega
          rw [HRE.out] at r0
          go_wp2
          go_roundw
          case rel => exact ⟨r + 1, by omega, by go_num, r0, q0, b0⟩
          case measure => simp [intOf]; omega
    · obtain rfl : r = L.length := by omega
      rw [HE.out] at r0
      have hi := info73_iv (x := grd (onesL L)) (grdP_len _ 100)
      have hsz : Try.zeroCells73.toList.toArray.size = (iv (grd (onesL L))).toArray.size := by rw [z73]; exact size73_iv (by simp) (grdP_len _ 100)
      go_wp2_with (first
        | ((with_reducible refine (?_ : wpList _ _ _ (Oper.mk (some 29) _ _ _ _ _ :: _) _ _)); refine wpList_load_row rfl 73 (.tmp 1) rfl w.heap.size rfl 73 (iv (grd (onesL L))).toArray (0, 0) _ (row_heap r0) Try.underlying73 rfl hi ?_)
        | ((with_reducible refine (?_ : wpList _ _ _ (Oper.mk none _ _ _ _ _ :: _) _ _)); refine wpList_store_row rfl 73 (.tmp 2) (.tmp 29) rfl (w.heap.size + 1) (iv (grd (onesL L))).toArray rfl rfl 73 Try.zeroCells73.toList.toArray (row_heap q0) hi hsz (iv_all _) ?_))
      exact bodyPost_ret (v := .agg (iv (grd (onesL L))).toArray) (res1 Try.results68 rfl (cell_res73 (grdP_len _ 100) (q0.row _))) rfl ⟨rfl, below_row b0 (by omega) _⟩
end Go.Proofs.Ytnnaaoobdofooaa
