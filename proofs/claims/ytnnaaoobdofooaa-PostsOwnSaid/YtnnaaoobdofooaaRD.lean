/- Lists that are no tables. -/
import Derived.Test.YtnnaaoobdofooaaRC
namespace Go.Proofs.Ytnnaaoobdofooaa
open Go.RowKit
set_option maxHeartbeats 1000000
set_option maxRecDepth 100000
/-- Rows that are as they must be. -/
def rowOk (L : List (List Int)) (r : Nat) : Prop := (getl L r).length = L.length ∧ ∀ k, k < L.length → 0 ≤ gat L r k ∧ gat L r k ≤ 9
theorem okT_rows {L : List (List Int)} (h : okT L = false) (hl : L.length ≤ 10) (hr : ∀ r, r < L.length → rowOk L r) : False := by
  have : okT L = true := okT_iff.2 ⟨hl, fun i hi => (hr i hi).1, fun i k hi hk => ((hr i hi).2 k hk).1, fun i k hi hk => ((hr i hi).2 k hk).2⟩
  rw [h] at this; cases this
theorem grdP_rowOk {L : List (List Int)} {r : Nat} (h : rowOk L r) (hl : L.length ≤ 10) : grdP L (r * 10 + L.length) = grdP L ((r + 1) * 10) := grdP_rowEnd h.1 hl
theorem info73_z : (Try.prog.info? 73).map (·.size) = some Try.zeroCells73.size := by kernel_rfl
theorem z73_all : Try.zeroCells73.all (·.oneCell') = true := by rw [z73]; exact iv_all _
theorem readTable_no (A : Option Addr) (c : Nat) (L : List (List Int)) (w : World) (hv : okT L = false) (ha : RowsAt w A L) :
    Calls Try.prog 48 #[.slice A L.length c] w fun e w' => e = .returned (.tuple #[.agg Try.zeroCells73, .bool false]) ∧ Below w.heap.size w w' := by
  have HA := Lib.hid ha
  have hz : Try.zeroCells73.setIfInBounds 0 (.int .i64 (L.length : Int)) = (iv (grdP L 0)).toArray := by rw [z73]; exact z73_set L
  have r0 : Row ((w.alloc (.cells Try.zeroCells73 73)).alloc (.cells Try.zeroCells73 73)) w.heap.size 73 Try.zeroCells73.toList := (row_new rfl).alloc _
  have q0 : Row ((w.alloc (.cells Try.zeroCells73 73)).alloc (.cells Try.zeroCells73 73)) (w.heap.size + 1) 73 Try.zeroCells73.toList := row_new (by simp)
  have b0 : Below w.heap.size w ((w.alloc (.cells Try.zeroCells73 73)).alloc (.cells Try.zeroCells73 73)) := by (repeat (first | exact Below.refl _ _ | assumption | (refine Below.setCell ?_ (by first | exact Nat.le_refl _ | omega | (simp; done) | (simp; omega)) _) | (refine Below.trans ?_ (below_drewN _)) | (refine Below.drew ?_) | (refine Below.alloc ?_ (by first | exact Nat.le_refl _ | omega | (simp; done) | (simp; omega)) _) | (refine below_row ?_ (by first | exact Nat.le_refl _ | omega | (simp; done) | (simp; omega)) _)))
  have hi := info73_iv (grdP_len L 0)
  have hsz : Try.zeroCells73.toList.toArray.size = (iv (grdP L 0)).toArray.size := by rw [z73]; exact size73_iv (by simp) (grdP_len L 0)
  have HS := Lib.hid (fun m (hm : m < 100) => grdP_step L hm)
  have HC0 : Hid (∀ (W : World) (m : Nat), Row W (w.heap.size + 1) 73 (iv (grdP L m)) → W.cell? ⟨w.heap.size + 1, 0, none⟩ = some (.int .i64 (L.length : Int))) := Lib.hid (fun W m h => by have := ivR h (i := 0) (by rw [grdP_len]; omega); rwa [grdP_n] at this)
  have HGL := Lib.hid (fun m => grdP_len L m)
  have hiz := info73_z
  have HZ : Hid (∀ (W : World), Row W w.heap.size 73 Try.zeroCells73.toList → (loadVar 73 ⟨w.heap.size, 0, none⟩).run Try.prog W = .ok (.agg Try.zeroCells73) W) := Lib.hid (fun W h => run_loadVar_row (P := Try.prog) W w.heap.size 73 73 Try.zeroCells73 (0, 0) _ h Try.underlying73 rfl info73_z)
  have STZ : Hid (∀ W : World, Row W w.heap.size 73 Try.zeroCells73.toList → Row (W.setRow w.heap.size Try.zeroCells73) w.heap.size 73 Try.zeroCells73.toList) := Lib.hid (fun W h => h.row _)
  by_cases hle : L.length ≤ 10
  · have HN := Lib.hid (okT_rows hv hle)
    have HRE := Lib.hid (fun r (h : rowOk L r) => grdP_rowOk h hle)
    have g1 : decide ((10 : Int) < (L.length : Int)) = false := decide_eq_false (by omega)
    have HK0 : Hid (∀ r, r < 0 → rowOk L r) := Lib.hid (fun r h => absurd h (Nat.not_lt_zero r))
    clear ha hv
    go_enter Try.func48, Try.ntmps48
    go_wp2_with (refine wpList_store_row rfl 73 (.tmp 4) (.tmp 11) rfl (w.heap.size + 1) (iv (grdP L 0)).toArray rfl rfl 73 Try.zeroCells73.toList.toArray (row_heap q0) hi hsz (iv_all _) ?_; replace q0 := q0.row (iv (grdP L 0)); replace b0 := below_row (g := w.heap.size + 1) b0 (by omega) (iv (grdP L 0)).toArray; replace r0 := r0.row_far (k := w.heap.size + 1) (by omega) (iv (grdP L 0)).toArray; generalize World.setRow (World.alloc _ _) _ _ = W at *; have c0 := HC0.out W 0 q0)
    clear hz hsz hi c0
    go_loopw [18] (fun i wr => ∃ r : Nat, r ≤ L.length ∧ i = .int .i64 r ∧ Row wr (w.heap.size + 1) 73 (iv (grdP L (r * 10))) ∧ Row wr w.heap.size 73 Try.zeroCells73.toList ∧ Below w.heap.size w wr ∧ Hid (∀ r', r' < r → rowOk L r')) (fun i _ => L.length - (intOf i).toNat)
    case atStart => exact ⟨0, by omega, rfl, q0, r0, b0, HK0⟩
    case round =>
      clear q0 r0 b0 HK0
      obtain ⟨r, hr, rfl, q0, r0, b0, HK⟩ := hrel
      by_cases hlt : r < L.length
      · obtain ⟨bA, oA, hAe, hbA, hcA⟩ := HA.out (by omega)
        subst hAe
        obtain ⟨B, cB, hcell, hrow⟩ := hcA r hlt
        have c0 := HC0.out wr _ q0
        replace hcell := (b0.cell (p := ⟨bA, _, none⟩) hbA).trans hcell
        have HI := Lib.hid hrow
        have HGA : Hid (∀ k, gat L r k = geti (getl L r) k) := Lib.hid (fun k => rfl)
        have HOK : Hid (rowOk L r ↔ (getl L r).length = L.length ∧ ∀ k, k < L.length → 0 ≤ geti (getl L r) k ∧ geti (getl L r) k ≤ 9) := Lib.hid Iff.rfl
        have HRR := Lib.hid (HRE.out r)
        clear hcA hrow
        generalize getl L r = X at *
        by_cases hw : X.length = L.length
        · rw [hw] at hcell
          have HWW := Lib.hid hw
          have HJ0 : Hid (∀ k, k < 0 → 0 ≤ geti X k ∧ geti X k ≤ 9) := Lib.hid (fun r h => absurd h (Nat.not_lt_zero r))
          clear hw
          go_wp2
          go_loopw [31] (fun i wr2 => ∃ k : Nat, k ≤ L.length ∧ i = .int .i64 k ∧ Row wr2 (w.heap.size + 1) 73 (iv (grdP L (r * 10 + k))) ∧ Row wr2 w.heap.size 73 Try.zeroCells73.toList ∧ Below w.heap.size w wr2 ∧ Hid (∀ k', k' < k → 0 ≤ geti X k' ∧ geti X k' ≤ 9)) (fun i _ => L.length - (intOf i).toNat)
          case atStart => exact ⟨0, by omega, rfl, q0, r0, b0, HJ0⟩
          case round =>
            clear q0 r0 b0 hcell c0 hbA HJ0
            obtain ⟨k, hk, rfl, q0, r0, b0, HJ⟩ := hrel
            by_cases hlk : k < L.length
            · obtain ⟨bX, oX, rfl, hbX, hcX⟩ := (HI.out.below b0) (by rw [HWW.out]; omega)
              have hx := hcX k (by rw [HWW.out]; exact hlk)
              have hst := HS.out (r * 10 + k) (by omega)
              have f0 := q0.free (1 + r * 10 + k)
              have e0 := ivR q0 (i := 1 + r * 10 + k) (by rw [HGL.out]; omega)
              rw [show (r * 10 + k) / 10 = r by omega, show (r * 10 + k) % 10 = k by omega, HGA.out, ← Nat.add_assoc, Nat.add_assoc (r * 10) k 1] at hst
              have HST := Lib.hid hst
              have hb2 := b0.size
              have HJ2 : Hid (0 ≤ geti X k → geti X k ≤ 9 → ∀ k', k' < k + 1 → 0 ≤ geti X k' ∧ geti X k' ≤ 9) := Lib.hid (fun h0 h9 k' hk' => by
                by_cases e : k' = k
                · subst e; exact ⟨h0, h9⟩
                · exact HJ.out k' (by omega))
              clear hst hcX
              generalize geti X k = x at *
              by_cases hx0 : x < 0
              · have g2 : decide (x < 0) = true := decide_eq_true hx0
                clear HST HJ2 HJ hx0
                go_wp2_with (refine wpList_store_row rfl 73 (.tmp 2) (.tmp 42) rfl w.heap.size Try.zeroCells73 rfl rfl 73 Try.zeroCells73.toList.toArray (row_heap r0) hiz rfl z73_all ?_)
                exact bodyPost_ret (v := .tuple #[.agg Try.zeroCells73, .bool false]) (res2 Try.results48 rfl rfl (HZ.out _ (STZ.out _ r0))) rfl ⟨rfl, below_row b0 (by omega) _⟩
              · have g2 : decide (x < 0) = false := decide_eq_false hx0
                by_cases hx9 : 9 < x
                · have g3 : decide (9 < x) = true := decide_eq_true hx9
                  clear HST HJ2 HJ hx0
                  go_wp2_with (refine wpList_store_row rfl 73 (.tmp 2) (.tmp 42) rfl w.heap.size Try.zeroCells73 rfl rfl 73 Try.zeroCells73.toList.toArray (row_heap r0) hiz rfl z73_all ?_)
                  exact bodyPost_ret (v := .tuple #[.agg Try.zeroCells73, .bool false]) (res2 Try.results48 rfl rfl (HZ.out _ (STZ.out _ r0))) rfl ⟨rfl, below_row b0 (by omega) _⟩
                · have g3 : decide (9 < x) = false := decide_eq_false hx9
                  go_wp2
                  go_roundw
                  case rel =>
                    refine ⟨k + 1, by omega, by go_num, ?_, r0.far (by dsimp only; omega) _, b0.setCell (by dsimp only; omega) _, Lib.hid (HJ2.out (by omega) (by omega))⟩
                    have h := q0.set (1 + r * 10 + k) (.int .i64 x)
                    rw [iv_set, HST.out] at h
                    exact h
                  case measure => simp [intOf]; omega
            · obtain rfl : k = L.length := by omega
              have hro := HOK.out.2 ⟨HWW.out, HJ.out⟩
              rw [HRR.out hro] at q0
              have HK2 : Hid (∀ r', r' < r + 1 → rowOk L r') := Lib.hid (fun r' h => by
                by_cases e : r' = r
                · subst e; exact hro
                · exact HK.out r' (by omega))
              clear hro
              go_wp2
              go_roundw
              case rel => exact ⟨r + 1, by omega, by go_num, q0, r0, b0, HK2⟩
              case measure => simp [intOf]; omega
        · have g2 : ((X.length : Int) != (L.length : Int)) = true := by simp; omega
          clear HOK HRR
          go_wp2_with (refine wpList_store_row rfl 73 (.tmp 2) (.tmp 28) rfl w.heap.size Try.zeroCells73 rfl rfl 73 Try.zeroCells73.toList.toArray (row_heap r0) hiz rfl z73_all ?_)
          exact bodyPost_ret (v := .tuple #[.agg Try.zeroCells73, .bool false]) (res2 Try.results48 rfl rfl (HZ.out _ (STZ.out _ r0))) rfl ⟨rfl, below_row b0 (by omega) _⟩
      · exact absurd (fun i hi => HK.out i (by omega)) HN.out
  · have g1 : decide ((10 : Int) < (L.length : Int)) = true := decide_eq_true (by omega)
    clear ha hv hle
    go_enter Try.func48, Try.ntmps48
    go_wp2_with (first
      | (refine wpList_store_row rfl 73 (.tmp 4) (.tmp 11) rfl (w.heap.size + 1) (iv (grdP L 0)).toArray rfl rfl 73 Try.zeroCells73.toList.toArray (row_heap q0) hi hsz (iv_all _) ?_; replace q0 := q0.row (iv (grdP L 0)); replace b0 := below_row (g := w.heap.size + 1) b0 (by omega) (iv (grdP L 0)).toArray; replace r0 := r0.row_far (k := w.heap.size + 1) (by omega) (iv (grdP L 0)).toArray; generalize World.setRow (World.alloc _ _) _ _ = W at *; have c0 := HC0.out W 0 q0)
      | (refine wpList_store_row rfl 73 (.tmp 2) (.tmp 15) rfl w.heap.size Try.zeroCells73 rfl rfl 73 Try.zeroCells73.toList.toArray (row_heap r0) hiz rfl z73_all ?_))
    exact bodyPost_ret (v := .tuple #[.agg Try.zeroCells73, .bool false]) (res2 Try.results48 rfl rfl (HZ.out _ (STZ.out _ r0))) rfl ⟨rfl, below_row b0 (by omega) _⟩
end Go.Proofs.Ytnnaaoobdofooaa
