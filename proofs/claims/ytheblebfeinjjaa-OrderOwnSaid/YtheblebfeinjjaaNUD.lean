/- Counts of orders: one number more (mD). -/
import Derived.Test.YtheblebfeinjjaaNU0
namespace Go.Proofs.Ytheblebfeinjjaa
open Go.RowKit
set_option maxHeartbeats 1000000
set_option maxRecDepth 100000
theorem longerD_any (n : Nat) (Z : List Nat) (w : World) (hn : n < 18) (hZ : InF (tri n) Z (facN n)) : Calls Try.prog 90 #[.agg (intv Z).toArray, .int .i64 n, .func (.func 66) #[] #[]] w fun e w' => e = .returned (.agg (intv (lon mD n Z)).toArray) ∧ Below w.heap.size w w' := by
  have hz := z77
  have r0 : Row (((w.alloc (.cells (intv Z).toArray 77)).alloc (.cells (intv Z154).toArray 77)).alloc (.cells (intv Z154).toArray 77)) w.heap.size 77 (intv Z) := ((row_new rfl).alloc _).alloc _
  have q0 : Row (((w.alloc (.cells (intv Z).toArray 77)).alloc (.cells (intv Z154).toArray 77)).alloc (.cells (intv Z154).toArray 77)) (w.heap.size + 1) 77 (intv Z154) := (row_new (by simp)).alloc _
  have t0 : Row (((w.alloc (.cells (intv Z).toArray 77)).alloc (.cells (intv Z154).toArray 77)).alloc (.cells (intv Z154).toArray 77)) (w.heap.size + 1 + 1) 77 (intv (outN mD n Z 0)) := row_new (by simp)
  have b0 : Below w.heap.size w (((w.alloc (.cells (intv Z).toArray 77)).alloc (.cells (intv Z154).toArray 77)).alloc (.cells (intv Z154).toArray 77)) := by (repeat (first | exact Below.refl _ _ | assumption | (refine Below.setCell ?_ (by first | exact Nat.le_refl _ | omega | (simp; done) | (simp; omega)) _) | (refine Below.trans ?_ (below_drewN _)) | (refine Below.drew ?_) | (refine Below.alloc ?_ (by first | exact Nat.le_refl _ | omega | (simp; done) | (simp; omega)) _) | (refine below_row ?_ (by first | exact Nat.le_refl _ | omega | (simp; done) | (simp; omega)) _)))
  have hi := info77_iv hZ.len
  have HRF := Lib.hid (fun k p (hk : k < 154) (h0 : getn Z k ≠ 0) (hp : p ≤ n) => round_facts growD hn hZ hk h0 hp)
  have HIX := Lib.hid (fun k (hk : k < 154) w => run_index77 Z k hk hZ.len w)
  have hll : (lon mD n Z).length = 154 := (outN_facts growD hn hZ.len hZ.sup 154 (Nat.le_refl _)).len
  have hli := info77_iv hll
  clear hZ
  go_enter Try.func90, Try.ntmps90
  go_wp2_with ((with_reducible refine (?_ : wpList _ _ _ (Oper.mk (some 11) _ _ _ _ _ :: _) _ _)); refine wpList_load_row rfl 77 (.tmp 3) rfl w.heap.size rfl 77 (intv Z).toArray (0, 0) _ (row_heap r0) Try.underlying77 rfl hi ?_)
  clear r0
  go_loopw [12] (fun i wr => ∃ k : Nat, k ≤ 154 ∧ i = .int .i64 k ∧ Row wr (w.heap.size + 1 + 1) 77 (intv (outN mD n Z k)) ∧ Row wr (w.heap.size + 1) 77 (intv Z154) ∧ Below w.heap.size w wr) (fun i _ => 154 - (intOf i).toNat)
  case atStart => exact ⟨0, by omega, rfl, t0, q0, b0⟩
  case round =>
    clear q0 b0 t0
    obtain ⟨k, hk, rfl, t0, q0, b0⟩ := hrel
    by_cases hlt : k < 154
    · have hidx := HIX.out k hlt wr
      have gk : decide ((k : Int) < 154) = true := decide_eq_true (by omega)
      have HON := Lib.hid (show outN mD n Z (k + 1) = if getn Z k = 0 then outN mD n Z k else inN mD Z k (n + 1) (outN mD n Z k) from rfl)
      by_cases h0 : getn Z k = 0
      · rw [h0] at hidx
        rw [if_pos h0] at HON
        clear h0
        go_wp2
        go_roundw
        case rel => exact ⟨k + 1, by omega, by go_num, by rw [HON.out]; exact t0, q0, b0⟩
        case measure => simp [intOf]; omega
      · rw [if_neg h0] at HON
        have HR := Lib.hid (fun p (hp : p ≤ n) => HRF.out k p hlt h0 hp)
        have HSN : Hid (∀ p, inN mD Z k (p + 1) (outN mD n Z k) = (inN mD Z k p (outN mD n Z k)).set (k + mD k p) (getn (inN mD Z k p (outN mD n Z k)) (k + mD k p) + getn Z k)) := Lib.hid (fun p => rfl)
        have t1 : Row wr (w.heap.size + 1 + 1) 77 (intv (inN mD Z k 0 (outN mD n Z k))) := t0
        have g0 : ((getn Z k : Int) == 0) = false := by simp; exact h0
        have HMR := Lib.hid (fun p w => moreD_any k p w)
        clear t0 h0
        generalize getn Z k = z at *
        generalize outN mD n Z k = O at *
        go_wp2
        go_loopw [20] (fun i wr => ∃ p : Nat, p ≤ n + 1 ∧ i = .int .i64 p ∧ Row wr (w.heap.size + 1 + 1) 77 (intv (inN mD Z k p O)) ∧ Row wr (w.heap.size + 1) 77 (intv Z154) ∧ Below w.heap.size w wr) (fun i _ => n + 1 - (intOf i).toNat)
        case atStart => exact ⟨0, by omega, rfl, t1, q0, b0⟩
        case round =>
          clear q0 b0 t1
          obtain ⟨p, hp, rfl, t0, q0, b0⟩ := hrel
          by_cases hpn : p ≤ n
          · obtain ⟨x1, x2, x3⟩ := HR.out p hpn
            have HSP := Lib.hid (HSN.out p)
            have HMP := Lib.hid (HMR.out p)
            generalize mD k p = μ at *
            generalize hN : inN mD Z k p O = N at *
            have HNN := Lib.hid hN
            clear hN
            have c1 := intv_row t0 (i := k + μ) (by omega)
            have f1 := t0.free (k + μ)
            generalize getn N (k + μ) = y at *
            clear x2
            go_wp2_with (go_at_call 66; refine (HMP.out _).mono ?_; rintro e w2 ⟨rfl, rfl⟩)
            go_roundw
            case rel =>
              refine ⟨p + 1, by omega, by go_num, ?_, q0.far (by dsimp only; omega) _, b0.setCell (by dsimp only; omega) _⟩
              have h := t0.set (k + μ) (.int .i64 ((y + z : Nat) : Int))
              rw [intv_set, ← HSP.out, Int.natCast_add] at h
              exact h
            case measure => simp [intOf]; omega
          · obtain rfl : p = n + 1 := by omega
            rw [← HON.out] at t0
            go_wp2
            go_roundw
            case rel => exact ⟨k + 1, by omega, by go_num, t0, q0, b0⟩
            case measure => simp [intOf]; omega
    · obtain rfl : k = 154 := by omega
      have t1 : Row wr (w.heap.size + 1 + 1) 77 (intv (lon mD n Z)) := t0
      clear t0
      go_wp2_with (first
        | ((with_reducible refine (?_ : wpList _ _ _ (Oper.mk (some 36) _ _ _ _ _ :: _) _ _)); refine wpList_load_row rfl 77 (.tmp 7) rfl (w.heap.size + 1 + 1) rfl 77 (intv (lon mD n Z)).toArray (0, 0) _ (row_heap t1) Try.underlying77 rfl hli ?_)
        | ((with_reducible refine (?_ : wpList _ _ _ (Oper.mk none _ _ _ _ _ :: _) _ _)); refine wpList_store_row rfl 77 (.tmp 6) (.tmp 36) rfl (w.heap.size + 1) (intv (lon mD n Z)).toArray rfl rfl 77 (intv Z154).toArray (row_heap q0) hli (size77_iv (by simp [Z154]) hll) (intv_all _) ?_))
      exact bodyPost_ret (v := .agg (intv (lon mD n Z)).toArray) (res1 Try.results90 rfl (cell77_res hll (q0.row (intv (lon mD n Z))))) rfl ⟨rfl, below_row b0 (by omega) _⟩
end Go.Proofs.Ytheblebfeinjjaa
