/- Rows that bear a weight; the weight is taken. -/
import Derived.Test.YtnnaaoobdofooaaVB
import Derived.Test.YtnnaaoobdofooaaSG
namespace Go.Proofs.Ytnnaaoobdofooaa
open Go.RowKit
set_option maxHeartbeats 1000000
set_option maxRecDepth 100000
theorem bears_any (K : List (List Int)) (A : Option Addr) (c : Nat) (wt : Int) (xs : List Int) (w : World) (h : IsT K) (hco : colsOk K.length xs = true) (ha : IntsAt w A xs) :
    Calls Try.prog 77 #[.agg (iv (grd K)).toArray, .agg #[.int .i64 wt, .slice A xs.length c]] w fun e w' => e = .returned (.bool (brs K wt xs K.length)) ∧ Below w.heap.size w w' := by
  have hle := h.le
  have hxl := cols_len hco
  have r0 : Row ((w.alloc (.cells (iv (grd K)).toArray 73)).alloc (.cells #[.int .i64 wt, .slice A xs.length c] 69)) w.heap.size 73 (iv (grd K)) := (row_new rfl).alloc _
  have q0 : Row ((w.alloc (.cells (iv (grd K)).toArray 73)).alloc (.cells #[.int .i64 wt, .slice A xs.length c] 69)) (w.heap.size + 1) 69 [.int .i64 wt, .slice A xs.length c] := row_new (by simp)
  have b0 : Below w.heap.size w ((w.alloc (.cells (iv (grd K)).toArray 73)).alloc (.cells #[.int .i64 wt, .slice A xs.length c] 69)) := by (repeat (first | exact Below.refl _ _ | assumption | (refine Below.setCell ?_ (by first | exact Nat.le_refl _ | omega | (simp; done) | (simp; omega)) _) | (refine Below.trans ?_ (below_drewN _)) | (refine Below.drew ?_) | (refine Below.alloc ?_ (by first | exact Nat.le_refl _ | omega | (simp; done) | (simp; omega)) _) | (refine below_row ?_ (by first | exact Nat.le_refl _ | omega | (simp; done) | (simp; omega)) _)))
  have HA := Lib.hid (ha.below b0)
  have HCG : Hid (∀ (W : World) (r c : Nat), r < 10 → c < 10 → Row W w.heap.size 73 (iv (grd K)) → W.cell? ⟨w.heap.size, 1 + r * 10 + c, none⟩ = some (.int .i64 (gat K r c))) := Lib.hid (fun W r c hr hc h => by
    have := ivR h (i := 1 + r * 10 + c) (by unfold grd; rw [grdP_len]; omega)
    rwa [Nat.add_assoc, grd_at K hr hc, ← Nat.add_assoc] at this)
  have HAT := Lib.hid (fun j (hj : j < xs.length) => cols_at hco (r := j) (by omega))
  have HNO := Lib.hid (fun k (hk : k < xs.length) h => brs_no (K := K) (wt := wt) (xs := xs) (k := k) (n := K.length) (by omega) h)
  have HYS := Lib.hid (fun k h0 h => brs_yes (K := K) (wt := wt) (xs := xs) (k := k) h0 h)
  have HXL := Lib.hid hxl
  have HG0 : Hid (brs K wt xs 0 = true) := Lib.hid rfl
  obtain ⟨⟨c0, c1⟩, -⟩ := q0.cells2
  clear ha h hco hxl
  go_enter Try.func77, Try.ntmps77
  go_wp2
  generalize World.alloc (World.alloc _ _) _ = W at *
  go_loopw [10] (fun i wr => ∃ k m : Nat, k ≤ xs.length ∧ i = .int .i64 k ∧ Hid (brs K wt xs k = true) ∧ wr = W.drewN m) (fun i _ => xs.length - (intOf i).toNat)
  case atStart => exact ⟨0, 0, by omega, rfl, HG0, rfl⟩
  case round =>
    clear HG0
    obtain ⟨k, m, hk, rfl, HG, rfl⟩ := hrel
    by_cases hlt : k < xs.length
    · have g1 : decide ((k : Int) < (xs.length : Int)) = true := decide_eq_true (by omega)
      have hkL : k < K.length := by rw [← HXL.out]; exact hlt
      obtain ⟨b, o, rfl, -, f1⟩ := HA.out (by omega)
      have e1 := f1 k hlt
      have hat := HAT.out k hlt
      have HN1 := Lib.hid (HNO.out k hlt)
      have HY1 := Lib.hid (HYS.out k HG.out)
      clear f1
      generalize geti xs k = x at *
      obtain ⟨X, rfl⟩ : ∃ X : Nat, x = X := ⟨x.toNat, by omega⟩
      have e3 := HCG.out _ k X (by omega) (by omega) r0
      rw [Int.toNat_natCast] at HN1 HY1
      have hX10 : X < 10 := by omega
      have hk10 : k < 10 := by omega
      clear hat
      generalize gat K k X = y at *
      by_cases h0 : y < wt
      · have g2 : decide (y < wt) = true := decide_eq_true h0
        have HF := Lib.hid (HN1.out h0)
        clear h0
        go_wp2
        refine wp_region_quiet_lit (by kernel_rfl) (by kernel_rfl) ?_
        repeat go_big_quiet_step ((fail))
        refine wpQuiet_nil ?_
        rintro _ ⟨nq, rfl⟩
        go_wp2
        go_ret
        exact ⟨by rw [HF.out]; rfl, b0.trans (by first | exact below_drewN _ | (rw [World.drewN_drewN]; exact below_drewN _))⟩
      · have g2 : decide (y < wt) = false := decide_eq_false h0
        have HG2 := Lib.hid (HY1.out (Int.not_lt.1 h0))
        clear h0
        go_wp2
        refine wp_region_quiet_lit (by kernel_rfl) (by kernel_rfl) ?_
        repeat go_big_quiet_step ((fail))
        refine wpQuiet_nil ?_
        rintro _ ⟨nq, rfl⟩
        go_wp2
        first
          | (go_roundw
             case rel => exact ⟨k + 1, m + nq, by omega, by go_num, HG2, (by first | rfl | exact World.drewN_drewN _ _ _)⟩
             case measure => simp [intOf]; omega)
          | exact ⟨⟨k + 1, m + nq, by omega, by go_num, HG2, (by first | rfl | exact World.drewN_drewN _ _ _)⟩, by simp [intOf]; omega⟩
    · obtain rfl : k = xs.length := by omega
      have g1 : decide ((xs.length : Int) < (xs.length : Int)) = false := decide_eq_false (by omega)
      have HF := Lib.hid HG.out
      go_wp2
      go_ret
      exact ⟨by rw [← HXL.out, HF.out]; rfl, b0.trans (below_drewN _)⟩
theorem take_any (K : List (List Int)) (A : Option Addr) (c g : Nat) (wt : Int) (xs : List Int) (w : World) (h : IsT K) (h1 : 1 ≤ wt) (hw : wt ≤ 9 ∨ K.length = 0) (hco : colsOk K.length xs = true) (hb : brs K wt xs K.length = true) (ha : IntsAt w A xs) (hr : Row w g 73 (iv (grd K))) (hA : 0 < xs.length → ∀ b o, A = some ⟨b, o, none⟩ → b < g) :
    Calls Try.prog 76 #[.pointer (some ⟨g, 0, none⟩), .agg #[.int .i64 wt, .slice A xs.length c]] w fun e w' => e = .returned (.tuple #[]) ∧ Row w' g 73 (iv (grd (subP K wt xs K.length))) ∧ Below g w w' := by
  have hle := h.le
  have hxl := cols_len hco
  have hgl := hr.lt
  have r0 : Row (w.alloc (.cells #[.int .i64 wt, .slice A xs.length c] 69)) g 73 (iv (grd (subP K wt xs 0))) := hr.alloc _
  have q0 : Row (w.alloc (.cells #[.int .i64 wt, .slice A xs.length c] 69)) w.heap.size 69 [.int .i64 wt, .slice A xs.length c] := row_new (by simp)
  have b0 : Below g w (w.alloc (.cells #[.int .i64 wt, .slice A xs.length c] 69)) := (Below.refl g w).alloc (by omega) _
  have HA := Lib.hid (fun (V : World) (hV : Below g w V) (hp : 0 < xs.length) => (by
    obtain ⟨b, o, e, hbl, hc⟩ := ha hp
    exact ⟨b, o, e, fun i hi => by rw [hV.cell (p := ⟨b, o + i, none⟩) (hA hp b o e)]; exact hc i hi⟩ : ∃ b o, A = some ⟨b, o, none⟩ ∧ ∀ i, i < xs.length → V.cell? ⟨b, o + i, none⟩ = some (.int .i64 (geti xs i))))
  have HAT := Lib.hid (fun j (hj : j < xs.length) => cols_at hco (r := j) (by omega))
  have HIS : Hid (∀ k, k ≤ K.length → IsT (subP K wt xs k)) := Lib.hid (fun k hk => subP_isT h h1 hco hb hk)
  have HLN := Lib.hid (fun k => subP_len K wt xs k)
  have HRW := Lib.hid (fun k (hk : k ≤ K.length) r (hr : r < K.length) => subP_row h.row wt xs k hk r hr)
  have HSO := Lib.hid (fun k (hk : k < K.length) => subP_own (wt := wt) h.row hco hk)
  have HBD := Lib.hid (fun r c => h.bd r c)
  have HGS : Hid (∀ k (hk : k < K.length), (iv (grd (subP K wt xs k))).set (1 + k * 10 + (geti xs k).toNat) (.int .i64 (gat K k (geti xs k).toNat - wt)) = iv (grd (subP K wt xs (k + 1)))) := Lib.hid (fun k hk => by
    have hx := cols_at hco (r := k) hk
    have h2 := HRW.out k (by omega) k hk
    rw [grd_set (by rw [subP_len]; exact hle) (by rw [subP_len]; exact hk) (by rw [h2]; omega) (by omega)]
    have e : subP K wt xs (k + 1) = setT (subP K wt xs k) k (geti xs k).toNat (gat (subP K wt xs k) k (geti xs k).toNat - wt) := rfl
    rw [e, HSO.out k hk])
  have HCG : Hid (∀ (V : World) (k : Nat), k < K.length → Row V g 73 (iv (grd (subP K wt xs k))) → V.cell? ⟨g, 1 + k * 10 + (geti xs k).toNat, none⟩ = some (.int .i64 (gat K k (geti xs k).toNat))) := Lib.hid (fun V k hk hV => by
    have hx := cols_at hco (r := k) hk
    have := ivR hV (i := 1 + k * 10 + (geti xs k).toNat) (by unfold grd; rw [grdP_len]; omega)
    rw [Nat.add_assoc, grd_at _ (by omega) (by omega), HSO.out k hk, ← Nat.add_assoc] at this
    exact this)
  have HXL := Lib.hid hxl
  obtain ⟨⟨c0, c1⟩, -⟩ := q0.cells2
  clear ha h hco hxl hb hr hA
  go_enter Try.func76, Try.ntmps76
  go_wp2
  have hs0 : w.heap.size < (w.alloc (.cells #[.int .i64 wt, .slice A xs.length c] 69)).heap.size := by simp
  generalize World.alloc w _ = W at *
  go_loopw [9] (fun i wr => ∃ k : Nat, k ≤ xs.length ∧ i = .int .i64 k ∧ Row wr g 73 (iv (grd (subP K wt xs k))) ∧ Row wr w.heap.size 69 [.int .i64 wt, .slice A xs.length c] ∧ Below g w wr) (fun i _ => xs.length - (intOf i).toNat)
  case atStart => exact ⟨0, by omega, rfl, r0, q0, b0⟩
  case round =>
    clear r0 q0 b0 c0 c1
    obtain ⟨k, hk, rfl, r0, q0, b0⟩ := hrel
    obtain ⟨⟨c0, c1⟩, -⟩ := q0.cells2
    by_cases hlt : k < xs.length
    · have g1 : decide ((k : Int) < (xs.length : Int)) = true := decide_eq_true (by omega)
      have hkL : k < K.length := by rw [← HXL.out]; exact hlt
      obtain ⟨b, o, hAe, f1⟩ := HA.out wr b0 (by omega)
      subst hAe
      have e1 := f1 k hlt
      have hat := HAT.out k hlt
      have e3 := HCG.out wr k hkL r0
      have HGS1 := Lib.hid (HGS.out k hkL)
      have hbd := HBD.out k (geti xs k).toNat
      clear f1
      generalize geti xs k = x at *
      obtain ⟨X, rfl⟩ : ∃ X : Nat, x = X := ⟨x.toNat, by omega⟩
      rw [Int.toNat_natCast] at e3 HGS1 hbd
      have hX10 : X < 10 := by omega
      have hk10 : k < 10 := by omega
      have hw9 : wt ≤ 9 := by omega
      obtain ⟨hy0, hy9⟩ := hbd
      have e4 := r0.free (1 + k * 10 + X)
      clear hat
      generalize gat K k X = y at *
      go_wp2
      refine wp_region_quiet_tail 15 (by kernel_rfl) (by kernel_rfl) ?_
      simp only [List.take_succ_cons, List.take_zero, List.drop_succ_cons, List.drop_zero]
      repeat go_big_quiet_step ((fail))
      refine wpQuiet_nil ?_
      rintro _ ⟨nq, rfl⟩
      go_wp2
      exact ⟨⟨k + 1, by omega, by go_num, by
          have hq := (r0.drewN nq).set (1 + k * 10 + X) (.int .i64 (y - wt))
          rw [HGS1.out] at hq
          exact hq, (q0.drewN nq).far (by dsimp only; omega) _, (b0.trans (below_drewN nq)).setCell (Nat.le_refl g) _⟩, by simp [intOf]; omega⟩
    · obtain rfl : k = xs.length := by omega
      have g1 : decide ((xs.length : Int) < (xs.length : Int)) = false := decide_eq_false (by omega)
      go_wp2
      go_end0
      exact ⟨rfl, by rw [← HXL.out]; exact r0, b0⟩
end Go.Proofs.Ytnnaaoobdofooaa
