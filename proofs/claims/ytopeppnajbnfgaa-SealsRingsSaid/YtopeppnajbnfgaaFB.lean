/- Counts of letters: half, sum, difference. -/
import Derived.Test.YtopeppnajbnfgaaFA
namespace Go.Proofs.Ytopeppnajbnfgaa
open Go.RowKit
set_option maxHeartbeats 1000000
set_option maxRecDepth 100000
abbrev Z4 : List Value := [.int .i64 0, .int .i64 0, .int .i64 0, .int .i64 0]
theorem info51 : (Try.prog.info? 51).map (·.size) = some 4 := by kernel_rfl
theorem iv_all (xs : List Int) : (iv xs).toArray.all (·.oneCell') = true := by simp [iv, Value.oneCell']
theorem ivR {w : World} {g : Nat} {t : TypeId} {xs : List Int} (h : Row w g t (iv xs)) {i : Nat} (hi : i < xs.length) : w.cell? ⟨g, i, none⟩ = some (.int .i64 (geti xs i)) := by
  rw [h.cell, iv, List.getElem?_map, List.getElem?_eq_getElem hi, geti_eq hi]; rfl
theorem iv_set {xs : List Int} {i : Nat} {x : Int} : (iv xs).set i (.int .i64 x) = iv (xs.set i x) := by unfold iv; rw [List.map_set]
/-- So many are of the new list. -/
def mix (z x : List Int) (k : Nat) : List Int := z.take k ++ x.drop k
theorem mix_zero (z x : List Int) : mix z x 0 = x := by simp [mix]
theorem mix_all {z x : List Int} {n : Nat} (h1 : z.length = n) (h2 : x.length = n) : mix z x n = z := by
  unfold mix; rw [List.take_of_length_le (by omega), List.drop_eq_nil_of_le (by omega), List.append_nil]
theorem mix_len {z x : List Int} {k : Nat} (h : z.length = x.length) : (mix z x k).length = x.length := by simp [mix]; omega
theorem mix_at {z x : List Int} {k : Nat} (h : z.length = x.length) (hk : k < x.length) : geti (mix z x k) k = geti x k := by
  unfold geti mix
  rw [List.getD_eq_getElem?_getD, List.getD_eq_getElem?_getD, List.getElem?_append_right (by simp; omega)]
  have e : (z.take k).length = k := by rw [List.length_take]; omega
  rw [e, Nat.sub_self, List.getElem?_drop, Nat.add_zero]
theorem mix_step {z x : List Int} {k : Nat} (h : z.length = x.length) (hk : k < x.length) : (mix z x k).set k (geti z k) = mix z x (k + 1) := by
  have hk2 : k < z.length := by omega
  have e : z.take (k + 1) = z.take k ++ [geti z k] := by rw [List.take_succ_eq_append_getElem hk2, geti_eq hk2]
  have l : (z.take k).length = k := by rw [List.length_take]; omega
  unfold mix
  rw [e, List.set_append_right _ _ (by omega), l, Nat.sub_self, List.drop_eq_getElem_cons hk, List.set_cons_zero, List.append_assoc]
  rfl
/-- Each number is small. -/
def Sm (x : List Int) : Prop := x.length = 4 ∧ ∀ i, i < 4 → -1000000 ≤ geti x i ∧ geti x i ≤ 1000000
def halfL (x : List Int) : List Int := x.map fun a => a.tdiv 2
def addL (x y : List Int) : List Int := List.zipWith (· + ·) x y
def subL (x y : List Int) : List Int := List.zipWith (· - ·) x y
theorem halfL_at {x : List Int} {i : Nat} (h : i < x.length) : geti (halfL x) i = (geti x i).tdiv 2 := by
  have h2 : i < (halfL x).length := by simpa [halfL] using h
  rw [geti_eq h2, geti_eq h]; simp [halfL]
theorem addL_at {x y : List Int} {i : Nat} (h : i < x.length) (h2 : i < y.length) : geti (addL x y) i = geti x i + geti y i := by
  have h3 : i < (addL x y).length := by simp [addL]; omega
  rw [geti_eq h3, geti_eq h, geti_eq h2]; simp [addL]
theorem subL_at {x y : List Int} {i : Nat} (h : i < x.length) (h2 : i < y.length) : geti (subL x y) i = geti x i - geti y i := by
  have h3 : i < (subL x y).length := by simp [subL]; omega
  rw [geti_eq h3, geti_eq h, geti_eq h2]; simp [subL]
theorem cell_res {W : World} {k n : Nat} {t e : TypeId} {cs : List Value} {P : Program} (hu : P.underlying t = some (.array n e)) (hi : (P.info? t).map (·.size) = some cs.length) (hr : Row W k t cs) :
    (loadVar t ⟨k, 0, none⟩).run P W = .ok (.agg cs.toArray) W :=
  run_loadVar_row (P := P) W k t t cs.toArray (0, 0) _ hr hu rfl (by rw [List.size_toArray]; exact hi)
theorem info51_iv {x : List Int} (h : x.length = 4) : (Try.prog.info? 51).map (·.size) = some (iv x).toArray.size := by rw [List.size_toArray, iv_len, h]; exact info51
theorem size51_iv {x : List Int} (h : x.length = 4) : Z4.toArray.size = (iv x).toArray.size := by rw [List.size_toArray, List.size_toArray, iv_len, h]; rfl
theorem cell4_res {W : World} {k : Nat} {x : List Int} (h : x.length = 4) (hr : Row W k 51 (iv x)) : (loadVar 51 ⟨k, 0, none⟩).run Try.prog W = .ok (.agg (iv x).toArray) W :=
  cell_res Try.underlying51 (by rw [iv_len, h]; exact info51) hr
theorem res1 {P : Program} {F : Func} {tm : Array Value} {i k : Nat} {t : TypeId} {v : Value} {W : World} (hF : F.results = #[ResultVar.cell i t]) (h0 : tm.getD i undef = .pointer (some ⟨k, 0, none⟩))
    (hl : (loadVar t ⟨k, 0, none⟩).run P W = .ok v W) : (results F tm).run P W = .ok v W := by
  have h0' : tm[i]?.getD undef = .pointer (some ⟨k, 0, none⟩) := by simpa using h0
  simp [results, hF, h0', asAddr, hl]
theorem half_any (x : List Int) (w : World) (hx : Sm x) : Calls Try.prog 52 #[.agg (iv x).toArray] w fun e w' => e = .returned (.agg (iv (halfL x)).toArray) ∧ Below w.heap.size w w' := by
  obtain ⟨hl, hb⟩ := hx
  have hlh : (halfL x).length = x.length := by simp [halfL]
  have r0 : Row ((w.alloc (.cells (iv x).toArray 51)).alloc (.cells Z4.toArray 51)) w.heap.size 51 (iv (mix (halfL x) x 0)) := by rw [mix_zero]; exact (row_new rfl).alloc _
  have r1 : Row ((w.alloc (.cells (iv x).toArray 51)).alloc (.cells Z4.toArray 51)) (w.heap.size + 1) 51 Z4 := row_new (by simp)
  have b0 : Below w.heap.size w ((w.alloc (.cells (iv x).toArray 51)).alloc (.cells Z4.toArray 51)) := ((Below.refl _ w).alloc (Nat.le_refl _) _).alloc (by simp) _
  go_enter Try.func52, Try.ntmps52
  go_wp2
  go_loopw [4] (fun i wr => ∃ k : Nat, k ≤ 4 ∧ i = .int .i64 k ∧ Row wr w.heap.size 51 (iv (mix (halfL x) x k)) ∧ Row wr (w.heap.size + 1) 51 Z4 ∧ Below w.heap.size w wr) (fun i _ => 4 - (intOf i).toNat)
  case atStart => exact ⟨0, by omega, rfl, r0, r1, b0⟩
  case round =>
    clear r0 r1 b0
    obtain ⟨k, hk, rfl, r0, r1, b0⟩ := hrel
    by_cases hlt : k < 4
    · have d0 : wr.cell? ⟨w.heap.size, k, none⟩ = some (.int .i64 (geti x k)) := by have := ivR r0 (i := k) (by rw [mix_len hlh]; omega); rwa [mix_at hlh (by omega)] at this
      have f0 := r0.free k
      obtain ⟨b1, b2⟩ := hb k hlt
      have hh := halfL_at (x := x) (i := k) (by omega)
      have hs := mix_step hlh (k := k) (by omega)
      rw [hh] at hs
      generalize geti x k = x0 at *
      clear hh
      go_wp2
      go_roundw
      case rel =>
        refine ⟨k + 1, by omega, by go_num, ?_, r1.far (by dsimp only; omega) _, b0.setCell (by dsimp only; omega) _⟩
        have h := r0.set k (.int .i64 (x0.tdiv 2))
        rw [iv_set, hs] at h
        exact h
      case measure => simp [intOf]; omega
    · obtain rfl : k = 4 := by omega
      rw [mix_all (by omega) (by omega)] at r0
      have hi := info51_iv (hlh.trans hl)
      go_wp2_with (first
        | (refine wpList_load_row rfl 51 (.tmp 1) rfl w.heap.size rfl 51 (iv (halfL x)).toArray (0, 0) _ (row_heap r0) Try.underlying51 rfl hi ?_)
        | (refine wpList_store_row rfl 51 (.tmp 2) (.tmp 13) rfl (w.heap.size + 1) (iv (halfL x)).toArray rfl rfl 51 Z4.toArray (row_heap r1) hi (size51_iv (hlh.trans hl)) (iv_all _) ?_))
      exact bodyPost_ret (v := .agg (iv (halfL x)).toArray) (res1 Try.results52 rfl (cell4_res (hlh.trans hl) (r1.row (iv (halfL x))))) rfl ⟨rfl, below_row b0 (by omega) _⟩
theorem plus_any (x y : List Int) (w : World) (hx : Sm x) (hy : Sm y) : Calls Try.prog 53 #[.agg (iv x).toArray, .agg (iv y).toArray] w fun e w' => e = .returned (.agg (iv (addL x y)).toArray) ∧ Below w.heap.size w w' := by
  obtain ⟨hl, hb⟩ := hx
  obtain ⟨hl', hb'⟩ := hy
  have hlh : (addL x y).length = x.length := by simp [addL]; omega
  have r0 : Row (((w.alloc (.cells (iv x).toArray 51)).alloc (.cells (iv y).toArray 51)).alloc (.cells Z4.toArray 51)) w.heap.size 51 (iv (mix (addL x y) x 0)) := by rw [mix_zero]; exact ((row_new rfl).alloc _).alloc _
  have r2 : Row (((w.alloc (.cells (iv x).toArray 51)).alloc (.cells (iv y).toArray 51)).alloc (.cells Z4.toArray 51)) (w.heap.size + 1) 51 (iv y) := (row_new (by simp)).alloc _
  have r1 : Row (((w.alloc (.cells (iv x).toArray 51)).alloc (.cells (iv y).toArray 51)).alloc (.cells Z4.toArray 51)) (w.heap.size + 2) 51 Z4 := row_new (by simp)
  have b0 : Below w.heap.size w (((w.alloc (.cells (iv x).toArray 51)).alloc (.cells (iv y).toArray 51)).alloc (.cells Z4.toArray 51)) := (((Below.refl _ w).alloc (Nat.le_refl _) _).alloc (by simp) _).alloc (by simp; omega) _
  go_enter Try.func53, Try.ntmps53
  go_wp2
  go_loopw [6] (fun i wr => ∃ k : Nat, k ≤ 4 ∧ i = .int .i64 k ∧ Row wr w.heap.size 51 (iv (mix (addL x y) x k)) ∧ Row wr (w.heap.size + 1) 51 (iv y) ∧ Row wr (w.heap.size + 2) 51 Z4 ∧ Below w.heap.size w wr) (fun i _ => 4 - (intOf i).toNat)
  case atStart => exact ⟨0, by omega, rfl, r0, r2, r1, b0⟩
  case round =>
    clear r0 r1 r2 b0
    obtain ⟨k, hk, rfl, r0, r2, r1, b0⟩ := hrel
    by_cases hlt : k < 4
    · have d0 : wr.cell? ⟨w.heap.size, k, none⟩ = some (.int .i64 (geti x k)) := by have := ivR r0 (i := k) (by rw [mix_len hlh]; omega); rwa [mix_at hlh (by omega)] at this
      have d2 : wr.cell? ⟨w.heap.size + 1, k, none⟩ = some (.int .i64 (geti y k)) := ivR r2 (by omega)
      have f0 := r0.free k
      obtain ⟨b1, b2⟩ := hb k hlt
      obtain ⟨b3, b4⟩ := hb' k hlt
      have hh := addL_at (x := x) (y := y) (i := k) (by omega) (by omega)
      have hs := mix_step hlh (k := k) (by omega)
      rw [hh] at hs
      clear hh
      generalize geti x k = x0 at *
      generalize geti y k = y0 at *
      go_wp2
      refine wp_region_quiet_tail 8 (by kernel_rfl) (by kernel_rfl) ?_
      simp only [List.take_succ_cons, List.take_zero, List.drop_succ_cons, List.drop_zero]
      repeat go_big_quiet_step ((fail))
      refine wpQuiet_nil ?_
      rintro _ ⟨nq, rfl⟩
      have d0' : (wr.drewN nq).cell? ⟨w.heap.size, k, none⟩ = some (.int .i64 x0) := d0
      have f0' : (wr.drewN nq).frozen? ⟨w.heap.size, k, none⟩ = false := f0
      clear d0 d2 f0
      go_wp2
      go_roundw
      case rel =>
        refine ⟨k + 1, by omega, by go_num, ?_, (r2.drewN nq).far (by dsimp only; omega) _, (r1.drewN nq).far (by dsimp only; omega) _, (b0.trans (below_drewN nq)).setCell (by dsimp only; omega) _⟩
        have h := (r0.drewN nq).set k (.int .i64 (x0 + y0))
        rw [iv_set, hs] at h
        exact h
      case measure => simp [intOf]; omega
    · obtain rfl : k = 4 := by omega
      rw [mix_all (by omega) (by omega)] at r0
      have hi := info51_iv (hlh.trans hl)
      go_wp2_with (first
        | (refine wpList_load_row rfl 51 (.tmp 2) rfl w.heap.size rfl 51 (iv (addL x y)).toArray (0, 0) _ (row_heap r0) Try.underlying51 rfl hi ?_)
        | (refine wpList_store_row rfl 51 (.tmp 4) (.tmp 18) rfl (w.heap.size + 2) (iv (addL x y)).toArray rfl rfl 51 Z4.toArray (row_heap r1) hi (size51_iv (hlh.trans hl)) (iv_all _) ?_))
      exact bodyPost_ret (v := .agg (iv (addL x y)).toArray) (res1 Try.results53 rfl (cell4_res (hlh.trans hl) (r1.row (iv (addL x y))))) rfl ⟨rfl, below_row b0 (by omega) _⟩
theorem minus_any (x y : List Int) (w : World) (hx : Sm x) (hy : Sm y) : Calls Try.prog 59 #[.agg (iv x).toArray, .agg (iv y).toArray] w fun e w' => e = .returned (.agg (iv (subL x y)).toArray) ∧ Below w.heap.size w w' := by
  obtain ⟨hl, hb⟩ := hx
  obtain ⟨hl', hb'⟩ := hy
  have hlh : (subL x y).length = x.length := by simp [subL]; omega
  have r0 : Row (((w.alloc (.cells (iv x).toArray 51)).alloc (.cells (iv y).toArray 51)).alloc (.cells Z4.toArray 51)) w.heap.size 51 (iv (mix (subL x y) x 0)) := by rw [mix_zero]; exact ((row_new rfl).alloc _).alloc _
  have r2 : Row (((w.alloc (.cells (iv x).toArray 51)).alloc (.cells (iv y).toArray 51)).alloc (.cells Z4.toArray 51)) (w.heap.size + 1) 51 (iv y) := (row_new (by simp)).alloc _
  have r1 : Row (((w.alloc (.cells (iv x).toArray 51)).alloc (.cells (iv y).toArray 51)).alloc (.cells Z4.toArray 51)) (w.heap.size + 2) 51 Z4 := row_new (by simp)
  have b0 : Below w.heap.size w (((w.alloc (.cells (iv x).toArray 51)).alloc (.cells (iv y).toArray 51)).alloc (.cells Z4.toArray 51)) := (((Below.refl _ w).alloc (Nat.le_refl _) _).alloc (by simp) _).alloc (by simp; omega) _
  go_enter Try.func59, Try.ntmps59
  go_wp2
  go_loopw [6] (fun i wr => ∃ k : Nat, k ≤ 4 ∧ i = .int .i64 k ∧ Row wr w.heap.size 51 (iv (mix (subL x y) x k)) ∧ Row wr (w.heap.size + 1) 51 (iv y) ∧ Row wr (w.heap.size + 2) 51 Z4 ∧ Below w.heap.size w wr) (fun i _ => 4 - (intOf i).toNat)
  case atStart => exact ⟨0, by omega, rfl, r0, r2, r1, b0⟩
  case round =>
    clear r0 r1 r2 b0
    obtain ⟨k, hk, rfl, r0, r2, r1, b0⟩ := hrel
    by_cases hlt : k < 4
    · have d0 : wr.cell? ⟨w.heap.size, k, none⟩ = some (.int .i64 (geti x k)) := by have := ivR r0 (i := k) (by rw [mix_len hlh]; omega); rwa [mix_at hlh (by omega)] at this
      have d2 : wr.cell? ⟨w.heap.size + 1, k, none⟩ = some (.int .i64 (geti y k)) := ivR r2 (by omega)
      have f0 := r0.free k
      obtain ⟨b1, b2⟩ := hb k hlt
      obtain ⟨b3, b4⟩ := hb' k hlt
      have hh := subL_at (x := x) (y := y) (i := k) (by omega) (by omega)
      have hs := mix_step hlh (k := k) (by omega)
      rw [hh] at hs
      clear hh
      generalize geti x k = x0 at *
      generalize geti y k = y0 at *
      go_wp2
      refine wp_region_quiet_tail 8 (by kernel_rfl) (by kernel_rfl) ?_
      simp only [List.take_succ_cons, List.take_zero, List.drop_succ_cons, List.drop_zero]
      repeat go_big_quiet_step ((fail))
      refine wpQuiet_nil ?_
      rintro _ ⟨nq, rfl⟩
      have d0' : (wr.drewN nq).cell? ⟨w.heap.size, k, none⟩ = some (.int .i64 x0) := d0
      have f0' : (wr.drewN nq).frozen? ⟨w.heap.size, k, none⟩ = false := f0
      clear d0 d2 f0
      go_wp2
      go_roundw
      case rel =>
        refine ⟨k + 1, by omega, by go_num, ?_, (r2.drewN nq).far (by dsimp only; omega) _, (r1.drewN nq).far (by dsimp only; omega) _, (b0.trans (below_drewN nq)).setCell (by dsimp only; omega) _⟩
        have h := (r0.drewN nq).set k (.int .i64 (x0 - y0))
        rw [iv_set, hs] at h
        exact h
      case measure => simp [intOf]; omega
    · obtain rfl : k = 4 := by omega
      rw [mix_all (by omega) (by omega)] at r0
      have hi := info51_iv (hlh.trans hl)
      go_wp2_with (first
        | (refine wpList_load_row rfl 51 (.tmp 2) rfl w.heap.size rfl 51 (iv (subL x y)).toArray (0, 0) _ (row_heap r0) Try.underlying51 rfl hi ?_)
        | (refine wpList_store_row rfl 51 (.tmp 4) (.tmp 18) rfl (w.heap.size + 2) (iv (subL x y)).toArray rfl rfl 51 Z4.toArray (row_heap r1) hi (size51_iv (hlh.trans hl)) (iv_all _) ?_))
      exact bodyPost_ret (v := .agg (iv (subL x y)).toArray) (res1 Try.results59 rfl (cell4_res (hlh.trans hl) (r1.row (iv (subL x y))))) rfl ⟨rfl, below_row b0 (by omega) _⟩
end Go.Proofs.Ytopeppnajbnfgaa
