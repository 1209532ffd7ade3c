/- Arrays of twelve numbers, and the numbers in ascending order. -/
import Derived.Test.YtheblebfeinjjaaND
namespace Go.Proofs.Ytheblebfeinjjaa
open Go.RowKit
set_option maxHeartbeats 1000000
set_option maxRecDepth 100000
abbrev Z12 : List Value := [.int .i64 0, .int .i64 0, .int .i64 0, .int .i64 0, .int .i64 0, .int .i64 0, .int .i64 0, .int .i64 0, .int .i64 0, .int .i64 0, .int .i64 0, .int .i64 0]
theorem info50 : (Try.prog.info? 50).map (·.size) = some 12 := by kernel_rfl
theorem iv_all (xs : List Int) : (iv xs).toArray.all (·.oneCell') = true := by simp [iv, Value.oneCell']
theorem ivR {w : World} {g : Nat} {t : TypeId} {xs : List Int} (h : Row w g t (iv xs)) {i : Nat} (hi : i < xs.length) : w.cell? ⟨g, i, none⟩ = some (.int .i64 (geti xs i)) := by
  rw [h.cell, iv, List.getElem?_map, List.getElem?_eq_getElem hi, geti_eq hi]; rfl
theorem iv_set {xs : List Int} {i : Nat} {x : Int} : (iv xs).set i (.int .i64 x) = iv (xs.set i x) := by unfold iv; rw [List.map_set]
theorem cell_res {W : World} {k n : Nat} {t e : TypeId} {cs : List Value} {P : Program} (hu : P.underlying t = some (.array n e)) (hi : (P.info? t).map (·.size) = some cs.length) (hr : Row W k t cs) :
    (loadVar t ⟨k, 0, none⟩).run P W = .ok (.agg cs.toArray) W :=
  run_loadVar_row (P := P) W k t t cs.toArray (0, 0) _ hr hu rfl (by rw [List.size_toArray]; exact hi)
theorem info50_iv {x : List Int} (h : x.length = 12) : (Try.prog.info? 50).map (·.size) = some (iv x).toArray.size := by rw [List.size_toArray, iv_len, h]; exact info50
theorem size50_iv {x y : List Int} (h : x.length = 12) (h2 : y.length = 12) : (iv x).toArray.size = (iv y).toArray.size := by rw [List.size_toArray, List.size_toArray, iv_len, iv_len, h, h2]
theorem cell50_res {W : World} {k : Nat} {x : List Int} (h : x.length = 12) (hr : Row W k 50 (iv x)) : (loadVar 50 ⟨k, 0, none⟩).run Try.prog W = .ok (.agg (iv x).toArray) W :=
  cell_res Try.underlying50 (by rw [iv_len, h]; exact info50) hr
theorem res1 {P : Program} {F : Func} {tm : Array Value} {i k : Nat} {t : TypeId} {v : Value} {W : World} (hF : F.results = #[ResultVar.cell i t]) (h0 : tm.getD i undef = .pointer (some ⟨k, 0, none⟩))
    (hl : (loadVar t ⟨k, 0, none⟩).run P W = .ok v W) : (results F tm).run P W = .ok v W := by
  have h0' : tm[i]?.getD undef = .pointer (some ⟨k, 0, none⟩) := by simpa using h0
  simp [results, hF, h0', asAddr, hl]
theorem size50_Z {y : List Int} (h2 : y.length = 12) : Z12.toArray.size = (iv y).toArray.size := by rw [List.size_toArray, List.size_toArray, iv_len, h2]; rfl
/-- A list as the array that has it. -/
def arr (l : List Int) : Value := .agg (iv (pad l)).toArray
theorem pad_set {l : List Int} {x : Int} (h : l.length < 12) : (pad l).set l.length x = pad (l ++ [x]) := by
  unfold pad
  rw [List.set_append_right _ _ (Nat.le_refl _), Nat.sub_self, show 12 - l.length = (12 - (l ++ [x]).length) + 1 by simp; omega, List.replicate_succ, List.set_cons_zero, List.append_assoc]
  rfl
theorem pad_nil : iv (pad []) = Z12 := rfl
theorem asc_snoc (n : Nat) : asc (n + 1) = asc n ++ [(n : Int) + 1] := by
  unfold asc
  rw [List.range_succ, List.map_append]; rfl
theorem ascending_any (n : Nat) (w : World) (hn : n ≤ 12) : Calls Try.prog 70 #[.int .i64 n] w fun e w' => e = .returned (arr (asc n)) ∧ Below w.heap.size w w' := by
  have r0 : Row ((w.alloc (.cells Z12.toArray 50)).alloc (.cells Z12.toArray 50)) w.heap.size 50 Z12 := (row_new rfl).alloc _
  have r1 : Row ((w.alloc (.cells Z12.toArray 50)).alloc (.cells Z12.toArray 50)) (w.heap.size + 1) 50 (iv (pad (asc 0))) := row_new (by simp)
  have b0 : Below w.heap.size w ((w.alloc (.cells Z12.toArray 50)).alloc (.cells Z12.toArray 50)) := ((Below.refl _ w).alloc (Nat.le_refl _) _).alloc (by simp) _
  go_enter Try.func70, Try.ntmps70
  go_wp2
  go_loopw [6] (fun i wr => ∃ k : Nat, k ≤ n ∧ i = .int .i64 k ∧ Row wr (w.heap.size + 1) 50 (iv (pad (asc k))) ∧ Row wr w.heap.size 50 Z12 ∧ Below w.heap.size w wr) (fun i _ => n - (intOf i).toNat)
  case atStart => exact ⟨0, by omega, rfl, r1, r0, b0⟩
  case round =>
    clear r0 r1 b0
    obtain ⟨k, hk, rfl, r1, r0, b0⟩ := hrel
    by_cases hlt : k < n
    · have hp : (pad (asc k)).length = 12 := pad_len (by rw [asc_len]; omega)
      have d0 := ivR r1 (i := k) (by omega)
      have f0 := r1.free k
      have hs := pad_set (l := asc k) (x := (k : Int) + 1) (by rw [asc_len]; omega)
      rw [asc_len, ← asc_snoc] at hs
      have HS := Lib.hid hs
      clear hs hp
      go_wp2
      go_roundw
      case rel =>
        refine ⟨k + 1, by omega, by go_num, ?_, r0.far (by dsimp only; omega) _, b0.setCell (by dsimp only; omega) _⟩
        have h := r1.set k (.int .i64 ((k : Int) + 1))
        rw [iv_set, HS.out] at h
        exact h
      case measure => simp [intOf]; omega
    · obtain rfl : k = n := by omega
      have hl : (pad (asc k)).length = 12 := pad_len (by rw [asc_len]; omega)
      have hi := info50_iv hl
      go_wp2_with (first
        | (refine wpList_load_row rfl 50 (.tmp 3) rfl (w.heap.size + 1) rfl 50 (iv (pad (asc k))).toArray (0, 0) _ (row_heap r1) Try.underlying50 rfl hi ?_)
        | (refine wpList_store_row rfl 50 (.tmp 2) (.tmp 14) rfl w.heap.size (iv (pad (asc k))).toArray rfl rfl 50 Z12.toArray (row_heap r0) hi (size50_Z hl) (iv_all _) ?_))
      exact bodyPost_ret (v := arr (asc k)) (res1 Try.results70 rfl (cell50_res hl (r0.row (iv (pad (asc k)))))) rfl ⟨rfl, below_row b0 (by omega) _⟩
end Go.Proofs.Ytheblebfeinjjaa
