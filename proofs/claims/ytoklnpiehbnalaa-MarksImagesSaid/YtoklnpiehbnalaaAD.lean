/- Counts of letters. -/
import Derived.Test.YtoklnpiehbnalaaAC
import Derived.Laws.StructEq
namespace Go.Proofs.Ytoklnpiehbnalaa
open Go.RowKit Go.PlainAid
set_option maxHeartbeats 1000000
set_option maxRecDepth 100000
abbrev Z4 : List Value := [.int .i64 0, .int .i64 0, .int .i64 0, .int .i64 0]
theorem info78 : (Try.prog.info? 78).map (·.size) = some 4 := by kernel_rfl
theorem iv_all (xs : List Int) : (iv xs).toArray.all (·.oneCell') = true := by simp [iv, Value.oneCell']
theorem ivR {w : World} {g : Nat} {t : TypeId} {xs : List Int} (h : Row w g t (iv xs)) {i : Nat} (hi : i < xs.length) : w.cell? ⟨g, i, none⟩ = some (.int .i64 (geti xs i)) := by
  rw [h.cell, iv, List.getElem?_map, List.getElem?_eq_getElem hi, geti_eq hi]; rfl
theorem iv_set {xs : List Int} {i : Nat} {x : Int} : (iv xs).set i (.int .i64 x) = iv (xs.set i x) := by unfold iv; rw [List.map_set]
theorem cell_res {W : World} {k n : Nat} {t e : TypeId} {cs : List Value} {P : Program} (hu : P.underlying t = some (.array n e)) (hi : (P.info? t).map (·.size) = some cs.length) (hr : Row W k t cs) :
    (loadVar t ⟨k, 0, none⟩).run P W = .ok (.agg cs.toArray) W :=
  run_loadVar_row (P := P) W k t t cs.toArray (0, 0) _ hr hu rfl (by rw [List.size_toArray]; exact hi)
theorem info78_iv {x : List Int} (h : x.length = 4) : (Try.prog.info? 78).map (·.size) = some (iv x).toArray.size := by rw [List.size_toArray, iv_len, h]; exact info78
theorem size78_iv {x : List Int} (h : x.length = 4) : Z4.toArray.size = (iv x).toArray.size := by rw [List.size_toArray, List.size_toArray, iv_len, h]; rfl
theorem cell4_res {W : World} {k : Nat} {x : List Int} (h : x.length = 4) (hr : Row W k 78 (iv x)) : (loadVar 78 ⟨k, 0, none⟩).run Try.prog W = .ok (.agg (iv x).toArray) W :=
  cell_res Try.underlying78 (by rw [iv_len, h]; exact info78) hr
theorem res1 {P : Program} {F : Func} {tm : Array Value} {i k : Nat} {t : TypeId} {v : Value} {W : World} (hF : F.results = #[ResultVar.cell i t]) (h0 : tm.getD i undef = .pointer (some ⟨k, 0, none⟩))
    (hl : (loadVar t ⟨k, 0, none⟩).run P W = .ok v W) : (results F tm).run P W = .ok v W := by
  have h0' : tm[i]?.getD undef = .pointer (some ⟨k, 0, none⟩) := by simpa using h0
  simp [results, hF, h0', asAddr, hl]
/-- How often each letter occurs, as numbers of the program. -/
def cntI (x : List Nat) : List Int := [(x.count 0 : Int), (x.count 1 : Int), (x.count 2 : Int), (x.count 3 : Int)]
theorem cntI_len (x : List Nat) : (cntI x).length = 4 := rfl
theorem cntI_iff (x y : List Nat) : cntI x = cntI y ↔ cntL x = cntL y := by
  unfold cntI cntL
  simp only [List.cons.injEq, and_true]
  omega
theorem cntI_at (x : List Nat) {c : Nat} (hc : c < 4) : geti (cntI x) c = (x.count c : Int) := by
  match c, hc with
  | 0, _ => rfl
  | 1, _ => rfl
  | 2, _ => rfl
  | 3, _ => rfl
theorem cntI_step (x : List Nat) {c : Nat} (hc : c < 4) : (cntI x).set c ((x.count c : Int) + 1) = cntI (x ++ [c]) := by
  match c, hc with
  | 0, _ => simp [cntI, List.count_append]
  | 1, _ => simp [cntI, List.count_append]
  | 2, _ => simp [cntI, List.count_append]
  | 3, _ => simp [cntI, List.count_append]
theorem take_snocN {x : List Nat} {j : Nat} (h : j < x.length) : x.take (j + 1) = x.take j ++ [x.getD j 0] := by
  rw [List.take_add_one, List.getElem?_eq_getElem h, List.getD_eq_getElem?_getD, List.getElem?_eq_getElem h]; rfl
theorem getD_lt {x : List Nat} (h : okW x) {j : Nat} (hj : j < x.length) : x.getD j 0 < 4 := by
  rw [List.getD_eq_getElem?_getD, List.getElem?_eq_getElem hj]
  exact h _ (List.getElem_mem hj)
theorem count_any (x : List Nat) (w : World) (hx : okW x) (hl : x.length ≤ 100000) :
    Calls Try.prog 57 #[.string (wS x)] w fun e w' => e = .returned (.agg (iv (cntI x)).toArray) ∧ Below w.heap.size w w' := by
  have hz := wS_len x
  have hb := get_bt (wS x)
  have HB := Lib.hid (fun j (hj : j < x.length) => bt_wS hx hj)
  have HL := Lib.hid (fun j (hj : j < x.length) => getD_lt hx hj)
  have HS := Lib.hid (fun j (hj : j < x.length) => take_snocN hj)
  have HT := Lib.hid (show x.take x.length = x from List.take_length)
  have HC : Hid (∀ j, (x.take j).count (x.getD j 0) ≤ 100000) := Lib.hid (fun j => by
    have := List.count_le_length (a := x.getD j 0) (l := x.take j)
    rw [List.length_take] at this; omega)
  have r0 : Row ((w.alloc (.cells Z4.toArray 78)).alloc (.cells Z4.toArray 78)) (w.heap.size + 1) 78 (iv (cntI (x.take 0))) := by rw [List.take_zero]; exact row_new (by simp)
  have r1 : Row ((w.alloc (.cells Z4.toArray 78)).alloc (.cells Z4.toArray 78)) w.heap.size 78 Z4 := (row_new rfl).alloc _
  have b0 : Below w.heap.size w ((w.alloc (.cells Z4.toArray 78)).alloc (.cells Z4.toArray 78)) := ((Below.refl _ w).alloc (Nat.le_refl _) _).alloc (by simp) _
  obtain ⟨N, hN⟩ : ∃ N, x.length = N := ⟨_, rfl⟩
  rw [hN] at hz hl HB HL HS HT
  generalize wS x = s at *
  subst hz
  clear hN hx
  go_enter Try.func57, Try.ntmps57
  go_wp2
  go_loopw [7] (fun i wr => ∃ j : Nat, i = .int .i64 j ∧ j ≤ s.size ∧ Row wr (w.heap.size + 1) 78 (iv (cntI (x.take j))) ∧ Row wr w.heap.size 78 Z4 ∧ Below w.heap.size w wr) (fun i _ => s.size - (intOf i).toNat)
  case atStart => exact ⟨0, rfl, by omega, r0, r1, b0⟩
  case round =>
    clear r0 r1 b0
    obtain ⟨j, rfl, hj, r0, r1, b0⟩ := hrel
    by_cases hlt : j < s.size
    · have g1 : decide (j < s.size) = true := decide_eq_true hlt
      have hbj := hb j hlt
      rw [HB.out j hlt] at hbj
      have hc4 := HL.out j hlt
      have HS1 := Lib.hid (HS.out j hlt)
      have hcc := HC.out j
      have HST := Lib.hid (cntI_step (x.take j) hc4)
      have d0 := ivR r0 (i := x.getD j 0) (by rw [cntI_len]; exact hc4)
      rw [cntI_at _ hc4] at d0
      have f0 := r0.free (x.getD j 0)
      clear hb HB HL HS HC HT
      generalize x.getD j 0 = c at *
      obtain ⟨m, hm⟩ : ∃ m, (x.take j).count c = m := ⟨_, rfl⟩
      rw [hm] at hcc HST d0
      have hw1 : IntKind.u8.wrap (97 + (c : Int) - 97) = c := by simp [IntKind.wrap, IntKind.bits, IntKind.signed]; omega
      have hw2 : (97 + (c : Int) - 97) = c := by omega
      have h256 : (c : Int) % 256 = c := by omega
      clear hm
      go_wp2
      go_roundw
      case rel =>
        refine ⟨j + 1, by go_num, by omega, ?_, r1.far (by dsimp only; omega) _, b0.setCell (by dsimp only; omega) _⟩
        have h := r0.set c (.int .i64 ((m : Int) + 1))
        rw [iv_set, HST.out, ← HS1.out] at h
        exact h
      case measure => simp [intOf]; omega
    · obtain rfl : j = s.size := by omega
      have g1 : decide (s.size < s.size) = false := decide_eq_false hlt
      rw [HT.out] at r0
      have hi := info78_iv (cntI_len x)
      go_wp2_with (first
        | (refine wpList_load_row rfl 78 (.tmp 3) rfl (w.heap.size + 1) rfl 78 (iv (cntI x)).toArray (0, 0) _ (row_heap r0) Try.underlying78 rfl hi ?_)
        | (refine wpList_store_row rfl 78 (.tmp 2) (.tmp 19) rfl w.heap.size (iv (cntI x)).toArray rfl rfl 78 Z4.toArray (row_heap r1) hi (size78_iv (cntI_len x)) (iv_all _) ?_))
      exact bodyPost_ret (v := .agg (iv (cntI x)).toArray) (res1 Try.results57 rfl (cell4_res (cntI_len x) (r1.row (iv (cntI x))))) rfl ⟨rfl, below_row b0 (by omega) _⟩
theorem counts_any (x : List Nat) (w : World) (hx : okW x) (hl : x.length ≤ 100000) :
    Calls Try.prog 60 #[.string (wS x)] w fun e w' => e = .returned (.agg (iv (cntI x)).toArray) ∧ Below w.heap.size w w' := by
  have hz := wS_len x
  have hb := get_bt (wS x)
  have HB := Lib.hid (fun j (hj : j < x.length) => bt_wS hx hj)
  have HL := Lib.hid (fun j (hj : j < x.length) => getD_lt hx hj)
  have HS := Lib.hid (fun j (hj : j < x.length) => take_snocN hj)
  have HT := Lib.hid (show x.take x.length = x from List.take_length)
  have HC : Hid (∀ j, (x.take j).count (x.getD j 0) ≤ 100000) := Lib.hid (fun j => by
    have := List.count_le_length (a := x.getD j 0) (l := x.take j)
    rw [List.length_take] at this; omega)
  have r0 : Row ((w.alloc (.cells Z4.toArray 78)).alloc (.cells Z4.toArray 78)) (w.heap.size + 1) 78 (iv (cntI (x.take 0))) := by rw [List.take_zero]; exact row_new (by simp)
  have r1 : Row ((w.alloc (.cells Z4.toArray 78)).alloc (.cells Z4.toArray 78)) w.heap.size 78 Z4 := (row_new rfl).alloc _
  have b0 : Below w.heap.size w ((w.alloc (.cells Z4.toArray 78)).alloc (.cells Z4.toArray 78)) := ((Below.refl _ w).alloc (Nat.le_refl _) _).alloc (by simp) _
  obtain ⟨N, hN⟩ : ∃ N, x.length = N := ⟨_, rfl⟩
  rw [hN] at hz hl HB HL HS HT
  generalize wS x = s at *
  subst hz
  clear hN hx
  go_enter Try.func60, Try.ntmps60
  go_wp2
  go_loopw [4] (fun i wr => ∃ j : Nat, i = .int .i64 j ∧ j ≤ s.size ∧ Row wr (w.heap.size + 1) 78 (iv (cntI (x.take j))) ∧ Row wr w.heap.size 78 Z4 ∧ Below w.heap.size w wr) (fun i _ => s.size - (intOf i).toNat)
  case atStart => exact ⟨0, rfl, by omega, r0, r1, b0⟩
  case round =>
    clear r0 r1 b0
    obtain ⟨j, rfl, hj, r0, r1, b0⟩ := hrel
    by_cases hlt : j < s.size
    · have g1 : decide (j < s.size) = true := decide_eq_true hlt
      have hbj := hb j hlt
      rw [HB.out j hlt] at hbj
      have hc4 := HL.out j hlt
      have HS1 := Lib.hid (HS.out j hlt)
      have hcc := HC.out j
      have HST := Lib.hid (cntI_step (x.take j) hc4)
      have d0 := ivR r0 (i := x.getD j 0) (by rw [cntI_len]; exact hc4)
      rw [cntI_at _ hc4] at d0
      have f0 := r0.free (x.getD j 0)
      clear hb HB HL HS HC HT
      generalize x.getD j 0 = c at *
      obtain ⟨m, hm⟩ : ∃ m, (x.take j).count c = m := ⟨_, rfl⟩
      rw [hm] at hcc HST d0
      have hw1 : IntKind.u8.wrap (97 + (c : Int) - 97) = c := by simp [IntKind.wrap, IntKind.bits, IntKind.signed]; omega
      have hw2 : (97 + (c : Int) - 97) = c := by omega
      have h256 : (c : Int) % 256 = c := by omega
      clear hm
      go_wp2
      go_roundw
      case rel =>
        refine ⟨j + 1, by go_num, by omega, ?_, r1.far (by dsimp only; omega) _, b0.setCell (by dsimp only; omega) _⟩
        have h := r0.set c (.int .i64 ((m : Int) + 1))
        rw [iv_set, HST.out, ← HS1.out] at h
        exact h
      case measure => simp [intOf]; omega
    · obtain rfl : j = s.size := by omega
      have g1 : decide (s.size < s.size) = false := decide_eq_false hlt
      rw [HT.out] at r0
      have hi := info78_iv (cntI_len x)
      go_wp2_with (first
        | (refine wpList_load_row rfl 78 (.tmp 3) rfl (w.heap.size + 1) rfl 78 (iv (cntI x)).toArray (0, 0) _ (row_heap r0) Try.underlying78 rfl hi ?_)
        | (refine wpList_store_row rfl 78 (.tmp 2) (.tmp 22) rfl w.heap.size (iv (cntI x)).toArray rfl rfl 78 Z4.toArray (row_heap r1) hi (size78_iv (cntI_len x)) (iv_all _) ?_))
      exact bodyPost_ret (v := .agg (iv (cntI x)).toArray) (res1 Try.results60 rfl (cell4_res (cntI_len x) (r1.row (iv (cntI x))))) rfl ⟨rfl, below_row b0 (by omega) _⟩
theorem lit4 {x : List Int} (h : x.length = 4) : ∃ a b c d, x = [a, b, c, d] := by
  match x, h with
  | [a, b, c, d], _ => exact ⟨a, b, c, d, rfl⟩
theorem eq78_lit (a b c d a' b' c' d' : Int) (w : World) : (Op.equalIn 10000 78 (.agg #[.int .i64 a, .int .i64 b, .int .i64 c, .int .i64 d]) (.agg #[.int .i64 a', .int .i64 b', .int .i64 c', .int .i64 d'])).run Try.prog w = .ok (decide ([a, b, c, d] = [a', b', c', d'])) w := by
  have u3 := Try.underlying3
  have a3 := Try.isAgg3
  have z3 := Try.sizeOf3
  rw [show (10000 : Nat) = 9999 + 1 from rfl, Op.equalIn]
  simp only [Sem.run_bind, run_underlying Try.underlying78, Result.andThen_ok]
  simp only [Std.Legacy.Range.forIn_eq_forIn_range', Std.Legacy.Range.size, Nat.sub_zero, Nat.add_sub_cancel, Nat.div_one, List.range'_succ, List.range'_zero, List.forIn_cons, List.forIn_nil]
  go_simp
  by_cases h1 : a = a' <;> by_cases h2 : b = b' <;> by_cases h3 : c = c' <;> by_cases h4 : d = d' <;> simp [h1, h2, h3, h4]
theorem eq78 {x y : List Int} (hx : x.length = 4) (hy : y.length = 4) (w : World) : (Op.equalIn 10000 78 (.agg (iv x).toArray) (.agg (iv y).toArray)).run Try.prog w = .ok (decide (x = y)) w := by
  obtain ⟨a, b, c, d, rfl⟩ := lit4 hx
  obtain ⟨a', b', c', d', rfl⟩ := lit4 hy
  exact eq78_lit a b c d a' b' c' d' w
end Go.Proofs.Ytoklnpiehbnalaa
