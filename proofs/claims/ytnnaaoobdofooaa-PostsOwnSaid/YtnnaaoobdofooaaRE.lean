/- The level of a grid. -/
import Derived.Test.YtnnaaoobdofooaaRD
namespace Go.Proofs.Ytnnaaoobdofooaa
open Go.RowKit
set_option maxHeartbeats 1000000
set_option maxRecDepth 100000
/-- The sum of the first numbers of a row, of a column. -/
def rsum (L : List (List Int)) (r : Nat) : Nat → Int
  | 0 => 0
  | k + 1 => rsum L r k + gat L r k
def csum (L : List (List Int)) (c : Nat) : Nat → Int
  | 0 => 0
  | k + 1 => csum L c k + gat L k c
def rowL (L : List (List Int)) (r c : Nat) : List Int := (List.range 10).map fun i => if i < r then rsum L i 10 else if i = r then rsum L i c else 0
def colL (L : List (List Int)) (r c : Nat) : List Int := (List.range 10).map fun j => if j < c then csum L j (r + 1) else csum L j r
theorem rowL_len (L : List (List Int)) (r c : Nat) : (rowL L r c).length = 10 := by simp [rowL]
theorem colL_len (L : List (List Int)) (r c : Nat) : (colL L r c).length = 10 := by simp [colL]
theorem geti_map {f : Nat → Int} {n i : Nat} (h : i < n) : geti ((List.range n).map f) i = f i := by
  unfold geti
  rw [List.getD_eq_getElem?_getD, List.getElem?_map, List.getElem?_range h]; rfl
theorem rowL_at (L : List (List Int)) (r c : Nat) {i : Nat} (h : i < 10) : geti (rowL L r c) i = if i < r then rsum L i 10 else if i = r then rsum L i c else 0 := geti_map h
theorem colL_at (L : List (List Int)) (r c : Nat) {i : Nat} (h : i < 10) : geti (colL L r c) i = if i < c then csum L i (r + 1) else csum L i r := geti_map h
theorem rowL_step (L : List (List Int)) {r c : Nat} (hr : r < 10) : (rowL L r c).set r (rsum L r c + gat L r c) = rowL L r (c + 1) := by
  refine ext_geti (by rw [List.length_set, rowL_len, rowL_len]) (fun i hi => ?_)
  rw [List.length_set, rowL_len] at hi
  rw [geti_set (by rw [rowL_len]; exact hr), rowL_at L r c hi, rowL_at L r (c + 1) hi]
  by_cases e : r = i
  · subst e; rw [if_pos rfl, if_neg (by omega), if_pos rfl]; rfl
  · rw [if_neg e]
    by_cases e2 : i < r
    · rw [if_pos e2, if_pos e2]
    · rw [if_neg e2, if_neg e2, if_neg (by omega), if_neg (by omega)]
theorem colL_step (L : List (List Int)) {r c : Nat} (hc : c < 10) : (colL L r c).set c (csum L c r + gat L r c) = colL L r (c + 1) := by
  refine ext_geti (by rw [List.length_set, colL_len, colL_len]) (fun i hi => ?_)
  rw [List.length_set, colL_len] at hi
  rw [geti_set (by rw [colL_len]; exact hc), colL_at L r c hi, colL_at L r (c + 1) hi]
  by_cases e : c = i
  · subst e; rw [if_pos rfl, if_pos (by omega)]; rfl
  · rw [if_neg e]
    by_cases e2 : i < c
    · rw [if_pos e2, if_pos (by omega)]
    · rw [if_neg e2, if_neg (by omega)]
theorem rowL_next (L : List (List Int)) (r : Nat) : rowL L r 10 = rowL L (r + 1) 0 := by
  refine ext_geti (by rw [rowL_len, rowL_len]) (fun i hi => ?_)
  rw [rowL_len] at hi
  rw [rowL_at L r 10 hi, rowL_at L (r + 1) 0 hi]
  by_cases e : i < r
  · rw [if_pos e, if_pos (by omega)]
  · rw [if_neg e]
    by_cases e2 : i = r
    · rw [if_pos e2, if_pos (by omega)]
    · rw [if_neg e2, if_neg (by omega)]
      split <;> rfl
theorem colL_next (L : List (List Int)) (r : Nat) : colL L r 10 = colL L (r + 1) 0 := by
  refine ext_geti (by rw [colL_len, colL_len]) (fun i hi => ?_)
  rw [colL_len] at hi
  rw [colL_at L r 10 hi, colL_at L (r + 1) 0 hi, if_pos hi, if_neg (by omega)]
theorem rowL_zero (L : List (List Int)) : rowL L 0 0 = List.replicate 10 0 := by
  refine ext_geti (by rw [rowL_len]; simp) (fun i hi => ?_)
  rw [rowL_len] at hi
  rw [rowL_at L 0 0 hi, if_neg (by omega)]
  have : geti (List.replicate 10 0) i = 0 := by unfold geti; rw [List.getD_eq_getElem?_getD, List.getElem?_replicate]; split <;> rfl
  rw [this]
  split <;> rfl
theorem colL_zero (L : List (List Int)) : colL L 0 0 = List.replicate 10 0 := by
  refine ext_geti (by rw [colL_len]; simp) (fun i hi => ?_)
  rw [colL_len] at hi
  rw [colL_at L 0 0 hi, if_neg (by omega)]
  have : geti (List.replicate 10 0) i = 0 := by unfold geti; rw [List.getD_eq_getElem?_getD, List.getElem?_replicate]; split <;> rfl
  rw [this]; rfl
theorem rsum_bd {L : List (List Int)} (h : IsT L) (r : Nat) : ∀ k : Nat, k ≤ 10 → 0 ≤ rsum L r k ∧ rsum L r k ≤ 9 * k
  | 0, _ => ⟨Int.le_refl _, Int.le_refl _⟩
  | k + 1, hk => by
    have := rsum_bd h r k (by omega)
    have := h.bd r k
    unfold rsum
    omega
theorem csum_bd {L : List (List Int)} (h : IsT L) (c : Nat) : ∀ k : Nat, k ≤ 10 → 0 ≤ csum L c k ∧ csum L c k ≤ 9 * k
  | 0, _ => ⟨Int.le_refl _, Int.le_refl _⟩
  | k + 1, hk => by
    have := csum_bd h c k (by omega)
    have := h.bd k c
    unfold csum
    omega
def ent (L : List (List Int)) : List Int := (List.range 100).map fun k => gat L (k / 10) (k % 10)
theorem ent_len (L : List (List Int)) : (ent L).length = 100 := by simp [ent]
theorem grd_ent (L : List (List Int)) : grd L = (L.length : Int) :: ent L := by
  unfold grd grdP ent
  rw [List.map_congr_left (g := fun k => gat L (k / 10) (k % 10)) (fun k hk => by rw [List.mem_range] at hk; rw [if_pos hk])]
theorem ent_range {W : World} {g : Nat} {L : List (List Int)} (h : Row W g 73 (iv (grd L))) : W.rangeAt g 1 (iv (ent L)) := fun j v hj => by
  have hl := (List.getElem?_eq_some_iff.1 hj).1
  rw [iv_len] at hl
  rw [h.cell, grd_ent, ← hj, Nat.add_comm]; rfl
theorem info71 : (Try.prog.info? 71).map (·.size) = some 100 := by kernel_rfl
theorem info70 : (Try.prog.info? 70).map (·.size) = some 10 := by kernel_rfl
/-- The numbers of a row of a grid. -/
def rowE (L : List (List Int)) (r : Nat) : List Int := (List.range 10).map fun c => gat L r c
theorem rowE_len (L : List (List Int)) (r : Nat) : (rowE L r).length = 10 := by simp [rowE]
theorem rowE_at (L : List (List Int)) (r : Nat) {c : Nat} (h : c < 10) : geti (rowE L r) c = gat L r c := geti_map h
theorem ent_row (L : List (List Int)) {r : Nat} (hr : r < 10) : (iv (ent L)).toArray.extract (r * 10) (r * 10 + 10) = (iv (rowE L r)).toArray := by
  apply Array.toList_inj.1
  rw [Array.toList_extract]
  unfold iv ent rowE
  simp only [List.extract_eq_take_drop]
  rw [show r * 10 + 10 - r * 10 = 10 by omega]
  apply List.ext_getElem?
  intro i
  by_cases h : i < 10
  · rw [List.getElem?_take, if_pos h, List.getElem?_drop]
    simp only [List.getElem?_map]
    rw [List.getElem?_range (by omega), List.getElem?_range h]
    simp only [Option.map_some]
    rw [show (r * 10 + i) / 10 = r by omega, show (r * 10 + i) % 10 = i by omega]
  · rw [List.getElem?_eq_none (by simp; omega), List.getElem?_eq_none (by simp; omega)]
theorem run_index71' (cs ds : Array Value) (r : Nat) (hr : r < 10) (h2 : cs.extract (r * 10) (r * 10 + 10) = ds) (w : World) : (Instr.index 71 (.agg cs) (.int .i64 r)).run Try.prog w = .ok (.agg ds) w := by
  cases hj : Try.prog.info? 70 with
  | none => have := info70; rw [hj] at this; cases this
  | some j =>
    have hs : j.size = 10 := by have := info70; rw [hj] at this; simpa using this
    have h1 : (0:Int) ≤ r ∧ (r:Int) < 10 := by omega
    simp [Instr.index, asIntOf, Sem.run_bind, run_underlying Try.underlying71, run_underlying Try.underlying70, sizeOf, typeInfo, hj, hs, part, isAgg, h1, h2, hr]
theorem run_index71 (L : List (List Int)) (r : Nat) (hr : r < 10) (w : World) : (Instr.index 71 (.agg (iv (ent L)).toArray) (.int .i64 r)).run Try.prog w = .ok (.agg (iv (rowE L r)).toArray) w := run_index71' _ _ r hr (ent_row L hr) w
theorem run_index70' (cs : Array Value) (x : Int) (c : Nat) (hc : c < 10) (h : cs[c]? = some (.int .i64 x)) (w : World) : (Instr.index 70 (.agg cs) (.int .i64 c)).run Try.prog w = .ok (.int .i64 x) w := by
  obtain ⟨i0, hi, hz0, hz1, hz2⟩ := info_parts info3
  have h1 : (0:Int) ≤ c ∧ (c:Int) < 10 := by omega
  simp [Instr.index, asIntOf, Sem.run_bind, run_underlying Try.underlying70, run_underlying Try.underlying3, sizeOf, typeInfo, hi, hz1, part, isAgg, h, h1, hc]
theorem run_index70 (x : List Int) (hx : x.length = 10) (c : Nat) (hc : c < 10) (w : World) : (Instr.index 70 (.agg (iv x).toArray) (.int .i64 c)).run Try.prog w = .ok (.int .i64 (geti x c)) w := by
  refine run_index70' _ _ c hc ?_ w
  rw [List.getElem?_toArray, iv, List.getElem?_map, List.getElem?_eq_getElem (by omega), geti_eq (by omega)]; rfl
def isLev (L : List (List Int)) : Bool := (List.range L.length).all fun i => decide (rsum L i 10 = rsum L 0 10) && decide (csum L i 10 = rsum L 0 10)
def lvN (L : List (List Int)) : Int := if isLev L then rsum L 0 10 else 0
theorem isLev_no {L : List (List Int)} {k : Nat} (hk : k < L.length) (h : ¬ (rsum L k 10 = rsum L 0 10 ∧ csum L k 10 = rsum L 0 10)) : isLev L = false ∧ lvN L = 0 := by
  have h1 : isLev L = false := by
    cases h2 : isLev L
    · rfl
    · unfold isLev at h2
      rw [List.all_eq_true] at h2
      have := h2 k (List.mem_range.2 hk)
      simp only [Bool.and_eq_true, decide_eq_true_eq] at this
      exact absurd this h
  exact ⟨h1, by unfold lvN; rw [h1]; rfl⟩
theorem isLev_yes {L : List (List Int)} (h : ∀ k, k < L.length → rsum L k 10 = rsum L 0 10 ∧ csum L k 10 = rsum L 0 10) : isLev L = true ∧ lvN L = rsum L 0 10 := by
  have h1 : isLev L = true := by
    unfold isLev
    rw [List.all_eq_true]
    intro k hk
    rw [List.mem_range] at hk
    rw [decide_eq_true (h k hk).1, decide_eq_true (h k hk).2]; rfl
  exact ⟨h1, by unfold lvN; rw [h1]; rfl⟩
abbrev Z10 : List Value := [.int .i64 0, .int .i64 0, .int .i64 0, .int .i64 0, .int .i64 0, .int .i64 0, .int .i64 0, .int .i64 0, .int .i64 0, .int .i64 0]
theorem iv_z10 : iv (List.replicate 10 0) = Z10 := rfl
theorem info70_iv {x : List Int} (h : x.length = 10) : (Try.prog.info? 70).map (·.size) = some (iv x).toArray.size := by rw [List.size_toArray, iv_len, h]; exact info70
theorem level_any (L : List (List Int)) (w : World) (h : IsT L) :
    Calls Try.prog 54 #[.agg (iv (grd L)).toArray] w fun e w' => e = .returned (.tuple #[.int .i64 (lvN L), .bool (isLev L)]) ∧ Below w.heap.size w w' := by
  have hle := h.le
  have r0 : Row (((w.alloc (.cells (iv (grd L)).toArray 73)).alloc (.cells Z10.toArray 70)).alloc (.cells Z10.toArray 70)) w.heap.size 73 (iv (grd L)) := ((row_new rfl).alloc _).alloc _
  have q0 : Row (((w.alloc (.cells (iv (grd L)).toArray 73)).alloc (.cells Z10.toArray 70)).alloc (.cells Z10.toArray 70)) (w.heap.size + 1) 70 (iv (rowL L 0 0)) := by
    rw [rowL_zero, iv_z10]; exact (row_new (by simp)).alloc _
  have t0 : Row (((w.alloc (.cells (iv (grd L)).toArray 73)).alloc (.cells Z10.toArray 70)).alloc (.cells Z10.toArray 70)) (w.heap.size + 1 + 1) 70 (iv (colL L 0 0)) := by
    rw [colL_zero, iv_z10]; exact row_new (by simp)
  have b0 : Below w.heap.size w (((w.alloc (.cells (iv (grd L)).toArray 73)).alloc (.cells Z10.toArray 70)).alloc (.cells Z10.toArray 70)) := by (repeat (first | exact Below.refl _ _ | assumption | (refine Below.setCell ?_ (by first | exact Nat.le_refl _ | omega | (simp; done) | (simp; omega)) _) | (refine Below.trans ?_ (below_drewN _)) | (refine Below.drew ?_) | (refine Below.alloc ?_ (by first | exact Nat.le_refl _ | omega | (simp; done) | (simp; omega)) _) | (refine below_row ?_ (by first | exact Nat.le_refl _ | omega | (simp; done) | (simp; omega)) _)))
  have hr := ent_range r0
  have hi : (Try.prog.info? 71).map (·.size) = some (iv (ent L)).length := by rw [iv_len, ent_len]; exact info71
  go_enter Try.func54, Try.ntmps54
  go_wp2_with ((with_reducible refine (?_ : wpList _ _ _ (Oper.mk (some 12) _ _ _ _ _ :: _) _ _)); refine wpList_load_mid rfl 71 (.tmp 11) rfl w.heap.size 1 rfl (iv (ent L)) _ hr Try.underlying71 rfl hi ?_)
  have HSR := Lib.hid (fun r c (hr : r < 10) => rowL_step L (r := r) (c := c) hr)
  have HSC := Lib.hid (fun r c (hc : c < 10) => colL_step L (r := r) (c := c) hc)
  have HNR := Lib.hid (rowL_next L)
  have HNC := Lib.hid (colL_next L)
  have HRA := Lib.hid (fun r c (hr : r < 10) => (by rw [rowL_at L r c hr, if_neg (by omega), if_pos rfl] : geti (rowL L r c) r = rsum L r c))
  have HCA := Lib.hid (fun r c (hc : c < 10) => (by rw [colL_at L r c hc, if_neg (by omega)] : geti (colL L r c) c = csum L c r))
  have HRB := Lib.hid (fun r k (hk : k ≤ 10) => rsum_bd h r k hk)
  have HCB := Lib.hid (fun c k (hk : k ≤ 10) => csum_bd h c k hk)
  have HG := Lib.hid (fun r c => h.bd r c)
  have HRL := Lib.hid (rowL_len L)
  have HCL := Lib.hid (colL_len L)
  have hi70 : (Try.prog.info? 70).map (·.size) = some 10 := info70
  clear hr
  go_loopw [13] (fun i wr => ∃ r : Nat, r ≤ 10 ∧ i = .int .i64 r ∧ Row wr w.heap.size 73 (iv (grd L)) ∧ Row wr (w.heap.size + 1) 70 (iv (rowL L r 0)) ∧ Row wr (w.heap.size + 1 + 1) 70 (iv (colL L r 0)) ∧ Below w.heap.size w wr) (fun i _ => 10 - (intOf i).toNat)
  case atStart => exact ⟨0, by omega, rfl, r0, q0, t0, b0⟩
  case round =>
    clear r0 q0 t0 b0
    obtain ⟨r, hr, rfl, r0, q0, t0, b0⟩ := hrel
    by_cases hlt : r < 10
    · have hix : ∀ w : World, (Instr.index 71 (.agg (iv (ent L)).toArray) (.int .i64 r)).run Try.prog w = .ok (.agg (iv (rowE L r)).toArray) w := fun w => run_index71 L r hlt w
      have hrl : (rowE L r).length = 10 := rowE_len L r
      have hir := info70_iv hrl
      have hsr : Z10.toArray.size = (iv (rowE L r)).toArray.size := by rw [List.size_toArray, List.size_toArray, iv_len, hrl]; rfl
      have nr : Row (wr.alloc (.cells Z10.toArray 70)) wr.heap.size 70 Z10 := row_new rfl
      have hbs := b0.size
      have n2 : Row (wr.alloc (.cells (iv (rowE L r)).toArray 70)) wr.heap.size 70 (iv (rowE L r)) := row_new rfl
      have HIX := Lib.hid (fun (c : Nat) (hc : c < 10) (w : World) => run_index70 (rowE L r) hrl c hc w)
      have HRE := Lib.hid (fun (c : Nat) (hc : c < 10) => rowE_at L r (c := c) hc)
      have q1 := q0.alloc (.cells (iv (rowE L r)).toArray 70)
      have t1 := t0.alloc (.cells (iv (rowE L r)).toArray 70)
      have r1 := r0.alloc (.cells (iv (rowE L r)).toArray 70)
      have b1 := b0.alloc hbs (.cells (iv (rowE L r)).toArray 70)
      have HNR1 := Lib.hid (HNR.out r)
      have HNC1 := Lib.hid (HNC.out r)
      clear q0 t0 r0 b0 hrl
      go_wp2_with (first
        | ((with_reducible refine (?_ : wpList _ _ _ (Oper.mk none _ _ _ _ _ :: _) _ _)); refine wpList_store_row rfl 70 (.tmp 7) (.tmp 16) rfl wr.heap.size (iv (rowE L r)).toArray rfl rfl 70 Z10.toArray (row_heap nr) hir hsr (iv_all _) ?_; rw [setRow_alloc]; generalize World.alloc wr _ = W at *)
        | ((with_reducible refine (?_ : wpList _ _ _ (Oper.mk (some 17) _ _ _ _ _ :: _) _ _)); refine wpList_load_row rfl 70 (.tmp 7) rfl wr.heap.size rfl 70 (iv (rowE L r)).toArray (0, 0) _ (row_heap n2) Try.underlying70 rfl hir ?_))
      clear n2 nr hir hsr hix
      generalize iv (rowE L r) = E at *
      go_loopw [18] (fun i wr2 => ∃ c : Nat, c ≤ 10 ∧ i = .int .i64 c ∧ Row wr2 w.heap.size 73 (iv (grd L)) ∧ Row wr2 (w.heap.size + 1) 70 (iv (rowL L r c)) ∧ Row wr2 (w.heap.size + 1 + 1) 70 (iv (colL L r c)) ∧ Below w.heap.size w wr2) (fun i _ => 10 - (intOf i).toNat)
      case atStart => exact ⟨0, by omega, rfl, r1, q1, t1, b1⟩
      case round =>
        clear r1 q1 t1 b1
        obtain ⟨c, hc, rfl, r1, q1, t1, b1⟩ := hrel
        by_cases hlc : c < 10
        · have hix := fun w => HIX.out c hlc w
          rw [HRE.out c hlc] at hix
          have hs1 := HSR.out r c hlt
          have hs2 := HSC.out r c hlc
          have d1 := ivR q1 (i := r) (by rw [HRL.out]; omega)
          have d2 := ivR t1 (i := c) (by rw [HCL.out]; omega)
          have f1 := q1.free r
          have f2 := t1.free c
          rw [HRA.out r c hlt] at d1
          rw [HCA.out r c hlc] at d2
          have hg := HG.out r c
          have h1 := HRB.out r c (by omega)
          have h2 := HCB.out c r (by omega)
          have HS1 := Lib.hid hs1
          have HS2 := Lib.hid hs2
          clear hs1 hs2
          generalize gat L r c = x at *
          generalize rsum L r c = y at *
          generalize csum L c r = z at *
          obtain ⟨hg1, hg2⟩ := hg
          obtain ⟨h11, h12⟩ := h1
          obtain ⟨h21, h22⟩ := h2
          go_wp2
          go_roundw
          case rel =>
            refine ⟨c + 1, by omega, by go_num, (r1.far (by dsimp only; omega) _).far (by dsimp only; omega) _, ?_, ?_, (b1.setCell (by dsimp only; omega) _).setCell (by dsimp only; omega) _⟩
            · have h := (q1.set r (.int .i64 (y + x))).far (p := ⟨w.heap.size + 1 + 1, c, none⟩) (by dsimp only; omega) (.int .i64 (z + x))
              rw [iv_set, HS1.out] at h
              exact h
            · have h := (t1.far (p := ⟨w.heap.size + 1, r, none⟩) (by dsimp only; omega) (.int .i64 (y + x))).set c (.int .i64 (z + x))
              rw [iv_set, HS2.out] at h
              exact h
          case measure => simp [intOf]; omega
        · obtain rfl : c = 10 := by omega
          rw [HNR1.out] at q1
          rw [HNC1.out] at t1
          go_wp2
          go_roundw
          case rel => exact ⟨r + 1, by omega, by go_num, r1, q1, t1, b1⟩
          case measure => simp [intOf]; omega
    · obtain rfl : r = 10 := by omega
      have c0 := ivR r0 (i := 0) (by unfold grd; rw [grdP_len]; omega)
      rw [show geti (grd L) 0 = (L.length : Int) from rfl] at c0
      have HNO := Lib.hid (fun k (hk : k < L.length) h => isLev_no (L := L) hk h)
      have HYES := Lib.hid (isLev_yes (L := L))
      have HRV := Lib.hid (fun i (hi : i < 10) => (by rw [rowL_at L 10 0 hi, if_pos hi] : geti (rowL L 10 0) i = rsum L i 10))
      have HCV := Lib.hid (fun i (hi : i < 10) => (by rw [colL_at L 10 0 hi, if_neg (by omega)] : geti (colL L 10 0) i = csum L i 10))
      have HK0 : Hid (∀ i, i < 0 → rsum L i 10 = rsum L 0 10 ∧ csum L i 10 = rsum L 0 10) := Lib.hid (fun i hi => absurd hi (Nat.not_lt_zero i))
      have hb0 := HRB.out 0 10 (by omega)
      go_wp2
      clear c0
      go_loopw [38] (fun i wr2 => ∃ k : Nat, k ≤ L.length ∧ i = .int .i64 k ∧ Hid (∀ i, i < k → rsum L i 10 = rsum L 0 10 ∧ csum L i 10 = rsum L 0 10) ∧ Row wr2 (w.heap.size + 1) 70 (iv (rowL L 10 0)) ∧ Row wr2 (w.heap.size + 1 + 1) 70 (iv (colL L 10 0)) ∧ Below w.heap.size w wr2) (fun i _ => L.length - (intOf i).toNat)
      case atStart => exact ⟨0, by omega, rfl, HK0, q0, t0, b0⟩
      case round =>
        clear q0 t0 b0 HK0 r0
        obtain ⟨k, hk, rfl, HK, q0, t0, b0⟩ := hrel
        have d0 := ivR q0 (i := 0) (by rw [HRL.out]; omega)
        rw [HRV.out 0 (by omega)] at d0
        by_cases hlk : k < L.length
        · have d1 := ivR q0 (i := k) (by rw [HRL.out]; omega)
          have d2 := ivR t0 (i := k) (by rw [HCL.out]; omega)
          rw [HRV.out k (by omega)] at d1
          rw [HCV.out k (by omega)] at d2
          have HN := Lib.hid (HNO.out k hlk)
          have HK1 : Hid (rsum L k 10 = rsum L 0 10 → csum L k 10 = rsum L 0 10 → ∀ i, i < k + 1 → rsum L i 10 = rsum L 0 10 ∧ csum L i 10 = rsum L 0 10) := Lib.hid (fun h1 h2 i hi => by
            by_cases e : i = k
            · subst e; exact ⟨h1, h2⟩
            · exact HK.out i (by omega))
          have hb1 := HRB.out k 10 (by omega)
          have hb2 := HCB.out k 10 (by omega)
          obtain ⟨s, Hs⟩ : ∃ s, Hid (rsum L 0 10 = s) := ⟨_, Lib.hid rfl⟩
          obtain ⟨p, Hp⟩ : ∃ s, Hid (rsum L k 10 = s) := ⟨_, Lib.hid rfl⟩
          obtain ⟨q, Hq⟩ : ∃ s, Hid (csum L k 10 = s) := ⟨_, Lib.hid rfl⟩
          rw [Hs.out] at d0
          rw [Hp.out] at d1
          rw [Hq.out] at d2
          rw [Hs.out, Hp.out, Hq.out] at HN
          have HK2 : Hid (p = s → q = s → ∀ i, i < k + 1 → rsum L i 10 = rsum L 0 10 ∧ csum L i 10 = rsum L 0 10) := Lib.hid (fun h1 h2 => HK1.out (by rw [Hp.out, Hs.out]; exact h1) (by rw [Hq.out, Hs.out]; exact h2))
          clear HK1 HK hb0 hb1 hb2
          by_cases h1 : p = s
          · have g1 : (p != s) = false := by rw [h1]; simp
            by_cases h2 : q = s
            · have g2 : (q != s) = false := by rw [h2]; simp
              have HK3 := Lib.hid (HK2.out h1 h2)
              clear h1 h2 HN HK2
              go_wp2
              refine wp_region_quiet_lit (by kernel_rfl) (by kernel_rfl) ?_
              repeat go_big_quiet_step ((fail))
              refine wpQuiet_nil ?_
              rintro _ ⟨nq, rfl⟩
              go_wp2
              go_roundw
              case rel => exact ⟨k + 1, by omega, by go_num, HK3, q0.drewN nq, t0.drewN nq, b0.trans (below_drewN nq)⟩
              case measure => simp [intOf]; omega
            · have g2 : (q != s) = true := by simp [h2]
              have HN2 := Lib.hid (HN.out (fun h => h2 h.2))
              clear h1 h2 HN HK2
              go_wp2
              refine wp_region_quiet_lit (by kernel_rfl) (by kernel_rfl) ?_
              repeat go_big_quiet_step ((fail))
              refine wpQuiet_nil ?_
              rintro _ ⟨nq, rfl⟩
              go_wp2
              go_ret2
              exact ⟨by rw [HN2.out.1, HN2.out.2]; rfl, b0.trans (below_drewN nq)⟩
          · have g1 : (p != s) = true := by simp [h1]
            have HN2 := Lib.hid (HN.out (fun h => h1 h.1))
            clear h1 HN HK2
            go_wp2
            refine wp_region_quiet_lit (by kernel_rfl) (by kernel_rfl) ?_
            repeat go_big_quiet_step ((fail))
            refine wpQuiet_nil ?_
            rintro _ ⟨nq, rfl⟩
            go_wp2
            go_ret2
            exact ⟨by rw [HN2.out.1, HN2.out.2]; rfl, b0.trans (below_drewN nq)⟩
        · obtain rfl : k = L.length := by omega
          have hy := HYES.out HK.out
          have HY := Lib.hid hy
          clear hy
          generalize rsum L 0 10 = s at *
          go_wp2
          go_ret2
          exact ⟨by rw [HY.out.1, HY.out.2]; rfl, b0⟩
end Go.Proofs.Ytnnaaoobdofooaa
