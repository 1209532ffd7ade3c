/- Grids are compared. -/
import Derived.Test.YtnnaaoobdofooaaVA
import Derived.DeepKeys
namespace Go.Proofs.Ytnnaaoobdofooaa
open Go.RowKit
set_option maxHeartbeats 1000000
set_option maxRecDepth 100000
theorem part_int (w : World) {X : List Int} {i : Nat} (hi : i < X.length) : (part 3 (iv X).toArray i).run Try.prog w = .ok (.int .i64 (geti X i)) w := by
  refine run_part_plain w (e := 3) (by kernel_rfl) ?_
  rw [List.getElem?_toArray]
  unfold iv
  rw [List.getElem?_map, List.getElem?_eq_getElem hi, geti_eq hi]; rfl
theorem eqInts (w : World) (d : Nat) {X Y : List Int} : ∀ is : List Nat, (∀ i, i ∈ is → i < X.length ∧ i < Y.length) → (Op.eqItems (d + 1) 3 1 (iv X).toArray (iv Y).toArray is).run Try.prog w = .ok (is.all fun i => decide (geti X i = geti Y i)) w
  | [], _ => rfl
  | i :: is, h => by
    obtain ⟨h1, h2⟩ := h i (List.mem_cons_self ..)
    have ih := eqInts w d is (fun j hj => h j (List.mem_cons_of_mem _ hj))
    unfold Op.eqItems
    simp only [Nat.mul_one, Sem.run_bind, part_int w h1, part_int w h2, Result.andThen_ok, run_equalIn_int w d 3 .i64 .i64 _ _ Try.underlying3]
    by_cases e : geti X i = geti Y i
    · simp only [e, BEq.rfl, Bool.not_true, Bool.false_eq_true, if_false]
      rw [ih]
      simp [e]
    · have e2 : (geti X i == geti Y i) = false := by rw [beq_eq_false_iff_ne]; exact e
      simp [e2, e]
theorem all_eq {X Y : List Int} {n : Nat} (hx : X.length = n) (hy : Y.length = n) : ((List.range n).all fun i => decide (geti X i = geti Y i)) = decide (X = Y) := by
  rw [Bool.eq_iff_iff]
  simp only [List.all_eq_true, List.mem_range, decide_eq_true_eq]
  constructor
  · intro h
    exact ext_geti (by omega) (fun i hi => h i (by omega))
  · rintro rfl i _; rfl
theorem eq70g (w : World) (d : Nat) {X Y : List Int} (hx : X.length = 10) (hy : Y.length = 10) : (Op.equalIn (d + 2) 70 (.agg (iv X).toArray) (.agg (iv Y).toArray)).run Try.prog w = .ok (decide (X = Y)) w := by
  obtain ⟨j0, ji, jz0, jz1, jz2⟩ := info_parts info3
  rw [run_equalIn_array w (d + 1) (n := 10) (e := 3) _ _ Try.underlying70 ji, Try.cells3, eqInts w d (List.range 10) (fun i hi => by rw [List.mem_range] at hi; omega), all_eq hx hy]
def ck (X : List Int) (i : Nat) : List Int := (X.drop (i * 10)).take 10
theorem ck_len {X : List Int} {i : Nat} (h : i * 10 + 10 ≤ X.length) : (ck X i).length = 10 := by unfold ck; rw [List.length_take, List.length_drop]; omega
theorem ck_at {X : List Int} {i c : Nat} (hc : c < 10) : geti (ck X i) c = geti X (i * 10 + c) := by
  unfold geti ck
  rw [List.getD_eq_getElem?_getD, List.getD_eq_getElem?_getD, List.getElem?_take, if_pos hc, List.getElem?_drop]
theorem iv_ext (X : List Int) (o n : Nat) : (iv X).toArray.extract o (o + n) = (iv ((X.drop o).take n)).toArray := by
  apply Array.toList_inj.1
  rw [Array.toList_extract]
  simp [List.extract, iv]
theorem part_row (w : World) (X : List Int) (i : Nat) : (part 70 (iv X).toArray (i * 10)).run Try.prog w = .ok (.agg (iv (ck X i)).toArray) w := by
  have hs : (Try.prog.info? 70).map (·.size) = some 10 := info70
  obtain ⟨j, hj, hj2⟩ : ∃ j, Try.prog.info? 70 = some j ∧ j.size = 10 := by
    cases h : Try.prog.info? 70 with
    | none => rw [h] at hs; cases hs
    | some j => rw [h] at hs; exact ⟨j, rfl, by simpa using hs⟩
  have hc : Try.prog.cellsOf 70 = 10 := by kernel_rfl
  have := iv_ext X (i * 10) 10
  unfold ck
  rw [← this]
  simp [part, isAgg, run_underlying Try.underlying70]
theorem eqRows (w : World) (d : Nat) {X Y : List Int} : ∀ is : List Nat, (∀ i, i ∈ is → i * 10 + 10 ≤ X.length ∧ i * 10 + 10 ≤ Y.length) → (Op.eqItems (d + 2) 70 10 (iv X).toArray (iv Y).toArray is).run Try.prog w = .ok (is.all fun i => decide (ck X i = ck Y i)) w
  | [], _ => rfl
  | i :: is, h => by
    obtain ⟨h1, h2⟩ := h i (List.mem_cons_self ..)
    have ih := eqRows w d is (fun j hj => h j (List.mem_cons_of_mem _ hj))
    unfold Op.eqItems
    simp only [Sem.run_bind, part_row w, Result.andThen_ok, eq70g w d (ck_len h1) (ck_len h2)]
    by_cases e : ck X i = ck Y i
    · simp only [e, decide_true, Bool.not_true, Bool.false_eq_true, if_false]
      rw [ih]
      simp [e]
    · simp [e]
theorem eq71g (w : World) (d : Nat) {X Y : List Int} (hx : X.length = 100) (hy : Y.length = 100) : (Op.equalIn (d + 3) 71 (.agg (iv X).toArray) (.agg (iv Y).toArray)).run Try.prog w = .ok (decide (X = Y)) w := by
  have hs : (Try.prog.info? 70).map (·.size) = some 10 := info70
  obtain ⟨j, hj⟩ : ∃ j, Try.prog.info? 70 = some j := by
    cases h : Try.prog.info? 70 with
    | none => rw [h] at hs; cases hs
    | some j => exact ⟨j, rfl⟩
  have hc : Try.prog.cellsOf 70 = 10 := by kernel_rfl
  rw [run_equalIn_array w (d + 2) (n := 10) (e := 70) _ _ Try.underlying71 hj, hc, eqRows w d (List.range 10) (fun i hi => by rw [List.mem_range] at hi; omega)]
  congr 1
  rw [Bool.eq_iff_iff]
  simp only [List.all_eq_true, List.mem_range, decide_eq_true_eq]
  constructor
  · intro h
    refine ext_geti (by omega) (fun i hi => ?_)
    have h1 := h (i / 10) (by omega)
    have h2 := ck_at (X := X) (i := i / 10) (c := i % 10) (by omega)
    have h3 := ck_at (X := Y) (i := i / 10) (c := i % 10) (by omega)
    rw [h1, h3, show i / 10 * 10 + i % 10 = i by omega] at h2
    exact h2.symm
  · rintro rfl i _; rfl
theorem flds73 : (Try.prog.fieldsOf 73).toList.map (fun f => (f.name, f.type, f.offset)) = [("n", 3, 0), ("at", 71, 1)] := by kernel_rfl
theorem part_arr (w : World) (X : List Int) : (part 71 (iv X).toArray 1).run Try.prog w = .ok (.agg (iv ((X.drop 1).take 100)).toArray) w := by
  have hs : (Try.prog.info? 71).map (·.size) = some 100 := by kernel_rfl
  obtain ⟨j, hj, hj2⟩ : ∃ j, Try.prog.info? 71 = some j ∧ j.size = 100 := by
    cases h : Try.prog.info? 71 with
    | none => rw [h] at hs; cases hs
    | some j => rw [h] at hs; exact ⟨j, rfl, by simpa using hs⟩
  have hc : Try.prog.cellsOf 71 = 100 := by kernel_rfl
  have := iv_ext X 1 100
  rw [← this]
  simp [part, isAgg, run_underlying Try.underlying71]
theorem eq73 {X Y : List Int} (hx : X.length = 101) (hy : Y.length = 101) (w : World) : (Op.equalIn 10000 73 (.agg (iv X).toArray) (.agg (iv Y).toArray)).run Try.prog w = .ok (decide (X = Y)) w := by
  have hu : Try.prog.underlying 73 = some (.struct (Try.prog.fieldsOf 73)) := by kernel_rfl
  rw [show (10000 : Nat) = 9999 + 1 from rfl, run_equalIn_struct w 9999 73 _ _ hu (by kernel_rfl)]
  have hf := flds73
  generalize (Try.prog.fieldsOf 73).toList = fs at *
  obtain ⟨f, g, rfl⟩ : ∃ f g, fs = [f, g] := by
    have hl : fs.length = 2 := by have := congrArg List.length hf; simpa using this
    match fs, hl with
    | [f, g], _ => exact ⟨f, g, rfl⟩
  simp only [List.map_cons, List.map_nil, List.cons.injEq, Prod.mk.injEq, and_true] at hf
  obtain ⟨⟨f1, f2, f3⟩, g1, g2, g3⟩ := hf
  have e1 := eq71g w 9996 (X := (X.drop 1).take 100) (Y := (Y.drop 1).take 100) (by simp; omega) (by simp; omega)
  rw [show (9996 + 3 : Nat) = 9999 from rfl] at e1
  have p1 := part_arr w X
  have p2 := part_arr w Y
  have key : X = Y ↔ geti X 0 = geti Y 0 ∧ (X.drop 1).take 100 = (Y.drop 1).take 100 := by
    constructor
    · rintro rfl; exact ⟨rfl, rfl⟩
    · rintro ⟨h1, h2⟩
      rw [List.take_of_length_le (by simp; omega), List.take_of_length_le (by simp; omega)] at h2
      match X, Y, hx, hy with
      | x :: X, y :: Y, _, _ =>
        have h3 : x = y := h1
        have h4 : X = Y := h2
        rw [h3, h4]
  generalize (X.drop 1).take 100 = X2 at *
  generalize (Y.drop 1).take 100 = Y2 at *
  simp only [Op.eqFields, f1, f2, f3, g1, g2, g3, ne_eq, String.reduceEq, not_false_eq_true, if_true, Sem.run_bind, part_int w (show 0 < X.length by omega), part_int w (show 0 < Y.length by omega), Result.andThen_ok, run_equalIn_int w 9998 3 .i64 .i64 _ _ Try.underlying3]
  by_cases a : geti X 0 = geti Y 0
  · simp only [a, BEq.rfl, Bool.not_true, Bool.false_eq_true, if_false, Sem.run_bind, p1, p2, Result.andThen_ok, e1]
    by_cases b : X2 = Y2
    · have hxy : X = Y := key.2 ⟨a, b⟩
      simp [b, hxy]
    · have hxy : ¬ X = Y := fun h => b (key.1 h).2
      simp [b, hxy]
  · have hxy : ¬ X = Y := fun h => a (key.1 h).1
    have e2 : (geti X 0 == geti Y 0) = false := by rw [beq_eq_false_iff_ne]; exact a
    simp [e2, hxy]
end Go.Proofs.Ytnnaaoobdofooaa
