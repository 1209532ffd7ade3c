/- Layers, isSplit (merged) -/
import Derived.Test.YtnnaaoobdofooaaTM
import Derived.Test.YtnnaaoobdofooaaSE
import Derived.DeepKeys
import Derived.Test.YtnnaaoobdofooaaSG
import Derived.Test.YtnnaaoobdofooaaTK
/- Layers: what they leave of a table. -/
namespace Go.Proofs.Ytnnaaoobdofooaa
open Go.RowKit
set_option maxHeartbeats 1000000
set_option maxRecDepth 100000
abbrev Lay := Int × List Int
def laW (ls : List Lay) (i : Nat) : Int := (ls.getD i (0, [])).1
def laC (ls : List Lay) (i : Nat) : List Int := (ls.getD i (0, [])).2
/-- So many rows bear the weight. -/
def brs (K : List (List Int)) (wt : Int) (xs : List Int) : Nat → Bool
  | 0 => true
  | k + 1 => brs K wt xs k && !decide (gat K k (geti xs k).toNat < wt)
/-- The weight is taken from so many rows. -/
def subP (K : List (List Int)) (wt : Int) (xs : List Int) : Nat → List (List Int)
  | 0 => K
  | k + 1 => setT (subP K wt xs k) k (geti xs k).toNat (gat (subP K wt xs k) k (geti xs k).toNat - wt)
def layOk (K : List (List Int)) (l : Lay) : Bool := !decide (l.1 < 1) && colsOk K.length l.2 && brs K l.1 l.2 K.length
def zerB (K : List (List Int)) : Bool := (List.range K.length).all fun r => (List.range K.length).all fun c => decide (gat K r c = 0)
def splB : List (List Int) → List Lay → Bool
  | K, [] => zerB K
  | K, l :: ls => layOk K l && splB (subP K l.1 l.2 K.length) ls
def splA (T : List (List Int)) (ls : List Lay) : Bool := decide (ls.length ≤ 100) && splB T ls
theorem splB_at {K : List (List Int)} {ls : List Lay} {k : Nat} (hk : k < ls.length) : splB K (ls.drop k) = (layOk K (laW ls k, laC ls k) && splB (subP K (laW ls k) (laC ls k) K.length) (ls.drop (k + 1))) := by
  rw [List.drop_eq_getElem_cons hk]
  have e : ls.getD k (0, []) = ls[k] := by rw [List.getD_eq_getElem?_getD, List.getElem?_eq_getElem hk]; rfl
  unfold laW laC
  rw [e]; rfl
theorem splB_end {K : List (List Int)} {ls : List Lay} {k : Nat} (hk : ls.length ≤ k) : splB K (ls.drop k) = zerB K := by rw [List.drop_of_length_le hk]; rfl
theorem subP_len (K : List (List Int)) (wt : Int) (xs : List Int) : ∀ k, (subP K wt xs k).length = K.length
  | 0 => rfl
  | k + 1 => by unfold subP; rw [setT_len]; exact subP_len K wt xs k
theorem cols_at {n : Nat} {xs : List Int} (h : colsOk n xs = true) {r : Nat} (hr : r < n) : 0 ≤ geti xs r ∧ geti xs r < n := by
  unfold colsOk at h
  simp only [Bool.and_eq_true, decide_eq_true_eq] at h
  exact cg_at h.1 (by omega)
theorem cols_len {n : Nat} {xs : List Int} (h : colsOk n xs = true) : xs.length = n := by
  unfold colsOk at h
  simp only [Bool.and_eq_true, decide_eq_true_eq] at h
  exact h.2
theorem subP_row {K : List (List Int)} (hK : ∀ r, r < K.length → (getl K r).length = K.length) (wt : Int) (xs : List Int) : ∀ k, k ≤ K.length → ∀ r, r < K.length → (getl (subP K wt xs k) r).length = K.length
  | 0, _, r, hr => hK r hr
  | k + 1, hk, r, hr => by
    have ih := subP_row hK wt xs k (by omega)
    unfold subP
    rw [getl_setT (by rw [subP_len]; omega)]
    split
    · rw [List.length_set]; exact ih k (by omega)
    · exact ih r hr
theorem subP_gat {K : List (List Int)} {wt : Int} {xs : List Int} (hK : ∀ r, r < K.length → (getl K r).length = K.length) (hc : colsOk K.length xs = true) : ∀ k, k ≤ K.length → ∀ r c, gat (subP K wt xs k) r c = if r < k ∧ (geti xs r).toNat = c then gat K r c - wt else gat K r c
  | 0, _, r, c => by rw [if_neg (by omega)]; rfl
  | k + 1, hk, r, c => by
    have ih := subP_gat (wt := wt) hK hc k (by omega)
    have hx := cols_at hc (r := k) (by omega)
    unfold subP
    rw [gat_setT (by rw [subP_len]; omega) (by rw [subP_row hK wt xs k (by omega) k (by omega)]; omega), ih, ih]
    by_cases e : k = r ∧ (geti xs k).toNat = c
    · obtain ⟨rfl, rfl⟩ := e
      rw [if_pos ⟨rfl, rfl⟩, if_neg (by omega), if_pos ⟨by omega, rfl⟩]
    · rw [if_neg e]
      by_cases e2 : r < k ∧ (geti xs r).toNat = c
      · rw [if_pos e2, if_pos ⟨by omega, e2.2⟩]
      · rw [if_neg e2, if_neg (fun h => by
          by_cases hrk : r = k
          · subst hrk; exact e ⟨rfl, h.2⟩
          · exact e2 ⟨by omega, h.2⟩)]
theorem subP_own {K : List (List Int)} {wt : Int} {xs : List Int} (hK : ∀ r, r < K.length → (getl K r).length = K.length) (hc : colsOk K.length xs = true) {k : Nat} (hk : k < K.length) : gat (subP K wt xs k) k (geti xs k).toNat = gat K k (geti xs k).toNat := by
  rw [subP_gat hK hc k (by omega), if_neg (by omega)]
theorem brs_mono {K : List (List Int)} {wt : Int} {xs : List Int} {k : Nat} (h : brs K wt xs k = false) : ∀ d, brs K wt xs (k + d) = false
  | 0 => h
  | d + 1 => by
    show (brs K wt xs (k + d) && _) = false
    rw [brs_mono h d]; rfl
theorem brs_no {K : List (List Int)} {wt : Int} {xs : List Int} {k n : Nat} (hk : k < n) (h : gat K k (geti xs k).toNat < wt) : brs K wt xs n = false := by
  have h1 : brs K wt xs (k + 1) = false := by unfold brs; rw [decide_eq_true h]; simp
  have := brs_mono h1 (n - (k + 1))
  rwa [show k + 1 + (n - (k + 1)) = n by omega] at this
theorem brs_yes {K : List (List Int)} {wt : Int} {xs : List Int} {k : Nat} (h0 : brs K wt xs k = true) (h : ¬ gat K k (geti xs k).toNat < wt) : brs K wt xs (k + 1) = true := by
  unfold brs
  rw [h0, decide_eq_false h]; rfl
theorem brs_at {K : List (List Int)} {wt : Int} {xs : List Int} : ∀ {k j : Nat}, brs K wt xs k = true → j < k → wt ≤ gat K j (geti xs j).toNat
  | k + 1, j, h, hj => by
    unfold brs at h
    simp only [Bool.and_eq_true, Bool.not_eq_true', decide_eq_false_iff_not] at h
    by_cases e : j = k
    · subst e; omega
    · exact brs_at h.1 (by omega)
theorem layOk_parts {K : List (List Int)} {wt : Int} {xs : List Int} (h : layOk K (wt, xs) = true) : 1 ≤ wt ∧ colsOk K.length xs = true ∧ brs K wt xs K.length = true := by
  unfold layOk at h
  simp only [Bool.and_eq_true, Bool.not_eq_true', decide_eq_false_iff_not] at h
  exact ⟨by omega, h.1.2, h.2⟩
theorem subP_isT {K : List (List Int)} (hK : IsT K) {wt : Int} {xs : List Int} (h1 : 1 ≤ wt) (hc : colsOk K.length xs = true) (hb : brs K wt xs K.length = true) {k : Nat} (hk : k ≤ K.length) : IsT (subP K wt xs k) := okT_iff.1 (okT_all (by rw [subP_len]; exact hK.le) (fun r hr => by
  rw [subP_len] at hr ⊢
  refine ⟨subP_row hK.row wt xs k hk r hr, fun c hc2 => ?_⟩
  rw [subP_gat hK.row hc k hk]
  have h3 := hK.bd r c
  split
  · rename_i e
    have := brs_at hb (show r < K.length by omega)
    rw [e.2] at this
    omega
  · omega))
theorem grd_set {L : List (List Int)} (hl : L.length ≤ 10) {r c : Nat} (hr : r < L.length) (hc : c < (getl L r).length) (hrow : (getl L r).length ≤ 10) (x : Int) : (iv (grd L)).set (1 + r * 10 + c) (.int .i64 x) = iv (grd (setT L r c x)) := by
  rw [iv_set]
  congr 1
  refine ext_geti (by unfold grd; rw [List.length_set, grdP_len, grdP_len]) (fun i hi => ?_)
  unfold grd at hi ⊢
  rw [List.length_set, grdP_len] at hi
  rw [geti_set (by rw [grdP_len]; omega)]
  cases i with
  | zero =>
    rw [if_neg (by omega), grdP_n, grdP_n, setT_len]
  | succ i =>
    have hi9 : i < 100 := by omega
    rw [Nat.add_comm i 1, grdP_at L 100 hi9, grdP_at (setT L r c x) 100 hi9, if_pos hi9, if_pos hi9, gat_setT hr hc]
    by_cases e : r = i / 10 ∧ c = i % 10
    · rw [if_pos e, if_pos (by omega)]
    · rw [if_neg e, if_neg (by omega)]
/-- The grid that is left empty. -/
def zgrd (n : Nat) : List Int := (n : Int) :: List.replicate 100 0
theorem zer_grd {K : List (List Int)} (h : IsT K) : decide (grd K = zgrd K.length) = zerB K := by
  rw [Bool.eq_iff_iff]
  unfold zerB
  simp only [decide_eq_true_eq, List.all_eq_true, List.mem_range]
  have hl := h.le
  have hz : ∀ k, k < 100 → geti (zgrd K.length) (1 + k) = 0 := fun k hk => by
    unfold zgrd geti
    rw [Nat.add_comm, List.getD_cons_succ, List.getD_eq_getElem?_getD, List.getElem?_replicate, if_pos hk]; rfl
  constructor
  · intro e r hr c hc
    have h1 := grd_at K (r := r) (c := c) (by omega) (by omega)
    rw [e, hz _ (by omega)] at h1
    exact h1.symm
  · intro hall
    refine ext_geti (by unfold grd zgrd; rw [grdP_len]; simp) (fun i hi => ?_)
    unfold grd at hi
    rw [grdP_len] at hi
    cases i with
    | zero => rfl
    | succ i =>
      rw [Nat.add_comm i 1, hz i (by omega)]
      unfold grd
      rw [grdP_at K 100 (by omega), if_pos (by omega)]
      by_cases hr : i / 10 < K.length
      · by_cases hc : i % 10 < K.length
        · exact hall _ hr _ hc
        · exact h.zero (Or.inr (by omega))
      · exact h.zero (Or.inl (by omega))
end Go.Proofs.Ytnnaaoobdofooaa
/- Grids are compared. -/
namespace Go.Proofs.Ytnnaaoobdofooaa
open Go.RowKit
set_option maxHeartbeats 1000000
set_option maxRecDepth 100000
theorem part_int (w : World) {X : List Int} {i : Nat} (hi : i < X.length) : (part 3 (iv X).toArray i).run Try.prog w = .ok (.int .i64 (geti X i)) w := by
  refine run_part_plain w (e := 3) (by kernel_rfl) ?_
  rw [List.getElem?_toArray]
  unfold iv
  rw [List.getElem?_map, List.getElem?_eq_getElem hi, geti_eq hi]; rfl
theorem eqInts (w : World) (d : Nat) {X Y : List Int} : ∀ is : List Nat, (∀ i, i ∈ is → i < X.length ∧ i < Y.length) → (Op.eqItems (d + 1) 3 1 (iv X).toArray (iv Y).toArray is).run Try.prog w = .ok (is.all fun i => decide (geti X i = geti Y i)) w
  | [], _ => rfl
  | i :: is, h => by
    obtain ⟨h1, h2⟩ := h i (List.mem_cons_self ..)
    have ih := eqInts w d is (fun j hj => h j (List.mem_cons_of_mem _ hj))
    unfold Op.eqItems
    simp only [Nat.mul_one, Sem.run_bind, part_int w h1, part_int w h2, Result.andThen_ok, run_equalIn_int w d 3 .i64 .i64 _ _ Try.underlying3]
    by_cases e : geti X i = geti Y i
    · simp only [e, BEq.rfl, Bool.not_true, Bool.false_eq_true, if_false]
      rw [ih]
      simp [e]
    · have e2 : (geti X i == geti Y i) = false := by rw [beq_eq_false_iff_ne]; exact e
      simp [e2, e]
theorem all_eq {X Y : List Int} {n : Nat} (hx : X.length = n) (hy : Y.length = n) : ((List.range n).all fun i => decide (geti X i = geti Y i)) = decide (X = Y) := by
  rw [Bool.eq_iff_iff]
  simp only [List.all_eq_true, List.mem_range, decide_eq_true_eq]
  constructor
  · intro h
    exact ext_geti (by omega) (fun i hi => h i (by omega))
  · rintro rfl i _; rfl
theorem eq70g (w : World) (d : Nat) {X Y : List Int} (hx : X.length = 10) (hy : Y.length = 10) : (Op.equalIn (d + 2) 70 (.agg (iv X).toArray) (.agg (iv Y).toArray)).run Try.prog w = .ok (decide (X = Y)) w := by
  obtain ⟨j0, ji, jz0, jz1, jz2⟩ := info_parts info3
  rw [run_equalIn_array w (d + 1) (n := 10) (e := 3) _ _ Try.underlying70 ji, Try.cells3, eqInts w d (List.range 10) (fun i hi => by rw [List.mem_range] at hi; omega), all_eq hx hy]
def ck (X : List Int) (i : Nat) : List Int := (X.drop (i * 10)).take 10
theorem ck_len {X : List Int} {i : Nat} (h : i * 10 + 10 ≤ X.length) : (ck X i).length = 10 := by unfold ck; rw [List.length_take, List.length_drop]; omega
theorem ck_at {X : List Int} {i c : Nat} (hc : c < 10) : geti (ck X i) c = geti X (i * 10 + c) := by
  unfold geti ck
  rw [List.getD_eq_getElem?_getD, List.getD_eq_getElem?_getD, List.getElem?_take, if_pos hc, List.getElem?_drop]
theorem iv_ext (X : List Int) (o n : Nat) : (iv X).toArray.extract o (o + n) = (iv ((X.drop o).take n)).toArray := by
  apply Array.toList_inj.1
  rw [Array.toList_extract]
  simp [List.extract, iv]
theorem part_row (w : World) (X : List Int) (i : Nat) : (part 70 (iv X).toArray (i * 10)).run Try.prog w = .ok (.agg (iv (ck X i)).toArray) w := by
  have hs : (Try.prog.info? 70).map (·.size) = some 10 := info70
  obtain ⟨j, hj, hj2⟩ : ∃ j, Try.prog.info? 70 = some j ∧ j.size = 10 := by
    cases h : Try.prog.info? 70 with
    | none => rw [h] at hs; cases hs
    | some j => rw [h] at hs; exact ⟨j, rfl, by simpa using hs⟩
  have hc : Try.prog.cellsOf 70 = 10 := by kernel_rfl
  have := iv_ext X (i * 10) 10
  unfold ck
  rw [← this]
  simp [part, isAgg, run_underlying Try.underlying70]
theorem eqRows (w : World) (d : Nat) {X Y : List Int} : ∀ is : List Nat, (∀ i, i ∈ is → i * 10 + 10 ≤ X.length ∧ i * 10 + 10 ≤ Y.length) → (Op.eqItems (d + 2) 70 10 (iv X).toArray (iv Y).toArray is).run Try.prog w = .ok (is.all fun i => decide (ck X i = ck Y i)) w
  | [], _ => rfl
  | i :: is, h => by
    obtain ⟨h1, h2⟩ := h i (List.mem_cons_self ..)
    have ih := eqRows w d is (fun j hj => h j (List.mem_cons_of_mem _ hj))
    unfold Op.eqItems
    simp only [Sem.run_bind, part_row w, Result.andThen_ok, eq70g w d (ck_len h1) (ck_len h2)]
    by_cases e : ck X i = ck Y i
    · simp only [e, decide_true, Bool.not_true, Bool.false_eq_true, if_false]
      rw [ih]
      simp [e]
    · simp [e]
theorem eq71g (w : World) (d : Nat) {X Y : List Int} (hx : X.length = 100) (hy : Y.length = 100) : (Op.equalIn (d + 3) 71 (.agg (iv X).toArray) (.agg (iv Y).toArray)).run Try.prog w = .ok (decide (X = Y)) w := by
  have hs : (Try.prog.info? 70).map (·.size) = some 10 := info70
  obtain ⟨j, hj⟩ : ∃ j, Try.prog.info? 70 = some j := by
    cases h : Try.prog.info? 70 with
    | none => rw [h] at hs; cases hs
    | some j => exact ⟨j, rfl⟩
  have hc : Try.prog.cellsOf 70 = 10 := by kernel_rfl
  rw [run_equalIn_array w (d + 2) (n := 10) (e := 70) _ _ Try.underlying71 hj, hc, eqRows w d (List.range 10) (fun i hi => by rw [List.mem_range] at hi; omega)]
  congr 1
  rw [Bool.eq_iff_iff]
  simp only [List.all_eq_true, List.mem_range, decide_eq_true_eq]
  constructor
  · intro h
    refine ext_geti (by omega) (fun i hi => ?_)
    have h1 := h (i / 10) (by omega)
    have h2 := ck_at (X := X) (i := i / 10) (c := i % 10) (by omega)
    have h3 := ck_at (X := Y) (i := i / 10) (c := i % 10) (by omega)
    rw [h1, h3, show i / 10 * 10 + i % 10 = i by omega] at h2
    exact h2.symm
  · rintro rfl i _; rfl
theorem flds73 : (Try.prog.fieldsOf 73).toList.map (fun f => (f.name, f.type, f.offset)) = [("n", 3, 0), ("at", 71, 1)] := by kernel_rfl
theorem part_arr (w : World) (X : List Int) : (part 71 (iv X).toArray 1).run Try.prog w = .ok (.agg (iv ((X.drop 1).take 100)).toArray) w := by
  have hs : (Try.prog.info? 71).map (·.size) = some 100 := by kernel_rfl
  obtain ⟨j, hj, hj2⟩ : ∃ j, Try.prog.info? 71 = some j ∧ j.size = 100 := by
    cases h : Try.prog.info? 71 with
    | none => rw [h] at hs; cases hs
    | some j => rw [h] at hs; exact ⟨j, rfl, by simpa using hs⟩
  have hc : Try.prog.cellsOf 71 = 100 := by kernel_rfl
  have := iv_ext X 1 100
  rw [← this]
  simp [part, isAgg, run_underlying Try.underlying71]
theorem eq73 {X Y : List Int} (hx : X.length = 101) (hy : Y.length = 101) (w : World) : (Op.equalIn 10000 73 (.agg (iv X).toArray) (.agg (iv Y).toArray)).run Try.prog w = .ok (decide (X = Y)) w := by
  have hu : Try.prog.underlying 73 = some (.struct (Try.prog.fieldsOf 73)) := by kernel_rfl
  rw [show (10000 : Nat) = 9999 + 1 from rfl, run_equalIn_struct w 9999 73 _ _ hu (by kernel_rfl)]
  have hf := flds73
  generalize (Try.prog.fieldsOf 73).toList = fs at *
  obtain ⟨f, g, rfl⟩ : ∃ f g, fs = [f, g] := by
    have hl : fs.length = 2 := by have := congrArg List.length hf; simpa using this
    match fs, hl with
    | [f, g], _ => exact ⟨f, g, rfl⟩
  simp only [List.map_cons, List.map_nil, List.cons.injEq, Prod.mk.injEq, and_true] at hf
  obtain ⟨⟨f1, f2, f3⟩, g1, g2, g3⟩ := hf
  have e1 := eq71g w 9996 (X := (X.drop 1).take 100) (Y := (Y.drop 1).take 100) (by simp; omega) (by simp; omega)
  rw [show (9996 + 3 : Nat) = 9999 from rfl] at e1
  have p1 := part_arr w X
  have p2 := part_arr w Y
  have key : X = Y ↔ geti X 0 = geti Y 0 ∧ (X.drop 1).take 100 = (Y.drop 1).take 100 := by
    constructor
    · rintro rfl; exact ⟨rfl, rfl⟩
    · rintro ⟨h1, h2⟩
      rw [List.take_of_length_le (by simp; omega), List.take_of_length_le (by simp; omega)] at h2
      match X, Y, hx, hy with
      | x :: X, y :: Y, _, _ =>
        have h3 : x = y := h1
        have h4 : X = Y := h2
        rw [h3, h4]
  generalize (X.drop 1).take 100 = X2 at *
  generalize (Y.drop 1).take 100 = Y2 at *
  simp only [Op.eqFields, f1, f2, f3, g1, g2, g3, ne_eq, String.reduceEq, not_false_eq_true, if_true, Sem.run_bind, part_int w (show 0 < X.length by omega), part_int w (show 0 < Y.length by omega), Result.andThen_ok, run_equalIn_int w 9998 3 .i64 .i64 _ _ Try.underlying3]
  by_cases a : geti X 0 = geti Y 0
  · simp only [a, BEq.rfl, Bool.not_true, Bool.false_eq_true, if_false, Sem.run_bind, p1, p2, Result.andThen_ok, e1]
    by_cases b : X2 = Y2
    · have hxy : X = Y := key.2 ⟨a, b⟩
      simp [b, hxy]
    · have hxy : ¬ X = Y := fun h => b (key.1 h).2
      simp [b, hxy]
  · have hxy : ¬ X = Y := fun h => a (key.1 h).1
    have e2 : (geti X 0 == geti Y 0) = false := by rw [beq_eq_false_iff_ne]; exact a
    simp [e2, hxy]
end Go.Proofs.Ytnnaaoobdofooaa
/- Rows that bear a weight; the weight is taken. -/
namespace Go.Proofs.Ytnnaaoobdofooaa
open Go.RowKit
set_option maxHeartbeats 1000000
set_option maxRecDepth 100000
theorem bears_any (K : List (List Int)) (A : Option Addr) (c : Nat) (wt : Int) (xs : List Int) (w : World) (h : IsT K) (hco : colsOk K.length xs = true) (ha : IntsAt w A xs) :
    Calls Try.prog 77 #[.agg (iv (grd K)).toArray, .agg #[.int .i64 wt, .slice A xs.length c]] w fun e w' => e = .returned (.bool (brs K wt xs K.length)) ∧ Below w.heap.size w w' := by
  have hle := h.le
  have hxl := cols_len hco
  have r0 : Row ((w.alloc (.cells (iv (grd K)).toArray 73)).alloc (.cells #[.int .i64 wt, .slice A xs.length c] 69)) w.heap.size 73 (iv (grd K)) := (row_new rfl).alloc _
  have q0 : Row ((w.alloc (.cells (iv (grd K)).toArray 73)).alloc (.cells #[.int .i64 wt, .slice A xs.length c] 69)) (w.heap.size + 1) 69 [.int .i64 wt, .slice A xs.length c] := row_new (by simp)
  have b0 : Below w.heap.size w ((w.alloc (.cells (iv (grd K)).toArray 73)).alloc (.cells #[.int .i64 wt, .slice A xs.length c] 69)) := by (repeat (first | exact Below.refl _ _ | assumption | (refine Below.setCell ?_ (by first | exact Nat.le_refl _ | omega | (simp; done) | (simp; omega)) _) | (refine Below.trans ?_ (below_drewN _)) | (refine Below.drew ?_) | (refine Below.alloc ?_ (by first | exact Nat.le_refl _ | omega | (simp; done) | (simp; omega)) _) | (refine below_row ?_ (by first | exact Nat.le_refl _ | omega | (simp; done) | (simp; omega)) _)))
  have HA := Lib.hid (ha.below b0)
  have HCG : Hid (∀ (W : World) (r c : Nat), r < 10 → c < 10 → Row W w.heap.size 73 (iv (grd K)) → W.cell? ⟨w.heap.size, 1 + r * 10 + c, none⟩ = some (.int .i64 (gat K r c))) := Lib.hid (fun W r c hr hc h => by
    have := ivR h (i := 1 + r * 10 + c) (by unfold grd; rw [grdP_len]; omega)
    rwa [Nat.add_assoc, grd_at K hr hc, ← Nat.add_assoc] at this)
  have HAT := Lib.hid (fun j (hj : j < xs.length) => cols_at hco (r := j) (by omega))
  have HNO := Lib.hid (fun k (hk : k < xs.length) h => brs_no (K := K) (wt := wt) (xs := xs) (k := k) (n := K.length) (by omega) h)
  have HYS := Lib.hid (fun k h0 h => brs_yes (K := K) (wt := wt) (xs := xs) (k := k) h0 h)
  have HXL := Lib.hid hxl
  have HG0 : Hid (brs K wt xs 0 = true) := Lib.hid rfl
  obtain ⟨⟨c0, c1⟩, -⟩ := q0.cells2
  clear ha h hco hxl
  go_enter Try.func77, Try.ntmps77
  go_wp2
  generalize World.alloc (World.alloc _ _) _ = W at *
  go_loopw [10] (fun i wr => ∃ k m : Nat, k ≤ xs.length ∧ i = .int .i64 k ∧ Hid (brs K wt xs k = true) ∧ wr = W.drewN m) (fun i _ => xs.length - (intOf i).toNat)
  case atStart => exact ⟨0, 0, by omega, rfl, HG0, rfl⟩
  case round =>
    clear HG0
    obtain ⟨k, m, hk, rfl, HG, rfl⟩ := hrel
    by_cases hlt : k < xs.length
    · have g1 : decide ((k : Int) < (xs.length : Int)) = true := decide_eq_true (by omega)
      have hkL : k < K.length := by rw [← HXL.out]; exact hlt
      obtain ⟨b, o, rfl, -, f1⟩ := HA.out (by omega)
      have e1 := f1 k hlt
      have hat := HAT.out k hlt
      have HN1 := Lib.hid (HNO.out k hlt)
      have HY1 := Lib.hid (HYS.out k HG.out)
      clear f1
      generalize geti xs k = x at *
      obtain ⟨X, rfl⟩ : ∃ X : Nat, x = X := ⟨x.toNat, by omega⟩
      have e3 := HCG.out _ k X (by omega) (by omega) r0
      rw [Int.toNat_natCast] at HN1 HY1
      have hX10 : X < 10 := by omega
      have hk10 : k < 10 := by omega
      clear hat
      generalize gat K k X = y at *
      by_cases h0 : y < wt
      · have g2 : decide (y < wt) = true := decide_eq_true h0
        have HF := Lib.hid (HN1.out h0)
        clear h0
        go_wp2
        refine wp_region_quiet_lit (by kernel_rfl) (by kernel_rfl) ?_
        repeat go_big_quiet_step ((fail))
        refine wpQuiet_nil ?_
        rintro _ ⟨nq, rfl⟩
        go_wp2
        go_ret
        exact ⟨by rw [HF.out]; rfl, b0.trans (by first | exact below_drewN _ | (rw [World.drewN_drewN]; exact below_drewN _))⟩
      · have g2 : decide (y < wt) = false := decide_eq_false h0
        have HG2 := Lib.hid (HY1.out (Int.not_lt.1 h0))
        clear h0
        go_wp2
        refine wp_region_quiet_lit (by kernel_rfl) (by kernel_rfl) ?_
        repeat go_big_quiet_step ((fail))
        refine wpQuiet_nil ?_
        rintro _ ⟨nq, rfl⟩
        go_wp2
        first
          | (go_roundw
             case rel => exact ⟨k + 1, m + nq, by omega, by go_num, HG2, (by first | rfl | exact World.drewN_drewN _ _ _)⟩
             case measure => simp [intOf]; omega)
          | exact ⟨⟨k + 1, m + nq, by omega, by go_num, HG2, (by first | rfl | exact World.drewN_drewN _ _ _)⟩, by simp [intOf]; omega⟩
    · obtain rfl : k = xs.length := by omega
      have g1 : decide ((xs.length : Int) < (xs.length : Int)) = false := decide_eq_false (by omega)
      have HF := Lib.hid HG.out
      go_wp2
      go_ret
      exact ⟨by rw [← HXL.out, HF.out]; rfl, b0.trans (below_drewN _)⟩
theorem take_any (K : List (List Int)) (A : Option Addr) (c g : Nat) (wt : Int) (xs : List Int) (w : World) (h : IsT K) (h1 : 1 ≤ wt) (hw : wt ≤ 9 ∨ K.length = 0) (hco : colsOk K.length xs = true) (hb : brs K wt xs K.length = true) (ha : IntsAt w A xs) (hr : Row w g 73 (iv (grd K))) (hA : 0 < xs.length → ∀ b o, A = some ⟨b, o, none⟩ → b < g) :
    Calls Try.prog 76 #[.pointer (some ⟨g, 0, none⟩), .agg #[.int .i64 wt, .slice A xs.length c]] w fun e w' => e = .returned (.tuple #[]) ∧ Row w' g 73 (iv (grd (subP K wt xs K.length))) ∧ Below g w w' := by
  have hle := h.le
  have hxl := cols_len hco
  have hgl := hr.lt
  have r0 : Row (w.alloc (.cells #[.int .i64 wt, .slice A xs.length c] 69)) g 73 (iv (grd (subP K wt xs 0))) := hr.alloc _
  have q0 : Row (w.alloc (.cells #[.int .i64 wt, .slice A xs.length c] 69)) w.heap.size 69 [.int .i64 wt, .slice A xs.length c] := row_new (by simp)
  have b0 : Below g w (w.alloc (.cells #[.int .i64 wt, .slice A xs.length c] 69)) := (Below.refl g w).alloc (by omega) _
  have HA := Lib.hid (fun (V : World) (hV : Below g w V) (hp : 0 < xs.length) => (by
    obtain ⟨b, o, e, hbl, hc⟩ := ha hp
    exact ⟨b, o, e, fun i hi => by rw [hV.cell (p := ⟨b, o + i, none⟩) (hA hp b o e)]; exact hc i hi⟩ : ∃ b o, A = some ⟨b, o, none⟩ ∧ ∀ i, i < xs.length → V.cell? ⟨b, o + i, none⟩ = some (.int .i64 (geti xs i))))
  have HAT := Lib.hid (fun j (hj : j < xs.length) => cols_at hco (r := j) (by omega))
  have HIS : Hid (∀ k, k ≤ K.length → IsT (subP K wt xs k)) := Lib.hid (fun k hk => subP_isT h h1 hco hb hk)
  have HLN := Lib.hid (fun k => subP_len K wt xs k)
  have HRW := Lib.hid (fun k (hk : k ≤ K.length) r (hr : r < K.length) => subP_row h.row wt xs k hk r hr)
  have HSO := Lib.hid (fun k (hk : k < K.length) => subP_own (wt := wt) h.row hco hk)
  have HBD := Lib.hid (fun r c => h.bd r c)
  have HGS : Hid (∀ k (hk : k < K.length), (iv (grd (subP K wt xs k))).set (1 + k * 10 + (geti xs k).toNat) (.int .i64 (gat K k (geti xs k).toNat - wt)) = iv (grd (subP K wt xs (k + 1)))) := Lib.hid (fun k hk => by
    have hx := cols_at hco (r := k) hk
    have h2 := HRW.out k (by omega) k hk
    rw [grd_set (by rw [subP_len]; exact hle) (by rw [subP_len]; exact hk) (by rw [h2]; omega) (by omega)]
    have e : subP K wt xs (k + 1) = setT (subP K wt xs k) k (geti xs k).toNat (gat (subP K wt xs k) k (geti xs k).toNat - wt) := rfl
    rw [e, HSO.out k hk])
  have HCG : Hid (∀ (V : World) (k : Nat), k < K.length → Row V g 73 (iv (grd (subP K wt xs k))) → V.cell? ⟨g, 1 + k * 10 + (geti xs k).toNat, none⟩ = some (.int .i64 (gat K k (geti xs k).toNat))) := Lib.hid (fun V k hk hV => by
    have hx := cols_at hco (r := k) hk
    have := ivR hV (i := 1 + k * 10 + (geti xs k).toNat) (by unfold grd; rw [grdP_len]; omega)
    rw [Nat.add_assoc, grd_at _ (by omega) (by omega), HSO.out k hk, ← Nat.add_assoc] at this
    exact this)
  have HXL := Lib.hid hxl
  obtain ⟨⟨c0, c1⟩, -⟩ := q0.cells2
  clear ha h hco hxl hb hr hA
  go_enter Try.func76, Try.ntmps76
  go_wp2
  have hs0 : w.heap.size < (w.alloc (.cells #[.int .i64 wt, .slice A xs.length c] 69)).heap.size := by simp
  generalize World.alloc w _ = W at *
  go_loopw [9] (fun i wr => ∃ k : Nat, k ≤ xs.length ∧ i = .int .i64 k ∧ Row wr g 73 (iv (grd (subP K wt xs k))) ∧ Row wr w.heap.size 69 [.int .i64 wt, .slice A xs.length c] ∧ Below g w wr) (fun i _ => xs.length - (intOf i).toNat)
  case atStart => exact ⟨0, by omega, rfl, r0, q0, b0⟩
  case round =>
    clear r0 q0 b0 c0 c1
    obtain ⟨k, hk, rfl, r0, q0, b0⟩ := hrel
    obtain ⟨⟨c0, c1⟩, -⟩ := q0.cells2
    by_cases hlt : k < xs.length
    · have g1 : decide ((k : Int) < (xs.length : Int)) = true := decide_eq_true (by omega)
      have hkL : k < K.length := by rw [← HXL.out]; exact hlt
      obtain ⟨b, o, hAe, f1⟩ := HA.out wr b0 (by omega)
      subst hAe
      have e1 := f1 k hlt
      have hat := HAT.out k hlt
      have e3 := HCG.out wr k hkL r0
      have HGS1 := Lib.hid (HGS.out k hkL)
      have hbd := HBD.out k (geti xs k).toNat
      clear f1
      generalize geti xs k = x at *
      obtain ⟨X, rfl⟩ : ∃ X : Nat, x = X := ⟨x.toNat, by omega⟩
      rw [Int.toNat_natCast] at e3 HGS1 hbd
      have hX10 : X < 10 := by omega
      have hk10 : k < 10 := by omega
      have hw9 : wt ≤ 9 := by omega
      obtain ⟨hy0, hy9⟩ := hbd
      have e4 := r0.free (1 + k * 10 + X)
      clear hat
      generalize gat K k X = y at *
      go_wp2
      refine wp_region_quiet_tail 15 (by kernel_rfl) (by kernel_rfl) ?_
      simp only [List.take_succ_cons, List.take_zero, List.drop_succ_cons, List.drop_zero]
      repeat go_big_quiet_step ((fail))
      refine wpQuiet_nil ?_
      rintro _ ⟨nq, rfl⟩
      go_wp2
      exact ⟨⟨k + 1, by omega, by go_num, by
          have hq := (r0.drewN nq).set (1 + k * 10 + X) (.int .i64 (y - wt))
          rw [HGS1.out] at hq
          exact hq, (q0.drewN nq).far (by dsimp only; omega) _, (b0.trans (below_drewN nq)).setCell (Nat.le_refl g) _⟩, by simp [intOf]; omega⟩
    · obtain rfl : k = xs.length := by omega
      have g1 : decide ((xs.length : Int) < (xs.length : Int)) = false := decide_eq_false (by omega)
      go_wp2
      go_end0
      exact ⟨rfl, by rw [← HXL.out]; exact r0, b0⟩
end Go.Proofs.Ytnnaaoobdofooaa
/- Are these layers? -/
namespace Go.Proofs.Ytnnaaoobdofooaa
open Go.RowKit
set_option maxHeartbeats 1000000
set_option maxRecDepth 100000
/-- Layers in memory. -/
def LaysAt (w : World) (A : Option Addr) (ls : List Lay) : Prop :=
  0 < ls.length → ∃ b o, A = some ⟨b, o, none⟩ ∧ b < w.heap.size ∧ ∀ i, i < ls.length → w.cell? ⟨b, o + i * 2, none⟩ = some (.int .i64 (laW ls i)) ∧ ∃ B c, w.cell? ⟨b, o + i * 2 + 1, none⟩ = some (.slice B (laC ls i).length c) ∧ IntsAt w B (laC ls i) ∧ (laC ls i).length ≤ 1000000
theorem LaysAt.below {w w' : World} {A : Option Addr} {ls : List Lay} (h : LaysAt w A ls) (k : Below w.heap.size w w') : LaysAt w' A ls := fun hp => by
  obtain ⟨b, o, e, hb, hc⟩ := h hp
  refine ⟨b, o, e, Nat.lt_of_lt_of_le hb k.size, fun i hi => ?_⟩
  obtain ⟨h1, B, c, h2, h3, h4⟩ := hc i hi
  exact ⟨(k.cell (p := ⟨b, _, none⟩) hb).trans h1, B, c, (k.cell (p := ⟨b, _, none⟩) hb).trans h2, h3.below k, h4⟩
theorem lay_w9 {K : List (List Int)} (hK : IsT K) {wt : Int} {xs : List Int} (h : layOk K (wt, xs) = true) : wt ≤ 9 ∨ K.length = 0 := by
  obtain ⟨h1, h2, h3⟩ := layOk_parts h
  by_cases e : K.length = 0
  · exact Or.inr e
  · have := brs_at h3 (j := 0) (by omega)
    have := (hK.bd 0 (geti xs 0).toNat).2
    exact Or.inl (by omega)
theorem isSplit_any (T : List (List Int)) (A : Option Addr) (c : Nat) (ls : List Lay) (w : World) (h : IsT T) (hls : ls.length ≤ 1000000) (ha : LaysAt w A ls) :
    Calls Try.prog 64 #[.agg (iv (grd T)).toArray, .slice A ls.length c] w fun e w' => e = .returned (.bool (splA T ls)) ∧ Below w.heap.size w w' := by
  have hle := h.le
  have r0 : Row (w.alloc (.cells (iv (grd T)).toArray 73)) w.heap.size 73 (iv (grd T)) := row_new rfl
  have b0 : Below w.heap.size w (w.alloc (.cells (iv (grd T)).toArray 73)) := by (repeat (first | exact Below.refl _ _ | assumption | (refine Below.setCell ?_ (by first | exact Nat.le_refl _ | omega | (simp; done) | (simp; omega)) _) | (refine Below.trans ?_ (below_drewN _)) | (refine Below.drew ?_) | (refine Below.alloc ?_ (by first | exact Nat.le_refl _ | omega | (simp; done) | (simp; omega)) _) | (refine below_row ?_ (by first | exact Nat.le_refl _ | omega | (simp; done) | (simp; omega)) _)))
  by_cases hl : ls.length ≤ 100
  · have g0 : decide (100 < (ls.length : Int)) = false := decide_eq_false (by omega)
    have HF : Hid (splA T ls = splB T ls) := Lib.hid (by unfold splA; rw [decide_eq_true hl]; rfl)
    have HA := Lib.hid ha
    go_enter Try.func64, Try.ntmps64
    go_wp2
    have HI0 : Hid (splB T ls = splB T (ls.drop 0)) := Lib.hid (by rw [List.drop_zero])
    have HT0 : Hid (IsT T) := Lib.hid h
    have hi := info73_iv (x := grd T) (grdP_len _ 100)
    have HSA := Lib.hid (fun K k (hk : k < ls.length) => splB_at (K := K) hk)
    have HSE := Lib.hid (fun K => splB_end (K := K) (ls := ls) (Nat.le_refl _))
    clear ha h
    go_loopw [12] (fun v wr => ∃ (k : Nat) (K : List (List Int)), k ≤ ls.length ∧ v = .int .i64 k ∧ Hid (splB T ls = splB K (ls.drop k)) ∧ Hid (IsT K) ∧ Hid (K.length = T.length) ∧ Row wr w.heap.size 73 (iv (grd K)) ∧ Below w.heap.size w wr) (fun v _ => ls.length - (intOf v).toNat)
    case atStart => exact ⟨0, T, by omega, rfl, HI0, HT0, Lib.hid rfl, r0, b0⟩
    case round =>
      clear HI0 HT0 r0 b0
      obtain ⟨k, K, hk, rfl, HI0, HT0, HL0, r0, b0⟩ := hrel
      by_cases hlt : k < ls.length
      · have g1 : decide ((k : Int) < (ls.length : Int)) = true := decide_eq_true (by omega)
        obtain ⟨b, o, hAe, hb, hc⟩ := HA.out (by omega)
        subst hAe
        obtain ⟨e1, B, d, e2, i2, hl2⟩ := hc k hlt
        replace e1 := (b0.cell (p := ⟨b, _, none⟩) hb).trans e1
        replace e2 := (b0.cell (p := ⟨b, _, none⟩) hb).trans e2
        have HIL : Hid (0 < (laC ls k).length → ∀ b' o', B = some ⟨b', o', none⟩ → b' < w.heap.size) := Lib.hid (fun hp b' o' hB => by
          obtain ⟨b9, o9, e9, hb9, -⟩ := i2 hp
          rw [hB] at e9
          injection e9 with e9
          injection e9 with e9
          omega)
        replace i2 := i2.below b0
        have HS1 := Lib.hid (by have := HSA.out K k hlt; exact this)
        have HI2 := Lib.hid i2
        clear hc i2
        generalize laW ls k = wt at *
        generalize laC ls k = xs at *
        have hi1 := info73_iv (x := grd K) (grdP_len _ 100)
        have q0 : Row (wr.alloc (.cells #[.int .i64 wt, .slice B xs.length d] 69)) wr.heap.size 69 [.int .i64 wt, .slice B xs.length d] := row_new rfl
        have r1 := r0.alloc (.cells #[.int .i64 wt, .slice B xs.length d] 69)
        have b1 := b0.alloc b0.size (.cells #[.int .i64 wt, .slice B xs.length d] 69)
        have z1 : Below wr.heap.size wr (wr.alloc (.cells #[.int .i64 wt, .slice B xs.length d] 69)) := (Below.refl _ _).alloc (Nat.le_refl _) _
        obtain ⟨⟨c0, c1⟩, -⟩ := q0.cells2
        by_cases hw1 : wt < 1
        · have g2 : decide (wt < 1) = true := decide_eq_true hw1
          have HF2 : Hid (splA T ls = false) := Lib.hid (by rw [HF.out, HI0.out, HS1.out]; unfold layOk; rw [g2]; rfl)
          clear hw1
          go_wp2
          go_ret
          exact ⟨by rw [HF2.out]; rfl, b1⟩
        · have g2 : decide (wt < 1) = false := decide_eq_false hw1
          have HC := Lib.hid (isChoice_any K B d xs _ HT0.out hl2 (HI2.out.below z1))
          cases hco : colsOk K.length xs
          · have HF2 : Hid (splA T ls = false) := Lib.hid (by rw [HF.out, HI0.out, HS1.out]; unfold layOk; rw [g2, hco]; rfl)
            rw [hco] at HC
            clear hw1 hco
            go_wp2_with (first
              | (go_big_want; refine wp_load_row 73 (.tmp 2) rfl w.heap.size rfl 73 (iv (grd K)).toArray (0, 0) _ (row_heap r1) Try.underlying73 rfl hi1 ?_)
              | (go_at_call 72; refine HC.out.mono ?_; rintro e w2 ⟨rfl, b2⟩; replace b1 := b1.trans (b2.mono b1.size)))
            go_ret
            exact ⟨by rw [HF2.out]; rfl, b1⟩
          · rw [hco] at HC
            have hxl := cols_len hco
            have HBR := Lib.hid (fun (V : World) hV => bears_any K B d wt xs V HT0.out hco ((HI2.out.below z1).below hV))
            cases hbr : brs K wt xs K.length
            · have HF2 : Hid (splA T ls = false) := Lib.hid (by rw [HF.out, HI0.out, HS1.out]; unfold layOk; rw [g2, hco, hbr]; rfl)
              rw [hbr] at HBR
              clear hw1 hco hbr hxl
              go_wp2_with (first
                | (go_big_want; refine wp_load_row 73 (.tmp 2) rfl w.heap.size rfl 73 (iv (grd K)).toArray (0, 0) _ (row_heap r1) Try.underlying73 rfl hi1 ?_)
                | (go_at_call 72; refine HC.out.mono ?_; rintro e w2 ⟨rfl, b2⟩; replace r1 := r1.below b2; replace q0 := q0.below b2; obtain ⟨⟨c0, c1⟩, -⟩ := q0.cells2; replace b1 := b1.trans (b2.mono b1.size))
                | (go_at_call 77; refine (HBR.out _ b2).mono ?_; rintro e w3 ⟨rfl, b3⟩; replace b1 := b1.trans (b3.mono b1.size)))
              go_ret
              exact ⟨by rw [HF2.out]; rfl, b1⟩
            · have hok : layOk K (wt, xs) = true := by unfold layOk; rw [g2, hco, hbr]; rfl
              have HTK := Lib.hid (fun (V : World) (hi : IntsAt V B xs) (hr : Row V w.heap.size 73 (iv (grd K))) (hB : 0 < xs.length → ∀ b o, B = some ⟨b, o, none⟩ → b < w.heap.size) => take_any K B d w.heap.size wt xs V HT0.out (by omega) (lay_w9 HT0.out hok) hco hbr hi hr hB)
              have HN1 : Hid (IsT (subP K wt xs K.length)) := Lib.hid (subP_isT HT0.out (by omega) hco hbr (Nat.le_refl _))
              have HN2 : Hid ((subP K wt xs K.length).length = T.length) := Lib.hid (by rw [subP_len]; exact HL0.out)
              have HN3 : Hid (splB T ls = splB (subP K wt xs K.length) (ls.drop (k + 1))) := Lib.hid (by rw [HI0.out, HS1.out, hok]; rfl)
              rw [hbr] at HBR
              clear hw1 hco hbr hok hxl
              go_wp2_with (first
                | (go_big_want; refine wp_load_row 73 (.tmp 2) rfl w.heap.size rfl 73 (iv (grd K)).toArray (0, 0) _ (row_heap r1) Try.underlying73 rfl hi1 ?_)
                | (go_at_call 72; refine HC.out.mono ?_; rintro e w2 ⟨rfl, b2⟩; replace r1 := r1.below b2; replace q0 := q0.below b2; obtain ⟨⟨c0, c1⟩, -⟩ := q0.cells2; replace b1 := b1.trans (b2.mono b1.size); have I2 := Lib.hid ((HI2.out.below z1).below b2))
                | (go_at_call 77; refine (HBR.out _ b2).mono ?_; rintro e w3 ⟨rfl, b3⟩; replace r1 := r1.below b3; replace q0 := q0.below b3; obtain ⟨⟨c0, c1⟩, -⟩ := q0.cells2; replace b1 := b1.trans (b3.mono b1.size); replace I2 := Lib.hid (I2.out.below b3))
                | (go_at_call 76; fail))
              refine (HTK.out _ I2.out r1 HIL.out).mono ?_
              rintro e w4 ⟨rfl, r4, b4⟩
              have b5 := b1.trans b4
              go_wp2
              exact ⟨⟨k + 1, subP K wt xs K.length, by omega, by go_num, HN3, HN1, HN2, r4, b5⟩, by simp [intOf]; omega⟩
      · obtain rfl : k = ls.length := by omega
        have g1 : decide ((ls.length : Int) < (ls.length : Int)) = false := decide_eq_false (by omega)
        have hz : Try.zeroCells73.setIfInBounds 0 (.int .i64 (K.length : Int)) = (iv (zgrd K.length)).toArray := by rw [z73, z73_set K, grdP_zero K]; rfl
        have hi1 := info73_iv (x := grd K) (grdP_len _ 100)
        have c0 := ivR r0 (i := 0) (by unfold grd; rw [grdP_len]; omega)
        rw [show geti (grd K) 0 = (K.length : Int) from rfl] at c0
        have HZ := Lib.hid (zer_grd HT0.out)
        have HFE : Hid (splA T ls = zerB K) := Lib.hid (by rw [HF.out, HI0.out, HSE.out])
        have E73 := fun W => eq73 (X := grd K) (Y := zgrd K.length) (grdP_len _ 100) (by unfold zgrd; simp) W
        clear HI0 HT0 HL0 HF HA HSA HSE
        go_wp2_with (with_reducible refine (?_ : wpList _ _ _ (Oper.mk _ (Op.load 73 _) _ _ _ _ :: _) _ _); refine wpList_load_row rfl 73 (.tmp 2) rfl w.heap.size rfl 73 (iv (grd K)).toArray (0, 0) _ (row_heap r0) Try.underlying73 rfl hi1 ?_)
        go_ret
        exact ⟨by rw [HZ.out, HFE.out]; rfl, b0⟩
  · have g0 : decide (100 < (ls.length : Int)) = true := decide_eq_true (by omega)
    have HF : Hid (splA T ls = false) := Lib.hid (by unfold splA; rw [decide_eq_false hl]; rfl)
    clear ha h
    go_enter Try.func64, Try.ntmps64
    go_wp2
    go_ret
    exact ⟨by rw [HF.out]; rfl, b0⟩
end Go.Proofs.Ytnnaaoobdofooaa
