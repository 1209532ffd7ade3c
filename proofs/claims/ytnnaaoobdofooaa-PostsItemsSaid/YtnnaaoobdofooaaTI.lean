/- Most. -/
import Derived.Test.YtnnaaoobdofooaaTH
import Derived.Test.YtnnaaoobdofooaaSW
import Derived.Test.YtnnaaoobdofooaaTK
namespace Go.Proofs.Ytnnaaoobdofooaa
open Go.RowKit
set_option maxHeartbeats 1000000
set_option maxRecDepth 100000
theorem results_tmp4 {fn : Func} {t u v s : Tmp} (h : fn.results = #[.tmp t, .tmp u, .tmp v, .tmp s]) (tmps : Array Value) (P : Program) (w : World) :
    (results fn tmps).run P w = .ok (.tuple #[tmps.getD t undef, tmps.getD u undef, tmps.getD v undef, tmps.getD s undef]) w := by
  simp [results, h]
def mM (L : List (List Int)) : List Int := (jn L L.length).2
def mS (L : List (List Int)) : Nat := (jn L L.length).1
def mR (L : List (List Int)) : List Int := lsS (rowS L.length (mM L) (mS L)) 10
def mC (L : List (List Int)) : List Int := lsS (mS L) 10
theorem mI {L : List (List Int)} (h : IsT L) : JnI L L.length (mS L) (mM L) := jn_inv h L.length (Nat.le_refl _)
theorem pcs_at (ps : List (Int × Int)) : ∀ k, k < ps.length → (pcs ps)[k * 2]? = some (.int .i64 (geti (ps.map (·.1)) k)) ∧ (pcs ps)[k * 2 + 1]? = some (.int .i64 (geti (ps.map (·.2)) k)) := by
  induction ps with
  | nil => intro k h; exact absurd h (by simp)
  | cons p ps ih =>
    intro k h
    have e : pcs (p :: ps) = .int .i64 p.1 :: .int .i64 p.2 :: pcs ps := rfl
    cases k with
    | zero => exact ⟨rfl, rfl⟩
    | succ k =>
      have h2 := ih k (by simpa using h)
      rw [e, show (k + 1) * 2 = k * 2 + 1 + 1 by omega]
      exact h2
theorem prs_cells {W : World} {z n : Nat} {v : Value} {M : List Int} {r : Nat} (h : W.ownsRow z 36 2 v n (pcs (prs M r))) : ∃ A c, v = .slice A (rsP M r).length c ∧ n = (rsP M r).length ∧ PrsAt W A (rsP M r) (csP M r) := by
  have hl : (prs M r).length = n := by have := h.1; rw [pcs_len] at this; omega
  subst hl
  rcases h.2 with ⟨rfl, h0⟩ | ⟨g, cap, cur, rfl, hb, hg, hc, _, hs, ht⟩
  · exact ⟨none, 0, by rw [rsP_len, h0], (rsP_len M r).symm, fun hp => by rw [rsP_len] at hp; omega⟩
  · refine ⟨_, cap, by rw [rsP_len], (rsP_len M r).symm, fun hp => ⟨g, 0, rfl, (Array.getElem?_eq_some_iff.1 hg).1, fun i hi => ?_⟩⟩
    rw [rsP_len] at hi
    obtain ⟨a1, a2⟩ := pcs_at (prs M r) i hi
    have h1 := h.cells (g := g) rfl _ _ a1
    have h2 := h.cells (g := g) rfl _ _ a2
    rw [WideShapes.add_plain] at h1 h2
    exact ⟨h1, h2⟩
theorem Most_no (A : Option Addr) (c : Nat) (L : List (List Int)) (w : World) (hv : okT L = false) (ha : RowsAt w A L) :
    Calls Try.prog 36 #[.slice A L.length c] w fun e w' => e = .returned (.tuple #[.slice none 0 0, .slice none 0 0, .slice none 0 0, .int .i64 2]) ∧ Below w.heap.size w w' := by
  have HR := Lib.hid (readTable_no A c L w hv ha)
  clear hv ha
  go_enter Try.func36, Try.ntmps36
  go_wp2_with (first
    | (go_at_call 48; refine HR.out.mono ?_; rintro e w2 ⟨rfl, b2⟩; have q0 : Row (w2.alloc (.cells Try.zeroCells73 73)) w2.heap.size 73 Try.zeroCells73.toList := row_new (by simp); have b0 := b2.alloc b2.size (.cells Try.zeroCells73 73); have hbz := b2.size)
    | (with_reducible refine (?_ : wpList _ _ _ (Oper.mk _ (Op.store 73 (.tmp 6) _) _ _ _ _ :: _) _ _); refine wpList_store_row rfl 73 (.tmp 6) (.tmp 13) rfl w2.heap.size Try.zeroCells73 rfl rfl 73 Try.zeroCells73.toList.toArray (row_heap q0) info73_z rfl z73_all ?_; replace b0 := below_row (g := w2.heap.size) b0 hbz Try.zeroCells73; generalize World.setRow (w2.alloc _) _ _ = W at *))
  refine bodyPost_ret (results_tmp4 rfl _ _ _) rfl ?_
  exact ⟨rfl, b0⟩
theorem Most_yes (A : Option Addr) (c : Nat) (L : List (List Int)) (w : World) (h : IsT L) (ha : RowsAt w A L) :
    Calls Try.prog 36 #[.slice A L.length c] w fun e w' => ∃ A1 c1 A2 c2 A3 c3, e = .returned (.tuple #[.slice A1 (rsP (mM L) L.length).length c1, .slice A2 (mR L).length c2, .slice A3 (mC L).length c3, .int .i64 0]) ∧ PrsAt w' A1 (rsP (mM L) L.length) (csP (mM L) L.length) ∧ IntsAt w' A2 (mR L) ∧ IntsAt w' A3 (mC L) ∧ Below w.heap.size w w' := by
  have HR := Lib.hid (readTable_yes A c L w h ha)
  have HJ := Lib.hid (fun w => join_any L w h)
  have I := mI h
  have HSH := Lib.hid (fun w => short_any L.length (mM L) (mS L) w h.le I.ok I.lt)
  have HP := Lib.hid (fun w => pairs_any L.length (mM L) (mS L) w h.le I.ok.len)
  have HL1 := Lib.hid (fun w => list57_any (rowS L.length (mM L) (mS L)) w (rowS_lt h.le _ _))
  have HL2 := Lib.hid (fun w => list57_any (mS L) w I.lt)
  have HF := Lib.hid (fun w => first_any L.length w (by have := h.le; omega))
  have HB := Lib.hid (andNot_bits (sAll L.length) (shR L.length (mM L) (mS L) 10) (all_lt (by have := h.le; omega)) (shR_lt h.le _ _ _))
  have HC0 : Hid (∀ (W : World) (g : Nat), Row W g 73 (iv (grd L)) → W.cell? ⟨g, 0, none⟩ = some (.int .i64 (L.length : Int))) := Lib.hid (fun W g h => ivR h (i := 0) (by unfold grd; rw [grdP_len]; omega))
  have hi := info73_iv (x := grd L) (grdP_len _ 100)
  have hsz : Try.zeroCells73.toList.toArray.size = (iv (grd L)).toArray.size := by rw [z73]; exact size73_iv (by simp) (grdP_len L 100)
  have hM := I.ok.len
  clear h ha I
  go_enter Try.func36, Try.ntmps36
  go_wp2_with (first
    | (go_at_call 48; refine HR.out.mono ?_; rintro e w2 ⟨rfl, b2⟩; have q0 : Row (w2.alloc (.cells Try.zeroCells73 73)) w2.heap.size 73 Try.zeroCells73.toList := row_new (by simp); have b0 := b2.alloc b2.size (.cells Try.zeroCells73 73); have hbz := b2.size)
    | (with_reducible refine (?_ : wpList _ _ _ (Oper.mk _ (Op.store 73 (.tmp 6) _) _ _ _ _ :: _) _ _); refine wpList_store_row rfl 73 (.tmp 6) (.tmp 13) rfl w2.heap.size (iv (grd L)).toArray rfl rfl 73 Try.zeroCells73.toList.toArray (row_heap q0) hi hsz (iv_all _) ?_; replace q0 := q0.row (iv (grd L)); replace b0 := below_row (g := w2.heap.size) b0 hbz (iv (grd L)).toArray; generalize World.setRow (w2.alloc _) _ _ = W at *; have c0 := HC0.out W _ q0)
    | (with_reducible refine (?_ : wpList _ _ _ (Oper.mk _ (Op.load 73 _) _ _ _ _ :: _) _ _); refine wpList_load_row rfl 73 (.tmp 6) rfl w2.heap.size rfl 73 (iv (grd L)).toArray (0, 0) _ (row_heap q0) Try.underlying73 rfl hi ?_)
    | (go_at_call 55; fail))
  refine (HJ.out _).mono ?_
  rintro e w5 ⟨rfl, b5⟩
  replace b0 := b0.trans (b5.mono b0.size)
  rw [show (jn L L.length).2 = mM L from rfl, show (jn L L.length).1 = mS L from rfl]
  have hg2 : w2.heap.size < w5.heap.size := Nat.lt_of_lt_of_le q0.lt b5.size
  replace q0 := (q0.below b5).alloc (.cells #[.int .i64 0, .int .i64 0, .int .i64 0, .int .i64 0, .int .i64 0, .int .i64 0, .int .i64 0, .int .i64 0, .int .i64 0, .int .i64 0, .int .i64 0, .int .u16 0] 87)
  clear b5 HJ HR c0
  have q8 : Row (w5.alloc (.cells #[.int .i64 0, .int .i64 0, .int .i64 0, .int .i64 0, .int .i64 0, .int .i64 0, .int .i64 0, .int .i64 0, .int .i64 0, .int .i64 0, .int .i64 0, .int .u16 0] 87)) w5.heap.size 87 (jc 0 (iniM 0) 0) := row_new rfl
  have hi8 : (Try.prog.info? 87).map (·.size) = some (jc L.length (mM L) (mS L)).toArray.size := by rw [List.size_toArray, jc_len _ _ _ hM]; exact info87
  have hsz8 : (jc 0 (iniM 0) 0).toArray.size = (jc L.length (mM L) (mS L)).toArray.size := by rw [List.size_toArray, List.size_toArray, jc_len _ _ _ hM, jc_len _ _ _ (iniM_len 0)]
  have b8 := b0.alloc b0.size (.cells #[.int .i64 0, .int .i64 0, .int .i64 0, .int .i64 0, .int .i64 0, .int .i64 0, .int .i64 0, .int .i64 0, .int .i64 0, .int .i64 0, .int .i64 0, .int .u16 0] 87)
  go_wp2_with (first
    | (with_reducible refine (?_ : wpList _ _ _ (Oper.mk _ (Op.store 87 (.tmp 8) _) _ _ _ _ :: _) _ _); go_loud (refine wpList_store_row rfl 87 (.tmp 8) (.tmp 18) rfl w5.heap.size (jc L.length (mM L) (mS L)).toArray rfl rfl 87 (jc 0 (iniM 0) 0).toArray (row_heap q8) hi8 hsz8 (jc_one _ _ _) ?_); replace q8 := q8.row (jc L.length (mM L) (mS L)); replace q0 := q0.row_far (k := w5.heap.size) (Nat.ne_of_lt hg2) (jc L.length (mM L) (mS L)).toArray; replace b8 := below_row (g := w5.heap.size) b8 b0.size (jc L.length (mM L) (mS L)).toArray; generalize World.setRow (w5.alloc _) _ _ = V at *; have c0 := HC0.out V _ q0)
    | (go_at_call 50; fail) | (go_at_call 56; fail))
  have hi9 : (Try.prog.info? 87).map (·.size) = some (jc L.length (mM L) (mS L)).length := by rw [jc_len _ _ _ hM]; exact info87
  have c9 : ∀ u : After V, u.v.cell? ⟨w2.heap.size, 0, none⟩ = some (.int .i64 (L.length : Int)) := fun u => After.cell c0 u
  refine wp_region_class_all (C := fun w' => ∃ u : After _, w' = u.v) (by kernel_rfl) (by kernel_rfl) (isAfter_start _) ?_
  try simp only [Act.put]
  repeat (first | ((with_reducible refine (?_ : wpQuiet _ _ _ _ (Oper.mk (some 22) _ _ _ _ _ :: _) _); go_big_quiet_want); refine quiet_load_row 87 (.tmp 8) rfl w5.heap.size rfl 87 (jc L.length (mM L) (mS L)) _ (fun _ hc => after_row q8 hc) Try.underlying87 rfl hi9 ?_; simp only [Act.put, List.setIfInBounds_toArray, List.set_cons_zero, List.set_cons_succ]; go_big_quiet_on) | go_big_quiet_step ((first | (with_reducible refine (HF.out _).mono ?_; rintro e w8 ⟨rfl, rfl⟩; exact ⟨rfl, ⟨_, rfl⟩⟩) | (with_reducible refine (HSH.out _).mono ?_; rintro e w8 ⟨rfl, b8⟩; exact ⟨rfl, After.done _ b8⟩))))
  refine wpQuiet_nil ?_
  rintro _ ⟨ua, rfl⟩
  rw [HB.out, show sAndNot (sAll L.length) (shR L.length (mM L) (mS L) 10) = rowS L.length (mM L) (mS L) from rfl]
  have q9 := After.row q8 ua
  replace b8 := b8.trans (ua.h.mono b8.size)
  have hz8 : w.heap.size ≤ w5.heap.size := b0.size
  clear c9 c0 q0 q8 hi8 hsz8 HF HSH HB HC0 hi hsz b0 b2 hbz
  generalize ua.v = V9 at *
  go_wp2
  refine wp_region_noPanic ?_
  refine wp_region_held_drew (S := fun V => Row V w5.heap.size 87 (jc L.length (mM L) (mS L)) ∧ Below w.heap.size w V) (by kernel_rfl) ⟨q9.drew, b8.drew⟩ (fun hH => ?_)
  try simp only [Act.put]
  clear q9 b8
  have HC11 : Hid (∀ V : World, Row V w5.heap.size 87 (jc L.length (mM L) (mS L)) → V.cell? ⟨w5.heap.size, 11, none⟩ = some (.int .u16 (mS L))) := Lib.hid (fun V hV => by rw [hV.cell, jc_st hM])
  generalize World.drew V9 = Wd at *
  refine wpAnyH_take (i := 0) (v := .agg (jc L.length (mM L) (mS L)).toArray) rfl (by kernel_rfl) (by kernel_rfl) (by kernel_rfl) (fun _ _ _ h => h) (yieldsIf_load_mid (by rfl) _ _ rfl _ _ rfl _ _ (fun V hV => hV.1.range) Try.underlying87 rfl hi9) hH ?_
  simp only [List.getElem_toArray, List.getElem_cons_zero, Act.put, List.setIfInBounds_toArray, List.set_cons_zero, List.set_cons_succ]
  refine wpAnyH_take (i := 2) (v := .int .u16 (rowS L.length (mM L) (mS L))) rfl (by kernel_rfl) (by kernel_rfl) (by kernel_rfl) (fun _ _ _ h => h) (Or.inl ⟨by rfl, fun V hV => ?_⟩) hH ?_
  · go_simp
  simp only [List.getElem_toArray, List.getElem_cons_zero, List.getElem_cons_succ, Act.put, List.setIfInBounds_toArray, List.set_cons_zero, List.set_cons_succ]
  refine wpAnyH_take (i := 4) (v := .pointer (some ⟨w5.heap.size, 11, none⟩)) rfl (by kernel_rfl) (by kernel_rfl) (by kernel_rfl) (fun _ _ _ h => h) (Or.inl ⟨by rfl, fun V hV => ?_⟩) hH ?_
  · go_simp
  simp only [List.getElem_toArray, List.getElem_cons_zero, List.getElem_cons_succ, Act.put, List.setIfInBounds_toArray, List.set_cons_zero, List.set_cons_succ]
  refine wpAnyH_take (i := 5) (v := .int .u16 (mS L)) rfl (by kernel_rfl) (by kernel_rfl) (by kernel_rfl) (fun _ _ _ h => h) (Or.inl ⟨by rfl, fun V hV => ?_⟩) hH ?_
  · have c0 := HC11.out V hV.1
    go_simp
  simp only [List.getElem_toArray, List.getElem_cons_zero, List.getElem_cons_succ, Act.put, List.setIfInBounds_toArray, List.set_cons_zero, List.set_cons_succ]
  refine wpAnyH_ready (rs := [1]) (by kernel_rfl) (by simp) ?_
  refine AllReadyH.cons rfl (fun K hK => ?_) AllReadyH.nil
  go_simp
  refine (HP.out _).mono ?_
  rintro e w6 ⟨v1, rfl, o1, b6⟩
  go_wp2_with fail
  refine hK.out _ _ ⟨hH.1.below b6, hH.2.trans (b6.mono hH.2.size)⟩ (fun hH => ?_)
  clear hK K
  obtain ⟨A1, c1, hv1, -, P1⟩ := prs_cells o1
  refine wpAnyH_ready (rs := [3]) (by kernel_rfl) (by simp) ?_
  refine AllReadyH.cons rfl (fun K hK => ?_) AllReadyH.nil
  go_simp
  refine (HL1.out _).mono ?_
  rintro e w7 ⟨v2, rfl, o2, b7⟩
  go_wp2_with fail
  refine hK.out _ _ ⟨hH.1.below b7, hH.2.trans (b7.mono hH.2.size)⟩ (fun hH => ?_)
  clear hK K
  obtain ⟨A2, c2, hv2, -, -, I2⟩ := own_intsI o2
  replace P1 := P1.below b7
  refine wpAnyH_ready (rs := [6]) (by kernel_rfl) (by simp) ?_
  refine AllReadyH.cons rfl (fun K hK => ?_) AllReadyH.nil
  go_simp
  refine (HL2.out _).mono ?_
  rintro e w10 ⟨v3, rfl, o3, b10⟩
  go_wp2_with fail
  refine hK.out _ _ ⟨hH.1.below b10, hH.2.trans (b10.mono hH.2.size)⟩ (fun hH => ?_)
  clear hK K
  obtain ⟨A3, c3, hv3, -, -, I3⟩ := own_intsI o3
  replace P1 := P1.below b10
  replace I2 := I2.below b10
  clear o1 o2 o3
  refine wpAnyH_ready (rs := [7]) (by kernel_rfl) (by simp) ?_
  refine AllReadyH.cons rfl (fun K hK => ?_) AllReadyH.nil
  go_simp
  refine hK.out _ _ hH (fun hH => ?_)
  clear hK K
  refine wpAnyH_ready (rs := [8]) (by kernel_rfl) (by simp) ?_
  refine AllReadyH.cons rfl (fun K hK => ?_) AllReadyH.nil
  go_simp
  refine hK.out _ _ hH (fun hH => ?_)
  clear hK K
  refine wpAnyH_ready (rs := [9]) (by kernel_rfl) (by simp) ?_
  refine AllReadyH.cons rfl (fun K hK => ?_) AllReadyH.nil
  go_simp
  refine hK.out _ _ hH (fun hH => ?_)
  clear hK K
  refine wpAnyH_ready (rs := [10]) (by kernel_rfl) (by simp) ?_
  refine AllReadyH.cons rfl (fun K hK => ?_) AllReadyH.nil
  go_simp
  refine hK.out _ _ hH (fun hH => ?_)
  clear hK K
  refine wpAnyH_done (by kernel_rfl) ?_ _
  refine NoPanic.normal ?_
  go_wp2_with fail
  refine bodyPost_ret (results_tmp4 rfl _ _ _) rfl ?_
  exact ⟨A1, c1, A2, c2, A3, c3, by subst hv1 hv2 hv3; rfl, P1, I2, I3, hH.2⟩
end Go.Proofs.Ytnnaaoobdofooaa
