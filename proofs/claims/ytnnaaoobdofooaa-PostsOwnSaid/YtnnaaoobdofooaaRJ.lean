/- Permanent, Level, Item. -/
import Derived.Test.YtnnaaoobdofooaaRI
namespace Go.Proofs.Ytnnaaoobdofooaa
open Go.RowKit
set_option maxHeartbeats 1000000
set_option maxRecDepth 100000
/-- The permanent. -/
abbrev perm (L : List (List Int)) : Int := prm L (sAll L.length)
theorem Permanent_no (A : Option Addr) (c : Nat) (L : List (List Int)) (w : World) (hv : okT L = false) (ha : RowsAt w A L) :
    Calls Try.prog 18 #[.slice A L.length c] w fun e w' => e = .returned (.tuple #[.int .i64 0, .int .i64 2]) ∧ Below w.heap.size w w' := by
  have HR := Lib.hid (readTable_no A c L w hv ha)
  clear hv ha
  go_enter Try.func18, Try.ntmps18
  go_wp2_with (first
    | (go_at_call 48; refine HR.out.mono ?_; rintro e w2 ⟨rfl, b2⟩; have q0 : Row (w2.alloc (.cells Try.zeroCells73 73)) w2.heap.size 73 Try.zeroCells73.toList := row_new (by simp); have b0 := b2.alloc b2.size (.cells Try.zeroCells73 73); have hbz := b2.size)
    | (with_reducible refine (?_ : wpList _ _ _ (Oper.mk _ (Op.store 73 (.tmp 4) _) _ _ _ _ :: _) _ _); refine wpList_store_row rfl 73 (.tmp 4) (.tmp 9) rfl w2.heap.size Try.zeroCells73 rfl rfl 73 Try.zeroCells73.toList.toArray (row_heap q0) info73_z rfl z73_all ?_; replace b0 := below_row (g := w2.heap.size) b0 hbz Try.zeroCells73; generalize World.setRow (w2.alloc _) _ _ = W at *))
  go_ret2
  exact ⟨rfl, b0⟩
theorem Permanent_yes (A : Option Addr) (c : Nat) (L : List (List Int)) (w : World) (h : IsT L) (ha : RowsAt w A L) :
    Calls Try.prog 18 #[.slice A L.length c] w fun e w' => e = .returned (.tuple #[.int .i64 (perm L), .int .i64 0]) ∧ Below w.heap.size w w' := by
  have HR := Lib.hid (readTable_yes A c L w h ha)
  have HP := Lib.hid (fun w => permanents_any L w h)
  have HF := Lib.hid (fun w => first_any L.length w (by have := h.le; omega))
  have hAll : sAll L.length < 2^L.length := by unfold sAll; have := Nat.one_le_two_pow (n := L.length); omega
  have HC0 : Hid (∀ (W : World) (g : Nat), Row W g 73 (iv (grd L)) → W.cell? ⟨g, 0, none⟩ = some (.int .i64 (L.length : Int))) := Lib.hid (fun W g h => ivR h (i := 0) (by unfold grd; rw [grdP_len]; omega))
  have hi := info73_iv (x := grd L) (grdP_len _ 100)
  have hsz : Try.zeroCells73.toList.toArray.size = (iv (grd L)).toArray.size := by rw [z73]; exact size73_iv (by simp) (grdP_len L 100)
  clear h ha
  go_enter Try.func18, Try.ntmps18
  go_wp2_with (first
    | (go_at_call 48; refine HR.out.mono ?_; rintro e w2 ⟨rfl, b2⟩; have q0 : Row (w2.alloc (.cells Try.zeroCells73 73)) w2.heap.size 73 Try.zeroCells73.toList := row_new (by simp); have b0 := b2.alloc b2.size (.cells Try.zeroCells73 73); have hbz := b2.size)
    | (with_reducible refine (?_ : wpList _ _ _ (Oper.mk _ (Op.store 73 (.tmp 4) _) _ _ _ _ :: _) _ _); refine wpList_store_row rfl 73 (.tmp 4) (.tmp 9) rfl w2.heap.size (iv (grd L)).toArray rfl rfl 73 Try.zeroCells73.toList.toArray (row_heap q0) hi hsz (iv_all _) ?_; replace q0 := q0.row (iv (grd L)); replace b0 := below_row (g := w2.heap.size) b0 hbz (iv (grd L)).toArray; generalize World.setRow (w2.alloc _) _ _ = W at *; have c0 := HC0.out W _ q0)
    | (with_reducible refine (?_ : wpList _ _ _ (Oper.mk _ (Op.load 73 _) _ _ _ _ :: _) _ _); refine wpList_load_row rfl 73 (.tmp 4) rfl w2.heap.size rfl 73 (iv (grd L)).toArray (0, 0) _ (row_heap q0) Try.underlying73 rfl hi ?_)
    | (go_at_call 49; fail))
  refine wp_region_noPanic ?_
  refine wp_region_held_drew (S := fun V => Row V w2.heap.size 73 (iv (grd L)) ∧ Below w.heap.size w V) (by kernel_rfl) ⟨q0.drew, b0.drew⟩ (fun hH => ?_)
  try simp only [Act.put]
  clear q0 b0 c0
  have hi' : (Try.prog.info? 73).map (·.size) = some (iv (grd L)).length := hi
  generalize World.drew W = Wd at *
  refine wpAnyH_take (i := 0) (v := .agg (iv (grd L)).toArray) rfl (by kernel_rfl) (by kernel_rfl) (by kernel_rfl) (fun _ _ _ h => h) (yieldsIf_load_mid (by rfl) _ _ rfl _ _ rfl _ _ (fun V hV => hV.1.range) Try.underlying73 rfl hi') hH ?_
  simp only [List.getElem_toArray, List.getElem_cons_zero, Act.put, List.setIfInBounds_toArray, List.set_cons_zero, List.set_cons_succ]
  refine wpAnyH_take (i := 2) (v := .pointer (some ⟨w2.heap.size, 0, none⟩)) rfl (by kernel_rfl) (by kernel_rfl) (by kernel_rfl) (fun _ _ _ h => h) (Or.inl ⟨by rfl, fun V hV => ?_⟩) hH ?_
  · go_simp
  simp only [List.getElem_toArray, List.getElem_cons_zero, List.getElem_cons_succ, Act.put, List.setIfInBounds_toArray, List.set_cons_zero, List.set_cons_succ]
  refine wpAnyH_take (i := 3) (v := .int .i64 (L.length : Int)) rfl (by kernel_rfl) (by kernel_rfl) (by kernel_rfl) (fun _ _ _ h => h) (Or.inl ⟨by rfl, fun V hV => ?_⟩) hH ?_
  · have c0 := HC0.out V _ hV.1
    go_simp
  simp only [List.getElem_toArray, List.getElem_cons_zero, List.getElem_cons_succ, Act.put, List.setIfInBounds_toArray, List.set_cons_zero, List.set_cons_succ]
  refine wpAnyH_ready (rs := [1]) (by kernel_rfl) (by simp) ?_
  refine AllReadyH.cons rfl (fun K hK => ?_) AllReadyH.nil
  go_simp
  refine (HP.out _).mono ?_
  rintro e w3 ⟨g, rfl, hg, hp, b3⟩
  go_wp2_with fail
  refine hK.out _ _ ⟨hH.1.below b3, hH.2.trans (b3.mono hH.2.size)⟩ (fun hH => ?_)
  clear hK K
  have hlk := hp.look hAll
  refine wpAnyH_ready (rs := [4]) (by kernel_rfl) (by simp) ?_
  refine AllReadyH.cons rfl (fun K hK => ?_) AllReadyH.nil
  go_simp
  refine (HF.out _).mono ?_
  rintro e w4 ⟨rfl, rfl⟩
  go_wp2_with fail
  refine hK.out _ _ hH (fun hH => ?_)
  clear hK K
  refine wpAnyH_ready (rs := [5]) (by kernel_rfl) (by simp) ?_
  refine AllReadyH.cons rfl (fun K hK => ?_) AllReadyH.nil
  go_simp
  refine hK.out _ _ hH (fun hH => ?_)
  clear hK K
  refine wpAnyH_ready (rs := [6]) (by kernel_rfl) (by simp) ?_
  refine AllReadyH.cons rfl (fun K hK => ?_) AllReadyH.nil
  go_simp
  refine hK.out _ _ hH (fun hH => ?_)
  clear hK K
  refine wpAnyH_ready (rs := [7]) (by kernel_rfl) (by simp) ?_
  refine AllReadyH.cons rfl (fun K hK => ?_) AllReadyH.nil
  go_simp
  refine hK.out _ _ hH (fun hH => ?_)
  clear hK K
  refine wpAnyH_done (by kernel_rfl) ?_ _
  refine NoPanic.normal ?_
  go_wp2_with fail
  go_ret2
  exact ⟨rfl, hH.2⟩
theorem Level_no (A : Option Addr) (c : Nat) (L : List (List Int)) (w : World) (hv : okT L = false) (ha : RowsAt w A L) :
    Calls Try.prog 27 #[.slice A L.length c] w fun e w' => e = .returned (.tuple #[.int .i64 0, .bool false, .int .i64 2]) ∧ Below w.heap.size w w' := by
  have HR := Lib.hid (readTable_no A c L w hv ha)
  clear hv ha
  go_enter Try.func27, Try.ntmps27
  go_wp2_with (first
    | (go_at_call 48; refine HR.out.mono ?_; rintro e w2 ⟨rfl, b2⟩; have q0 : Row (w2.alloc (.cells Try.zeroCells73 73)) w2.heap.size 73 Try.zeroCells73.toList := row_new (by simp); have b0 := b2.alloc b2.size (.cells Try.zeroCells73 73); have hbz := b2.size)
    | (with_reducible refine (?_ : wpList _ _ _ (Oper.mk _ (Op.store 73 (.tmp 5) _) _ _ _ _ :: _) _ _); refine wpList_store_row rfl 73 (.tmp 5) (.tmp 11) rfl w2.heap.size Try.zeroCells73 rfl rfl 73 Try.zeroCells73.toList.toArray (row_heap q0) info73_z rfl z73_all ?_; replace b0 := below_row (g := w2.heap.size) b0 hbz Try.zeroCells73; generalize World.setRow (w2.alloc _) _ _ = W at *))
  go_ret3
  exact ⟨rfl, b0⟩
theorem Level_yes (A : Option Addr) (c : Nat) (L : List (List Int)) (w : World) (h : IsT L) (ha : RowsAt w A L) :
    Calls Try.prog 27 #[.slice A L.length c] w fun e w' => e = .returned (.tuple #[.int .i64 (lvN L), .bool (isLev L), .int .i64 0]) ∧ Below w.heap.size w w' := by
  have HR := Lib.hid (readTable_yes A c L w h ha)
  have HP := Lib.hid (fun w => level_any L w h)
  have HC0 : Hid (∀ (W : World) (g : Nat), Row W g 73 (iv (grd L)) → W.cell? ⟨g, 0, none⟩ = some (.int .i64 (L.length : Int))) := Lib.hid (fun W g h => ivR h (i := 0) (by unfold grd; rw [grdP_len]; omega))
  have hi := info73_iv (x := grd L) (grdP_len _ 100)
  have hsz : Try.zeroCells73.toList.toArray.size = (iv (grd L)).toArray.size := by rw [z73]; exact size73_iv (by simp) (grdP_len L 100)
  clear h ha
  go_enter Try.func27, Try.ntmps27
  go_wp2_with (first
    | (go_at_call 48; refine HR.out.mono ?_; rintro e w2 ⟨rfl, b2⟩; have q0 : Row (w2.alloc (.cells Try.zeroCells73 73)) w2.heap.size 73 Try.zeroCells73.toList := row_new (by simp); have b0 := b2.alloc b2.size (.cells Try.zeroCells73 73); have hbz := b2.size)
    | (with_reducible refine (?_ : wpList _ _ _ (Oper.mk _ (Op.store 73 (.tmp 5) _) _ _ _ _ :: _) _ _); refine wpList_store_row rfl 73 (.tmp 5) (.tmp 11) rfl w2.heap.size (iv (grd L)).toArray rfl rfl 73 Try.zeroCells73.toList.toArray (row_heap q0) hi hsz (iv_all _) ?_; replace q0 := q0.row (iv (grd L)); replace b0 := below_row (g := w2.heap.size) b0 hbz (iv (grd L)).toArray; generalize World.setRow (w2.alloc _) _ _ = W at *; have c0 := HC0.out W _ q0)
    | (with_reducible refine (?_ : wpList _ _ _ (Oper.mk _ (Op.load 73 _) _ _ _ _ :: _) _ _); refine wpList_load_row rfl 73 (.tmp 5) rfl w2.heap.size rfl 73 (iv (grd L)).toArray (0, 0) _ (row_heap q0) Try.underlying73 rfl hi ?_)
    | (go_at_call 54; refine (HP.out _).mono ?_; rintro e w4 ⟨rfl, b4⟩; replace b0 := b0.trans (b4.mono b0.size)))
  go_ret3
  exact ⟨rfl, b0⟩
theorem Item_no (A : Option Addr) (c : Nat) (L : List (List Int)) (k : Int) (w : World) (hv : okT L = false) (ha : RowsAt w A L) :
    Calls Try.prog 19 #[.slice A L.length c, .int .i64 k] w fun e w' => e = .returned (.tuple #[.slice none 0 0, .int .i64 2]) ∧ Below w.heap.size w w' := by
  have HR := Lib.hid (readTable_no A c L w hv ha)
  clear hv ha
  go_enter Try.func19, Try.ntmps19
  go_wp2_with (first
    | (go_at_call 48; refine HR.out.mono ?_; rintro e w2 ⟨rfl, b2⟩; have q0 : Row (w2.alloc (.cells Try.zeroCells73 73)) w2.heap.size 73 Try.zeroCells73.toList := row_new (by simp); have b0 := b2.alloc b2.size (.cells Try.zeroCells73 73); have hbz := b2.size)
    | (with_reducible refine (?_ : wpList _ _ _ (Oper.mk _ (Op.store 73 (.tmp 6) _) _ _ _ _ :: _) _ _); refine wpList_store_row rfl 73 (.tmp 6) (.tmp 12) rfl w2.heap.size Try.zeroCells73 rfl rfl 73 Try.zeroCells73.toList.toArray (row_heap q0) info73_z rfl z73_all ?_; replace b0 := below_row (g := w2.heap.size) b0 hbz Try.zeroCells73; generalize World.setRow (w2.alloc _) _ _ = W at *))
  go_ret2
  exact ⟨rfl, b0⟩
theorem Item_neg (A : Option Addr) (c : Nat) (L : List (List Int)) (k : Int) (w : World) (h : IsT L) (hk : k < 0) (ha : RowsAt w A L) :
    Calls Try.prog 19 #[.slice A L.length c, .int .i64 k] w fun e w' => e = .returned (.tuple #[.slice none 0 0, .int .i64 2]) ∧ Below w.heap.size w w' := by
  have HR := Lib.hid (readTable_yes A c L w h ha)
  have g1 : decide (k < 0) = true := decide_eq_true hk
  have HC0 : Hid (∀ (W : World) (g : Nat), Row W g 73 (iv (grd L)) → W.cell? ⟨g, 0, none⟩ = some (.int .i64 (L.length : Int))) := Lib.hid (fun W g h => ivR h (i := 0) (by unfold grd; rw [grdP_len]; omega))
  have hi := info73_iv (x := grd L) (grdP_len _ 100)
  have hsz : Try.zeroCells73.toList.toArray.size = (iv (grd L)).toArray.size := by rw [z73]; exact size73_iv (by simp) (grdP_len L 100)
  clear h ha hk
  go_enter Try.func19, Try.ntmps19
  go_wp2_with (first
    | (go_at_call 48; refine HR.out.mono ?_; rintro e w2 ⟨rfl, b2⟩; have q0 : Row (w2.alloc (.cells Try.zeroCells73 73)) w2.heap.size 73 Try.zeroCells73.toList := row_new (by simp); have b0 := b2.alloc b2.size (.cells Try.zeroCells73 73); have hbz := b2.size)
    | (with_reducible refine (?_ : wpList _ _ _ (Oper.mk _ (Op.store 73 (.tmp 6) _) _ _ _ _ :: _) _ _); refine wpList_store_row rfl 73 (.tmp 6) (.tmp 12) rfl w2.heap.size (iv (grd L)).toArray rfl rfl 73 Try.zeroCells73.toList.toArray (row_heap q0) hi hsz (iv_all _) ?_; replace q0 := q0.row (iv (grd L)); replace b0 := below_row (g := w2.heap.size) b0 hbz (iv (grd L)).toArray; generalize World.setRow (w2.alloc _) _ _ = W at *; have c0 := HC0.out W _ q0))
  go_ret2
  exact ⟨rfl, b0⟩
theorem Item_big (A : Option Addr) (c : Nat) (L : List (List Int)) (k : Int) (w : World) (h : IsT L) (hk0 : 0 ≤ k) (hk : chN L (sAll L.length) ≤ k) (ha : RowsAt w A L) :
    Calls Try.prog 19 #[.slice A L.length c, .int .i64 k] w fun e w' => e = .returned (.tuple #[.slice none 0 0, .int .i64 2]) ∧ Below w.heap.size w w' := by
  have HR := Lib.hid (readTable_yes A c L w h ha)
  have HP := Lib.hid (fun w => item_no L k w h hk)
  have g1 : decide (k < 0) = false := decide_eq_false (by omega)
  have HC0 : Hid (∀ (W : World) (g : Nat), Row W g 73 (iv (grd L)) → W.cell? ⟨g, 0, none⟩ = some (.int .i64 (L.length : Int))) := Lib.hid (fun W g h => ivR h (i := 0) (by unfold grd; rw [grdP_len]; omega))
  have hi := info73_iv (x := grd L) (grdP_len _ 100)
  have hsz : Try.zeroCells73.toList.toArray.size = (iv (grd L)).toArray.size := by rw [z73]; exact size73_iv (by simp) (grdP_len L 100)
  clear h ha hk
  go_enter Try.func19, Try.ntmps19
  go_wp2_with (first
    | (go_at_call 48; refine HR.out.mono ?_; rintro e w2 ⟨rfl, b2⟩; have q0 : Row (w2.alloc (.cells Try.zeroCells73 73)) w2.heap.size 73 Try.zeroCells73.toList := row_new (by simp); have b0 := b2.alloc b2.size (.cells Try.zeroCells73 73); have hbz := b2.size)
    | (with_reducible refine (?_ : wpList _ _ _ (Oper.mk _ (Op.store 73 (.tmp 6) _) _ _ _ _ :: _) _ _); refine wpList_store_row rfl 73 (.tmp 6) (.tmp 12) rfl w2.heap.size (iv (grd L)).toArray rfl rfl 73 Try.zeroCells73.toList.toArray (row_heap q0) hi hsz (iv_all _) ?_; replace q0 := q0.row (iv (grd L)); replace b0 := below_row (g := w2.heap.size) b0 hbz (iv (grd L)).toArray; generalize World.setRow (w2.alloc _) _ _ = W at *; have c0 := HC0.out W _ q0)
    | (with_reducible refine (?_ : wpList _ _ _ (Oper.mk _ (Op.load 73 _) _ _ _ _ :: _) _ _); refine wpList_load_row rfl 73 (.tmp 6) rfl w2.heap.size rfl 73 (iv (grd L)).toArray (0, 0) _ (row_heap q0) Try.underlying73 rfl hi ?_)
    | (go_at_call 51; refine (HP.out _).mono ?_; rintro e w4 ⟨rfl, b4⟩; replace b0 := b0.trans (b4.mono b0.size)))
  go_ret2
  exact ⟨rfl, b0⟩
theorem Item_yes (A : Option Addr) (c : Nat) (L : List (List Int)) (k : Int) (w : World) (h : IsT L) (hk0 : 0 ≤ k) (hk : k < chN L (sAll L.length)) (ha : RowsAt w A L) :
    Calls Try.prog 19 #[.slice A L.length c, .int .i64 k] w fun e w' => ∃ A' c', e = .returned (.tuple #[.slice A' (itm L L.length (sAll L.length) k).length c', .int .i64 0]) ∧ w'.ownsRow w.heap.size 3 1 (.slice A' (itm L L.length (sAll L.length) k).length c') (itm L L.length (sAll L.length) k).length (iv (itm L L.length (sAll L.length) k)) ∧ Below w.heap.size w w' := by
  have HR := Lib.hid (readTable_yes A c L w h ha)
  have HP := Lib.hid (fun w => item_yes L k w h hk0 hk)
  have g1 : decide (k < 0) = false := decide_eq_false (by omega)
  have HC0 : Hid (∀ (W : World) (g : Nat), Row W g 73 (iv (grd L)) → W.cell? ⟨g, 0, none⟩ = some (.int .i64 (L.length : Int))) := Lib.hid (fun W g h => ivR h (i := 0) (by unfold grd; rw [grdP_len]; omega))
  have hi := info73_iv (x := grd L) (grdP_len _ 100)
  have hsz : Try.zeroCells73.toList.toArray.size = (iv (grd L)).toArray.size := by rw [z73]; exact size73_iv (by simp) (grdP_len L 100)
  clear h ha hk
  generalize itm L L.length (sAll L.length) k = T at *
  go_enter Try.func19, Try.ntmps19
  go_wp2_with (first
    | (go_at_call 48; refine HR.out.mono ?_; rintro e w2 ⟨rfl, b2⟩; have q0 : Row (w2.alloc (.cells Try.zeroCells73 73)) w2.heap.size 73 Try.zeroCells73.toList := row_new (by simp); have b0 := b2.alloc b2.size (.cells Try.zeroCells73 73); have hbz := b2.size)
    | (with_reducible refine (?_ : wpList _ _ _ (Oper.mk _ (Op.store 73 (.tmp 6) _) _ _ _ _ :: _) _ _); refine wpList_store_row rfl 73 (.tmp 6) (.tmp 12) rfl w2.heap.size (iv (grd L)).toArray rfl rfl 73 Try.zeroCells73.toList.toArray (row_heap q0) hi hsz (iv_all _) ?_; replace q0 := q0.row (iv (grd L)); replace b0 := below_row (g := w2.heap.size) b0 hbz (iv (grd L)).toArray; generalize World.setRow (w2.alloc _) _ _ = W at *; have c0 := HC0.out W _ q0)
    | (with_reducible refine (?_ : wpList _ _ _ (Oper.mk _ (Op.load 73 _) _ _ _ _ :: _) _ _); refine wpList_load_row rfl 73 (.tmp 6) rfl w2.heap.size rfl 73 (iv (grd L)).toArray (0, 0) _ (row_heap q0) Try.underlying73 rfl hi ?_)
    | (go_at_call 51; fail))
  refine (HP.out _).mono ?_
  rintro e w4 ⟨v, rfl, o4, b4⟩
  obtain ⟨A4, c4, rfl, -, -, -⟩ := own_intsI o4
  have o5 := own_mono o4 b0.size
  replace b0 := b0.trans (b4.mono b0.size)
  clear o4
  go_wp2
  go_ret2
  exact ⟨_, _, rfl, o5, b0⟩
theorem Choose_no (A : Option Addr) (c : Nat) (L : List (List Int)) (w : World) (hv : okT L = false) (ha : RowsAt w A L) :
    Calls Try.prog 31 #[.slice A L.length c] w fun e w' => e = .returned (.tuple #[.slice none 0 0, .slice none 0 0, .int .i64 2]) ∧ Below w.heap.size w w' := by
  have HR := Lib.hid (readTable_no A c L w hv ha)
  clear hv ha
  go_enter Try.func31, Try.ntmps31
  go_wp2_with (first
    | (go_at_call 48; refine HR.out.mono ?_; rintro e w2 ⟨rfl, b2⟩; have q0 : Row (w2.alloc (.cells Try.zeroCells73 73)) w2.heap.size 73 Try.zeroCells73.toList := row_new (by simp); have b0 := b2.alloc b2.size (.cells Try.zeroCells73 73); have hbz := b2.size)
    | (with_reducible refine (?_ : wpList _ _ _ (Oper.mk _ (Op.store 73 (.tmp 5) _) _ _ _ _ :: _) _ _); refine wpList_store_row rfl 73 (.tmp 5) (.tmp 11) rfl w2.heap.size Try.zeroCells73 rfl rfl 73 Try.zeroCells73.toList.toArray (row_heap q0) info73_z rfl z73_all ?_; replace b0 := below_row (g := w2.heap.size) b0 hbz Try.zeroCells73; generalize World.setRow (w2.alloc _) _ _ = W at *))
  go_ret3
  exact ⟨rfl, b0⟩
theorem Choose_yes (A : Option Addr) (c : Nat) (L : List (List Int)) (w : World) (h : IsT L) (hk : 0 < chN L (sAll L.length)) (ha : RowsAt w A L) :
    Calls Try.prog 31 #[.slice A L.length c] w fun e w' => ∃ A' c', e = .returned (.tuple #[.slice A' (itm L L.length (sAll L.length) 0).length c', .slice none 0 0, .int .i64 0]) ∧ w'.ownsRow w.heap.size 3 1 (.slice A' (itm L L.length (sAll L.length) 0).length c') (itm L L.length (sAll L.length) 0).length (iv (itm L L.length (sAll L.length) 0)) ∧ Below w.heap.size w w' := by
  have HR := Lib.hid (readTable_yes A c L w h ha)
  have HP := Lib.hid (fun w => item_yes L 0 w h (Int.le_refl _) hk)
  have HC0 : Hid (∀ (W : World) (g : Nat), Row W g 73 (iv (grd L)) → W.cell? ⟨g, 0, none⟩ = some (.int .i64 (L.length : Int))) := Lib.hid (fun W g h => ivR h (i := 0) (by unfold grd; rw [grdP_len]; omega))
  have hi := info73_iv (x := grd L) (grdP_len _ 100)
  have hsz : Try.zeroCells73.toList.toArray.size = (iv (grd L)).toArray.size := by rw [z73]; exact size73_iv (by simp) (grdP_len L 100)
  clear h ha hk
  generalize itm L L.length (sAll L.length) 0 = T at *
  go_enter Try.func31, Try.ntmps31
  go_wp2_with (first
    | (go_at_call 48; refine HR.out.mono ?_; rintro e w2 ⟨rfl, b2⟩; have q0 : Row (w2.alloc (.cells Try.zeroCells73 73)) w2.heap.size 73 Try.zeroCells73.toList := row_new (by simp); have b0 := b2.alloc b2.size (.cells Try.zeroCells73 73); have hbz := b2.size)
    | (with_reducible refine (?_ : wpList _ _ _ (Oper.mk _ (Op.store 73 (.tmp 5) _) _ _ _ _ :: _) _ _); refine wpList_store_row rfl 73 (.tmp 5) (.tmp 11) rfl w2.heap.size (iv (grd L)).toArray rfl rfl 73 Try.zeroCells73.toList.toArray (row_heap q0) hi hsz (iv_all _) ?_; replace q0 := q0.row (iv (grd L)); replace b0 := below_row (g := w2.heap.size) b0 hbz (iv (grd L)).toArray; generalize World.setRow (w2.alloc _) _ _ = W at *; have c0 := HC0.out W _ q0)
    | (with_reducible refine (?_ : wpList _ _ _ (Oper.mk _ (Op.load 73 _) _ _ _ _ :: _) _ _); refine wpList_load_row rfl 73 (.tmp 5) rfl w2.heap.size rfl 73 (iv (grd L)).toArray (0, 0) _ (row_heap q0) Try.underlying73 rfl hi ?_)
    | (go_at_call 51; fail))
  refine (HP.out _).mono ?_
  rintro e w4 ⟨v, rfl, o4, b4⟩
  obtain ⟨A4, c4, rfl, -, -, -⟩ := own_intsI o4
  have o5 := own_mono o4 b0.size
  replace b0 := b0.trans (b4.mono b0.size)
  clear o4
  go_wp2
  go_ret3
  exact ⟨_, _, rfl, o5, b0⟩
end Go.Proofs.Ytnnaaoobdofooaa
