/- Reset. -/
import Derived.Test.YtignbpipdfjkeaaDoorAN
namespace Go.Proofs.YtignbpipdfjkeaaDoor
open Go.RowKit
set_option maxHeartbeats 1000000
set_option maxRecDepth 100000
theorem seek_set {T : Tab} {k n s t : Nat} {g : Nat → Bool} {x : List Nat} (hM : IsM T k n) (hs : IsS n s) (h0 : s ≠ 0) (h : seek T k s g = some (t, x)) : t < 512 ∧ 0 < t ∧ IsS n t := by
  obtain ⟨h1, h2, _, _⟩ := seek_some hM hs h
  have h3 := img_set hM hs h1
  have h4 := img_ne hM hs h0 h1
  rw [h2] at h3 h4
  exact ⟨set512 hM.n9 h3, by omega, h3⟩
theorem hsz76 (L : List (List Int)) : Z38.toArray.size = (iv (mc L)).toArray.size := by rw [z38_eq]; exact size76_iv (by simp) (mcP_len L 36)
theorem hi76L (L : List (List Int)) : (Tryd.prog.info? 76).map (·.size) = some (iv (mc L)).length := by rw [iv_len]; unfold mc; rw [mcP_len]; exact info76
/-- The first word that resets, and where it leads. -/
def rsX (L : List (List Int)) : Option (Nat × List Nat) := seek (tabN L) L.length (sAll (nS L)) (few 1)
theorem Reset_no (A : Option Addr) (c : Nat) (L : List (List Int)) (w : World) (hv : okM L = false) (ha : RowsAt w A L) :
    Calls Tryd.prog 17 #[.slice A L.length c] w fun e w' => e = .returned (.tuple #[.string ⟨#[]⟩, .int .i64 0, .int .i64 2]) ∧ Below w.heap.size w w' := by
  have HR := Lib.hid (rm_no A c L w hv ha)
  clear hv ha
  go_enter Tryd.func17, Tryd.ntmps17
  go_wp2_with (first
    | (go_at_call 50; refine HR.out.mono ?_; rintro e w2 ⟨rfl, b2⟩; have q0 : Row (w2.alloc (.cells #[.int .i64 0, .int .i64 0, .int .i64 0, .int .i64 0, .int .i64 0, .int .i64 0, .int .i64 0, .int .i64 0, .int .i64 0, .int .i64 0, .int .i64 0, .int .i64 0, .int .i64 0, .int .i64 0, .int .i64 0, .int .i64 0, .int .i64 0, .int .i64 0, .int .i64 0, .int .i64 0, .int .i64 0, .int .i64 0, .int .i64 0, .int .i64 0, .int .i64 0, .int .i64 0, .int .i64 0, .int .i64 0, .int .i64 0, .int .i64 0, .int .i64 0, .int .i64 0, .int .i64 0, .int .i64 0, .int .i64 0, .int .i64 0, .int .i64 0, .int .i64 0] 76)) w2.heap.size 76 Z38 := row_new rfl; have b0 := b2.alloc b2.size (.cells #[.int .i64 0, .int .i64 0, .int .i64 0, .int .i64 0, .int .i64 0, .int .i64 0, .int .i64 0, .int .i64 0, .int .i64 0, .int .i64 0, .int .i64 0, .int .i64 0, .int .i64 0, .int .i64 0, .int .i64 0, .int .i64 0, .int .i64 0, .int .i64 0, .int .i64 0, .int .i64 0, .int .i64 0, .int .i64 0, .int .i64 0, .int .i64 0, .int .i64 0, .int .i64 0, .int .i64 0, .int .i64 0, .int .i64 0, .int .i64 0, .int .i64 0, .int .i64 0, .int .i64 0, .int .i64 0, .int .i64 0, .int .i64 0, .int .i64 0, .int .i64 0] 76); have hbz := b2.size)
    | (with_reducible refine (?_ : wpList _ _ _ (Oper.mk _ (Op.store 76 (.tmp 5) _) _ _ _ _ :: _) _ _); refine wpList_store_row rfl 76 (.tmp 5) (.tmp 12) rfl w2.heap.size Z38.toArray rfl rfl 76 Z38.toArray (row_heap q0) info76_z rfl z38_all ?_; replace b0 := below_row (g := w2.heap.size) b0 hbz Z38.toArray; generalize World.setRow (w2.alloc _) _ _ = W at *))
  exact bodyPost_ret (results_tmp3 rfl _ _ _) rfl ⟨rfl, b0⟩
theorem Reset_yes (A : Option Addr) (c : Nat) (L : List (List Int)) (w : World) (h : IsMI L) (ha : RowsAt w A L) (ht : TabW w) :
    Calls Tryd.prog 17 #[.slice A L.length c] w fun e w' => e = .returned (match rsX L with
      | none => .tuple #[.string ⟨#[]⟩, .int .i64 0, .int .i64 6]
      | some (t, x) => .tuple #[.string (wS x), .int .i64 (tzS t), .int .i64 0]) ∧ Below w.heap.size w w' := by
  have HR := Lib.hid (rm_yes A c L w h ha)
  have hi := info76_iv (x := mc L) (mcP_len L 36)
  have hi4 := hi76L L
  have hsz := hsz76 L
  obtain ⟨hS, hN, h5⟩ := all_set h.n9
  have HA := Lib.hid (fun V => all_any L V h)
  have HF : Hid (∀ V, Below w.heap.size w V → Calls Tryd.prog 51 #[.agg (iv (mc L)).toArray, .int .u16 (sAll (nS L)), .int .i64 1] V fun e w' => e = .returned (seekV (rsX L)) ∧ Below V.heap.size V w') := Lib.hid (fun V hV => searchFewer_any L (sAll (nS L)) 1 V h hS (hN h.n1) (by omega) (ht.below hV ht.lt))
  have HSM := Lib.hid (fun t V (h1 : TzG t) (hV : Below w.heap.size w V) => smallest_any t V h1 (ht.below hV ht.lt))
  have HTS := Lib.hid (fun t x (e : rsX L = some (t, x)) => seek_set h.isM hS (hN h.n1) e)
  clear ha ht h hS hN
  generalize sAll (nS L) = a at *
  cases hX : rsX L with
  | none =>
    rw [hX] at HF
    have HF2 : Hid (∀ V, Below w.heap.size w V → Calls Tryd.prog 51 #[.agg (iv (mc L)).toArray, .int .u16 a, .int .i64 1] V fun e w' => e = .returned (.tuple #[.string ⟨#[]⟩, .int .u16 0, .bool false]) ∧ Below V.heap.size V w') := HF
    clear HF HTS hX
    go_enter Tryd.func17, Tryd.ntmps17
    go_wp2_with (first
      | (go_at_call 50; refine HR.out.mono ?_; rintro e w2 ⟨rfl, b2⟩; have q0 : Row (w2.alloc (.cells #[.int .i64 0, .int .i64 0, .int .i64 0, .int .i64 0, .int .i64 0, .int .i64 0, .int .i64 0, .int .i64 0, .int .i64 0, .int .i64 0, .int .i64 0, .int .i64 0, .int .i64 0, .int .i64 0, .int .i64 0, .int .i64 0, .int .i64 0, .int .i64 0, .int .i64 0, .int .i64 0, .int .i64 0, .int .i64 0, .int .i64 0, .int .i64 0, .int .i64 0, .int .i64 0, .int .i64 0, .int .i64 0, .int .i64 0, .int .i64 0, .int .i64 0, .int .i64 0, .int .i64 0, .int .i64 0, .int .i64 0, .int .i64 0, .int .i64 0, .int .i64 0] 76)) w2.heap.size 76 Z38 := row_new rfl; have b0 := b2.alloc b2.size (.cells #[.int .i64 0, .int .i64 0, .int .i64 0, .int .i64 0, .int .i64 0, .int .i64 0, .int .i64 0, .int .i64 0, .int .i64 0, .int .i64 0, .int .i64 0, .int .i64 0, .int .i64 0, .int .i64 0, .int .i64 0, .int .i64 0, .int .i64 0, .int .i64 0, .int .i64 0, .int .i64 0, .int .i64 0, .int .i64 0, .int .i64 0, .int .i64 0, .int .i64 0, .int .i64 0, .int .i64 0, .int .i64 0, .int .i64 0, .int .i64 0, .int .i64 0, .int .i64 0, .int .i64 0, .int .i64 0, .int .i64 0, .int .i64 0, .int .i64 0, .int .i64 0] 76); have hbz := b2.size)
      | (with_reducible refine (?_ : wpList _ _ _ (Oper.mk _ (Op.store 76 (.tmp 5) _) _ _ _ _ :: _) _ _); refine wpList_store_row rfl 76 (.tmp 5) (.tmp 12) rfl w2.heap.size (iv (mc L)).toArray rfl rfl 76 Z38.toArray (row_heap q0) hi hsz (iv_all _) ?_; replace q0 := q0.row (iv (mc L)); replace b0 := below_row (g := w2.heap.size) b0 hbz (iv (mc L)).toArray; generalize World.setRow (w2.alloc _) _ _ = W at *))
    have HA2 : Hid (∀ u : After W, Calls Tryd.prog 52 #[.agg (iv (mc L)).toArray] u.v fun e w' => e = .returned (.int .u16 a) ∧ Below u.v.heap.size u.v w') := Lib.hid (fun u => HA.out u.v)
    have HF3 : Hid (∀ u : After W, Calls Tryd.prog 51 #[.agg (iv (mc L)).toArray, .int .u16 a, .int .i64 1] u.v fun e w' => e = .returned (.tuple #[.string ⟨#[]⟩, .int .u16 0, .bool false]) ∧ Below u.v.heap.size u.v w') := Lib.hid (fun u => HF2.out u.v (b0.trans (u.h.mono b0.size)))
    refine wp_region_class_all (C := fun w' => ∃ u : After _, w' = u.v) (by kernel_rfl) (by kernel_rfl) (isAfter_start _) ?_
    try simp only [Act.put]
    repeat (first | ((with_reducible refine (?_ : wpQuiet _ _ _ _ (Oper.mk (some 17) _ _ _ _ _ :: _) _); go_big_quiet_want); refine quiet_load_row 76 (.tmp 5) rfl w2.heap.size rfl 76 (iv (mc L)) _ (fun _ hc => after_row q0 hc) Tryd.underlying76 rfl hi4 ?_; simp only [Act.put, List.setIfInBounds_toArray, List.set_cons_zero, List.set_cons_succ]; go_big_quiet_on) | ((with_reducible refine (?_ : wpQuiet _ _ _ _ (Oper.mk (some 18) _ _ _ _ _ :: _) _); go_big_quiet_want); refine quiet_load_row 76 (.tmp 5) rfl w2.heap.size rfl 76 (iv (mc L)) _ (fun _ hc => after_row q0 hc) Tryd.underlying76 rfl hi4 ?_; simp only [Act.put, List.setIfInBounds_toArray, List.set_cons_zero, List.set_cons_succ]; go_big_quiet_on) | go_big_quiet_step ((first | (with_reducible refine (HA2.out _).mono ?_; rintro e w8 ⟨rfl, b8⟩; exact ⟨rfl, After.done _ b8⟩) | (with_reducible refine (HF3.out _).mono ?_; rintro e w8 ⟨rfl, b8⟩; exact ⟨rfl, After.done _ b8⟩))))
    refine wpQuiet_nil ?_
    rintro _ ⟨ua, rfl⟩
    go_wp2
    exact bodyPost_ret (results_tmp3 rfl _ _ _) rfl ⟨rfl, b0.trans (ua.h.mono b0.size)⟩
  | some q =>
    obtain ⟨t, x⟩ := q
    obtain ⟨ht5, ht0, -⟩ := HTS.out t x hX
    rw [hX] at HF
    have HF2 : Hid (∀ V, Below w.heap.size w V → Calls Tryd.prog 51 #[.agg (iv (mc L)).toArray, .int .u16 a, .int .i64 1] V fun e w' => e = .returned (.tuple #[.string (wS x), .int .u16 t, .bool true]) ∧ Below V.heap.size V w') := HF
    clear HF HTS hX
    go_enter Tryd.func17, Tryd.ntmps17
    go_wp2_with (first
      | (go_at_call 50; refine HR.out.mono ?_; rintro e w2 ⟨rfl, b2⟩; have q0 : Row (w2.alloc (.cells #[.int .i64 0, .int .i64 0, .int .i64 0, .int .i64 0, .int .i64 0, .int .i64 0, .int .i64 0, .int .i64 0, .int .i64 0, .int .i64 0, .int .i64 0, .int .i64 0, .int .i64 0, .int .i64 0, .int .i64 0, .int .i64 0, .int .i64 0, .int .i64 0, .int .i64 0, .int .i64 0, .int .i64 0, .int .i64 0, .int .i64 0, .int .i64 0, .int .i64 0, .int .i64 0, .int .i64 0, .int .i64 0, .int .i64 0, .int .i64 0, .int .i64 0, .int .i64 0, .int .i64 0, .int .i64 0, .int .i64 0, .int .i64 0, .int .i64 0, .int .i64 0] 76)) w2.heap.size 76 Z38 := row_new rfl; have b0 := b2.alloc b2.size (.cells #[.int .i64 0, .int .i64 0, .int .i64 0, .int .i64 0, .int .i64 0, .int .i64 0, .int .i64 0, .int .i64 0, .int .i64 0, .int .i64 0, .int .i64 0, .int .i64 0, .int .i64 0, .int .i64 0, .int .i64 0, .int .i64 0, .int .i64 0, .int .i64 0, .int .i64 0, .int .i64 0, .int .i64 0, .int .i64 0, .int .i64 0, .int .i64 0, .int .i64 0, .int .i64 0, .int .i64 0, .int .i64 0, .int .i64 0, .int .i64 0, .int .i64 0, .int .i64 0, .int .i64 0, .int .i64 0, .int .i64 0, .int .i64 0, .int .i64 0, .int .i64 0] 76); have hbz := b2.size)
      | (with_reducible refine (?_ : wpList _ _ _ (Oper.mk _ (Op.store 76 (.tmp 5) _) _ _ _ _ :: _) _ _); refine wpList_store_row rfl 76 (.tmp 5) (.tmp 12) rfl w2.heap.size (iv (mc L)).toArray rfl rfl 76 Z38.toArray (row_heap q0) hi hsz (iv_all _) ?_; replace q0 := q0.row (iv (mc L)); replace b0 := below_row (g := w2.heap.size) b0 hbz (iv (mc L)).toArray; generalize World.setRow (w2.alloc _) _ _ = W at *))
    have HA2 : Hid (∀ u : After W, Calls Tryd.prog 52 #[.agg (iv (mc L)).toArray] u.v fun e w' => e = .returned (.int .u16 a) ∧ Below u.v.heap.size u.v w') := Lib.hid (fun u => HA.out u.v)
    have HF3 : Hid (∀ u : After W, Calls Tryd.prog 51 #[.agg (iv (mc L)).toArray, .int .u16 a, .int .i64 1] u.v fun e w' => e = .returned (.tuple #[.string (wS x), .int .u16 t, .bool true]) ∧ Below u.v.heap.size u.v w') := Lib.hid (fun u => HF2.out u.v (b0.trans (u.h.mono b0.size)))
    refine wp_region_class_all (C := fun w' => ∃ u : After _, w' = u.v) (by kernel_rfl) (by kernel_rfl) (isAfter_start _) ?_
    try simp only [Act.put]
    repeat (first | ((with_reducible refine (?_ : wpQuiet _ _ _ _ (Oper.mk (some 17) _ _ _ _ _ :: _) _); go_big_quiet_want); refine quiet_load_row 76 (.tmp 5) rfl w2.heap.size rfl 76 (iv (mc L)) _ (fun _ hc => after_row q0 hc) Tryd.underlying76 rfl hi4 ?_; simp only [Act.put, List.setIfInBounds_toArray, List.set_cons_zero, List.set_cons_succ]; go_big_quiet_on) | ((with_reducible refine (?_ : wpQuiet _ _ _ _ (Oper.mk (some 18) _ _ _ _ _ :: _) _); go_big_quiet_want); refine quiet_load_row 76 (.tmp 5) rfl w2.heap.size rfl 76 (iv (mc L)) _ (fun _ hc => after_row q0 hc) Tryd.underlying76 rfl hi4 ?_; simp only [Act.put, List.setIfInBounds_toArray, List.set_cons_zero, List.set_cons_succ]; go_big_quiet_on) | go_big_quiet_step ((first | (with_reducible refine (HA2.out _).mono ?_; rintro e w8 ⟨rfl, b8⟩; exact ⟨rfl, After.done _ b8⟩) | (with_reducible refine (HF3.out _).mono ?_; rintro e w8 ⟨rfl, b8⟩; exact ⟨rfl, After.done _ b8⟩))))
    refine wpQuiet_nil ?_
    rintro _ ⟨ua, rfl⟩
    have b9 := b0.trans (ua.h.mono b0.size)
    have HS2 := Lib.hid (fun n => HSM.out t (ua.v.drewN n) (.inl ⟨by omega, ht5⟩) (b9.trans (below_drewN n)))
    clear HA2 HF3 q0
    generalize ua.v = V at *
    go_wp2_with (go_at_call 53; refine (HS2.out 0).mono ?_; rintro e w5 ⟨rfl, n5, rfl⟩)
    exact bodyPost_ret (results_tmp3 rfl _ _ _) rfl ⟨rfl, b9.trans (below_drewN _)⟩
end Go.Proofs.YtignbpipdfjkeaaDoor
