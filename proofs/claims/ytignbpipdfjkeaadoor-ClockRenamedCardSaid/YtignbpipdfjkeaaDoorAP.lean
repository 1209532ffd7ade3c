/- Rank. -/
import Derived.Test.YtignbpipdfjkeaaDoorAO
namespace Go.Proofs.YtignbpipdfjkeaaDoor
open Go.RowKit
set_option maxHeartbeats 1000000
set_option maxRecDepth 100000
/-- The rank and its word, from so many states on. -/
def rkL (T : Tab) (k s : Nat) : Nat → Nat → Nat × List Nat
  | 0, m => (m, [])
  | c + 1, m => match seek T k s (few m) with
    | some (_, x) => (m, x)
    | none => rkL T k s c (m + 1)
def rkX (L : List (List Int)) : Nat × List Nat := rkL (tabN L) L.length (sAll (nS L)) (nS L - 1) 1
theorem rank_any (L : List (List Int)) (w : World) (h : IsMI L) (ht : TabW w) :
    Calls Tryd.prog 54 #[.agg (iv (mc L)).toArray] w fun e w' => e = .returned (.tuple #[.int .i64 (rkX L).1, .string (wS (rkX L).2)]) ∧ Below w.heap.size w w' := by
  have r0 : Row (w.alloc (.cells (iv (mc L)).toArray 76)) w.heap.size 76 (iv (mc L)) := row_new rfl
  have b0 : Below w.heap.size w (w.alloc (.cells (iv (mc L)).toArray 76)) := (Below.refl _ w).alloc (Nat.le_refl _) _
  have hi4 := hi76L L
  have HC : Hid (∀ W : World, Row W w.heap.size 76 (iv (mc L)) → W.cell? ⟨w.heap.size, 0, none⟩ = some (.int .i64 (nS L : Int))) := Lib.hid (fun W r => by have := ivR r (i := 0) (by unfold mc; rw [mcP_len]; omega); unfold mc at this; rwa [mcP_n] at this)
  obtain ⟨hS, hN, h5⟩ := all_set h.n9
  have hn1 := h.n1
  have hn9 := h.n9
  have HA := Lib.hid (fun V => all_any L V h)
  have HF := Lib.hid (fun m V (hm : m < 100) (hV : Below w.heap.size w V) => searchFewer_any L (sAll (nS L)) m V h hS (hN h.n1) hm (ht.below hV ht.lt))
  obtain ⟨Z, hZ⟩ : ∃ Z, rkX L = Z := ⟨_, rfl⟩
  have HZ0 : Hid (rkL (tabN L) L.length (sAll (nS L)) (nS L - 1) 1 = Z) := Lib.hid hZ
  rw [hZ]
  have c0 := HC.out _ r0
  clear hZ hS hN h ht
  generalize sAll (nS L) = a at *
  generalize nS L = n at *
  generalize tabN L = T at *
  go_enter Tryd.func54, Tryd.ntmps54
  go_wp2
  clear c0
  go_loopw [4] (fun q wr => ∃ m : Nat, q = .int .i64 m ∧ 1 ≤ m ∧ m ≤ n ∧ Row wr w.heap.size 76 (iv (mc L)) ∧ Below w.heap.size w wr ∧ Hid (rkL T L.length a (n - m) m = Z)) (fun q _ => n - (intOf q).toNat)
  case atStart => exact ⟨1, rfl, by omega, hn1, r0, b0, HZ0⟩
  case round =>
    clear r0 b0 HZ0 hn1
    obtain ⟨m, rfl, hm1, hmn, r0, b0, HZ⟩ := hrel
    have c0 := HC.out _ r0
    by_cases hlt : m < n
    · have g1 : decide (m < n) = true := decide_eq_true hlt
      have HZ2 : Hid ((match seek T L.length a (few m) with
        | some (_, x) => (m, x)
        | none => rkL T L.length a (n - (m + 1)) (m + 1)) = Z) := Lib.hid (by have := HZ.out; rw [show n - m = (n - (m + 1)) + 1 by omega] at this; exact this)
      have HFM := Lib.hid (fun V => HF.out m V (by omega))
      clear HZ
      go_wp2
      clear c0
      have HA2 : Hid (∀ u : After wr, Calls Tryd.prog 52 #[.agg (iv (mc L)).toArray] u.v fun e w' => e = .returned (.int .u16 a) ∧ Below u.v.heap.size u.v w') := Lib.hid (fun u => HA.out u.v)
      cases hX : seek T L.length a (few m) with
      | none =>
        rw [hX] at HFM HZ2
        have HF3 : Hid (∀ u : After wr, Calls Tryd.prog 51 #[.agg (iv (mc L)).toArray, .int .u16 a, .int .i64 m] u.v fun e w' => e = .returned (.tuple #[.string ⟨#[]⟩, .int .u16 0, .bool false]) ∧ Below u.v.heap.size u.v w') := Lib.hid (fun u => HFM.out u.v (b0.trans (u.h.mono b0.size)))
        have HZ3 : Hid (rkL T L.length a (n - (m + 1)) (m + 1) = Z) := HZ2
        clear HZ2 HFM hX
        refine wp_region_class_all (C := fun w' => ∃ u : After _, w' = u.v) (by kernel_rfl) (by kernel_rfl) (isAfter_start _) ?_
        try simp only [Act.put]
        repeat (first | ((with_reducible refine (?_ : wpQuiet _ _ _ _ (Oper.mk (some 15) _ _ _ _ _ :: _) _); go_big_quiet_want); refine quiet_load_row 76 (.tmp 1) rfl w.heap.size rfl 76 (iv (mc L)) _ (fun _ hc => after_row r0 hc) Tryd.underlying76 rfl hi4 ?_; simp only [Act.put, List.setIfInBounds_toArray, List.set_cons_zero, List.set_cons_succ]; go_big_quiet_on) | ((with_reducible refine (?_ : wpQuiet _ _ _ _ (Oper.mk (some 16) _ _ _ _ _ :: _) _); go_big_quiet_want); refine quiet_load_row 76 (.tmp 1) rfl w.heap.size rfl 76 (iv (mc L)) _ (fun _ hc => after_row r0 hc) Tryd.underlying76 rfl hi4 ?_; simp only [Act.put, List.setIfInBounds_toArray, List.set_cons_zero, List.set_cons_succ]; go_big_quiet_on) | go_big_quiet_step ((first | (with_reducible refine (HA2.out _).mono ?_; rintro e w8 ⟨rfl, b8⟩; exact ⟨rfl, After.done _ b8⟩) | (with_reducible refine (HF3.out _).mono ?_; rintro e w8 ⟨rfl, b8⟩; exact ⟨rfl, After.done _ b8⟩))))
        refine wpQuiet_nil ?_
        rintro _ ⟨ua, rfl⟩
        go_wp2
        go_roundw
        case rel => exact ⟨m + 1, by go_num, by omega, by omega, r0.below ua.h, b0.trans (ua.h.mono b0.size), HZ3⟩
        case measure => simp [intOf]; omega
      | some q =>
        obtain ⟨t, x⟩ := q
        rw [hX] at HFM HZ2
        have HF3 : Hid (∀ u : After wr, Calls Tryd.prog 51 #[.agg (iv (mc L)).toArray, .int .u16 a, .int .i64 m] u.v fun e w' => e = .returned (.tuple #[.string (wS x), .int .u16 t, .bool true]) ∧ Below u.v.heap.size u.v w') := Lib.hid (fun u => HFM.out u.v (b0.trans (u.h.mono b0.size)))
        have hz : (m, x) = Z := HZ2.out
        subst hz
        clear HZ2 HFM hX
        refine wp_region_class_all (C := fun w' => ∃ u : After _, w' = u.v) (by kernel_rfl) (by kernel_rfl) (isAfter_start _) ?_
        try simp only [Act.put]
        repeat (first | ((with_reducible refine (?_ : wpQuiet _ _ _ _ (Oper.mk (some 15) _ _ _ _ _ :: _) _); go_big_quiet_want); refine quiet_load_row 76 (.tmp 1) rfl w.heap.size rfl 76 (iv (mc L)) _ (fun _ hc => after_row r0 hc) Tryd.underlying76 rfl hi4 ?_; simp only [Act.put, List.setIfInBounds_toArray, List.set_cons_zero, List.set_cons_succ]; go_big_quiet_on) | ((with_reducible refine (?_ : wpQuiet _ _ _ _ (Oper.mk (some 16) _ _ _ _ _ :: _) _); go_big_quiet_want); refine quiet_load_row 76 (.tmp 1) rfl w.heap.size rfl 76 (iv (mc L)) _ (fun _ hc => after_row r0 hc) Tryd.underlying76 rfl hi4 ?_; simp only [Act.put, List.setIfInBounds_toArray, List.set_cons_zero, List.set_cons_succ]; go_big_quiet_on) | go_big_quiet_step ((first | (with_reducible refine (HA2.out _).mono ?_; rintro e w8 ⟨rfl, b8⟩; exact ⟨rfl, After.done _ b8⟩) | (with_reducible refine (HF3.out _).mono ?_; rintro e w8 ⟨rfl, b8⟩; exact ⟨rfl, After.done _ b8⟩))))
        refine wpQuiet_nil ?_
        rintro _ ⟨ua, rfl⟩
        go_wp2
        go_ret2
        exact ⟨rfl, b0.trans (ua.h.mono b0.size)⟩
    · obtain rfl : m = n := by omega
      have hz : (m, []) = Z := by have := HZ.out; rw [Nat.sub_self] at this; exact this
      subst hz
      clear HZ
      go_wp2
      go_ret2
      exact ⟨rfl, b0⟩
theorem Rank_no (A : Option Addr) (c : Nat) (L : List (List Int)) (w : World) (hv : okM L = false) (ha : RowsAt w A L) :
    Calls Tryd.prog 18 #[.slice A L.length c] w fun e w' => e = .returned (.tuple #[.int .i64 0, .string ⟨#[]⟩, .int .i64 2]) ∧ Below w.heap.size w w' := by
  have HR := Lib.hid (rm_no A c L w hv ha)
  clear hv ha
  go_enter Tryd.func18, Tryd.ntmps18
  go_wp2_with (first
    | (go_at_call 50; refine HR.out.mono ?_; rintro e w2 ⟨rfl, b2⟩; have q0 : Row (w2.alloc (.cells #[.int .i64 0, .int .i64 0, .int .i64 0, .int .i64 0, .int .i64 0, .int .i64 0, .int .i64 0, .int .i64 0, .int .i64 0, .int .i64 0, .int .i64 0, .int .i64 0, .int .i64 0, .int .i64 0, .int .i64 0, .int .i64 0, .int .i64 0, .int .i64 0, .int .i64 0, .int .i64 0, .int .i64 0, .int .i64 0, .int .i64 0, .int .i64 0, .int .i64 0, .int .i64 0, .int .i64 0, .int .i64 0, .int .i64 0, .int .i64 0, .int .i64 0, .int .i64 0, .int .i64 0, .int .i64 0, .int .i64 0, .int .i64 0, .int .i64 0, .int .i64 0] 76)) w2.heap.size 76 Z38 := row_new rfl; have b0 := b2.alloc b2.size (.cells #[.int .i64 0, .int .i64 0, .int .i64 0, .int .i64 0, .int .i64 0, .int .i64 0, .int .i64 0, .int .i64 0, .int .i64 0, .int .i64 0, .int .i64 0, .int .i64 0, .int .i64 0, .int .i64 0, .int .i64 0, .int .i64 0, .int .i64 0, .int .i64 0, .int .i64 0, .int .i64 0, .int .i64 0, .int .i64 0, .int .i64 0, .int .i64 0, .int .i64 0, .int .i64 0, .int .i64 0, .int .i64 0, .int .i64 0, .int .i64 0, .int .i64 0, .int .i64 0, .int .i64 0, .int .i64 0, .int .i64 0, .int .i64 0, .int .i64 0, .int .i64 0] 76); have hbz := b2.size)
    | (with_reducible refine (?_ : wpList _ _ _ (Oper.mk _ (Op.store 76 (.tmp 5) _) _ _ _ _ :: _) _ _); refine wpList_store_row rfl 76 (.tmp 5) (.tmp 12) rfl w2.heap.size Z38.toArray rfl rfl 76 Z38.toArray (row_heap q0) info76_z rfl z38_all ?_; replace b0 := below_row (g := w2.heap.size) b0 hbz Z38.toArray; generalize World.setRow (w2.alloc _) _ _ = W at *))
  exact bodyPost_ret (results_tmp3 rfl _ _ _) rfl ⟨rfl, b0⟩
theorem Rank_yes (A : Option Addr) (c : Nat) (L : List (List Int)) (w : World) (h : IsMI L) (ha : RowsAt w A L) (ht : TabW w) :
    Calls Tryd.prog 18 #[.slice A L.length c] w fun e w' => e = .returned (.tuple #[.int .i64 (rkX L).1, .string (wS (rkX L).2), .int .i64 0]) ∧ Below w.heap.size w w' := by
  have HR := Lib.hid (rm_yes A c L w h ha)
  have hi := info76_iv (x := mc L) (mcP_len L 36)
  have hsz := hsz76 L
  have HK := Lib.hid (fun V (hV : Below w.heap.size w V) => rank_any L V h (ht.below hV ht.lt))
  clear ha ht h
  generalize rkX L = Z at *
  go_enter Tryd.func18, Tryd.ntmps18
  go_wp2_with (first
    | (go_at_call 50; refine HR.out.mono ?_; rintro e w2 ⟨rfl, b2⟩; have q0 : Row (w2.alloc (.cells #[.int .i64 0, .int .i64 0, .int .i64 0, .int .i64 0, .int .i64 0, .int .i64 0, .int .i64 0, .int .i64 0, .int .i64 0, .int .i64 0, .int .i64 0, .int .i64 0, .int .i64 0, .int .i64 0, .int .i64 0, .int .i64 0, .int .i64 0, .int .i64 0, .int .i64 0, .int .i64 0, .int .i64 0, .int .i64 0, .int .i64 0, .int .i64 0, .int .i64 0, .int .i64 0, .int .i64 0, .int .i64 0, .int .i64 0, .int .i64 0, .int .i64 0, .int .i64 0, .int .i64 0, .int .i64 0, .int .i64 0, .int .i64 0, .int .i64 0, .int .i64 0] 76)) w2.heap.size 76 Z38 := row_new rfl; have b0 := b2.alloc b2.size (.cells #[.int .i64 0, .int .i64 0, .int .i64 0, .int .i64 0, .int .i64 0, .int .i64 0, .int .i64 0, .int .i64 0, .int .i64 0, .int .i64 0, .int .i64 0, .int .i64 0, .int .i64 0, .int .i64 0, .int .i64 0, .int .i64 0, .int .i64 0, .int .i64 0, .int .i64 0, .int .i64 0, .int .i64 0, .int .i64 0, .int .i64 0, .int .i64 0, .int .i64 0, .int .i64 0, .int .i64 0, .int .i64 0, .int .i64 0, .int .i64 0, .int .i64 0, .int .i64 0, .int .i64 0, .int .i64 0, .int .i64 0, .int .i64 0, .int .i64 0, .int .i64 0] 76); have hbz := b2.size)
    | (with_reducible refine (?_ : wpList _ _ _ (Oper.mk _ (Op.store 76 (.tmp 5) _) _ _ _ _ :: _) _ _); refine wpList_store_row rfl 76 (.tmp 5) (.tmp 12) rfl w2.heap.size (iv (mc L)).toArray rfl rfl 76 Z38.toArray (row_heap q0) hi hsz (iv_all _) ?_; replace q0 := q0.row (iv (mc L)); replace b0 := below_row (g := w2.heap.size) b0 hbz (iv (mc L)).toArray; generalize World.setRow (w2.alloc _) _ _ = W at *)
    | ((with_reducible refine (?_ : wpList _ _ _ (Oper.mk (some 17) _ _ _ _ _ :: _) _ _)); refine wpList_load_row rfl 76 (.tmp 5) rfl w2.heap.size rfl 76 (iv (mc L)).toArray (0, 0) _ (row_heap q0) Tryd.underlying76 rfl hi ?_)
    | (go_at_call 54; refine (HK.out _ b0).mono ?_; rintro e w3 ⟨rfl, b3⟩; replace b0 := b0.trans (b3.mono b0.size)))
  exact bodyPost_ret (results_tmp3 rfl _ _ _) rfl ⟨rfl, b0⟩
end Go.Proofs.YtignbpipdfjkeaaDoor
