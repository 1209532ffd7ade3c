/- An order is turned: Second, Written. -/
import Derived.Test.YtheblebfeinjjaaNW
namespace Go.Proofs.Ytheblebfeinjjaa
open Go.RowKit
set_option maxHeartbeats 1000000
set_option maxRecDepth 100000
theorem turnedS_yes (A : Option Addr) (c : Nat) (l : List Int) (w : World) (h : IsO l) (ha : IntsAt w A l) :
    Calls Try.prog 51 #[.slice A l.length c, .func (.func 60) #[] #[]] w fun e w' => ∃ v, e = .returned (.tuple #[v, .int .i64 0]) ∧ w'.ownsRow w.heap.size 3 1 v (sec l).length (iv (sec l)) ∧ Below w.heap.size w w' := by
  have hpl := pad_len h.le
  have hi := info50_iv hpl
  have HR := Lib.hid (read_yes A c l w h ha)
  have HN := Lib.hid (fun w => second_any l w h)
  have HL := Lib.hid (fun w => list_any (sec l) w h.sec)
  unfold arr at HR HN HL
  clear h ha
  generalize sec l = M at *
  generalize pad l = X at *
  generalize pad M = Y at *
  go_enter Try.func51, Try.ntmps51
  go_wp2_with (first
    | (go_at_call 49; refine HR.out.mono ?_; rintro e w1 ⟨rfl, b1⟩; have r1 : Row (w1.alloc (.cells Z12.toArray 50)) w1.heap.size 50 Z12 := row_new rfl; have b0 := b1.alloc b1.size (.cells Z12.toArray 50); have hz1 := b1.size)
    | (with_reducible refine (?_ : wpList _ _ _ (Oper.mk _ (Op.store 50 (.tmp 6) _) _ _ _ _ :: _) _ _); refine wpList_store_row rfl 50 (.tmp 6) (.tmp 11) rfl w1.heap.size (iv X).toArray rfl rfl 50 Z12.toArray (row_heap r1) hi (size50_Z hpl) (iv_all _) ?_; replace r1 := r1.row (iv X); replace b0 := below_row (g := w1.heap.size) b0 hz1 (iv X).toArray; generalize World.setRow (w1.alloc _) _ _ = W at *)
    | ((with_reducible refine (?_ : wpList _ _ _ (Oper.mk (some 16) _ _ _ _ _ :: _) _ _)); refine wpList_load_row rfl 50 (.tmp 6) rfl w1.heap.size rfl 50 (iv X).toArray (0, 0) _ (row_heap r1) Try.underlying50 rfl hi ?_)
    | (go_at_call 60; refine (HN.out _).mono ?_; rintro e w5 ⟨rfl, b5⟩; replace b0 := b0.trans (b5.mono b0.size))
    | (go_at_call 59; fail))
  refine (HL.out _).mono ?_
  rintro e w6 ⟨v, rfl, o6, b6⟩
  have b7 := b0.trans (b6.mono b0.size)
  have o7 := own_mono o6 b0.size
  clear o6 b6
  obtain ⟨A6, c6, rfl, -, -, -⟩ := own_intsI o7
  go_wp2
  go_ret2
  exact ⟨_, rfl, o7, b7⟩
theorem turnedS_no (A : Option Addr) (c : Nat) (l : List Int) (w : World) (hx : l.length ≤ 1000000) (h : okO l = false) (ha : IntsAt w A l) :
    Calls Try.prog 51 #[.slice A l.length c, .func (.func 60) #[] #[]] w fun e w' => e = .returned (.tuple #[.slice none 0 0, .int .i64 2]) ∧ Below w.heap.size w w' := by
  have HR := Lib.hid (read_no A c l w hx h ha)
  clear h ha
  go_enter Try.func51, Try.ntmps51
  go_wp2_with (go_at_call 49; fail)
  refine HR.out.mono ?_
  rintro e w1 ⟨X, hpl, rfl, b1⟩
  have hi := info50_iv hpl
  have r1 : Row (w1.alloc (.cells Z12.toArray 50)) w1.heap.size 50 Z12 := row_new rfl
  have b0 := b1.alloc b1.size (.cells Z12.toArray 50)
  have hz1 := b1.size
  go_wp2_with (with_reducible refine (?_ : wpList _ _ _ (Oper.mk _ (Op.store 50 (.tmp 6) _) _ _ _ _ :: _) _ _); refine wpList_store_row rfl 50 (.tmp 6) (.tmp 11) rfl w1.heap.size (iv X).toArray rfl rfl 50 Z12.toArray (row_heap r1) hi (size50_Z hpl) (iv_all _) ?_; replace b0 := below_row (g := w1.heap.size) b0 hz1 (iv X).toArray; generalize World.setRow (w1.alloc _) _ _ = W at *)
  go_ret2
  exact ⟨rfl, b0⟩
theorem Second_yes (A : Option Addr) (c : Nat) (l : List Int) (w : World) (h : IsO l) (ha : IntsAt w A l) :
    Calls Try.prog 29 #[.slice A l.length c] w fun e w' => ∃ A' c', e = .returned (.tuple #[.slice A' (sec l).length c', .int .i64 0]) ∧ w'.ownsRow w.heap.size 3 1 (.slice A' (sec l).length c') (sec l).length (iv (sec l)) ∧ Below w.heap.size w w' := by
  have HT := Lib.hid (turnedS_yes A c l w h ha)
  clear h ha
  go_enter Try.func29, Try.ntmps29
  go_wp2_with (go_at_call 51; fail)
  refine HT.out.mono ?_
  rintro e w6 ⟨v, rfl, o7, b7⟩
  obtain ⟨A6, c6, rfl, -, -, -⟩ := own_intsI o7
  go_wp2
  go_ret2
  exact ⟨_, _, rfl, o7, b7⟩
theorem Second_no (A : Option Addr) (c : Nat) (l : List Int) (w : World) (hx : l.length ≤ 1000000) (h : okO l = false) (ha : IntsAt w A l) :
    Calls Try.prog 29 #[.slice A l.length c] w fun e w' => e = .returned (.tuple #[.slice none 0 0, .int .i64 2]) ∧ Below w.heap.size w w' := by
  have HT := Lib.hid (turnedS_no A c l w hx h ha)
  clear h ha
  go_enter Try.func29, Try.ntmps29
  go_wp2_with (go_at_call 51; refine HT.out.mono ?_; rintro e w6 ⟨rfl, b7⟩)
  go_ret2
  exact ⟨rfl, b7⟩
theorem turnedW_yes (A : Option Addr) (c : Nat) (l : List Int) (w : World) (h : IsO l) (ha : IntsAt w A l) :
    Calls Try.prog 51 #[.slice A l.length c, .func (.func 62) #[] #[]] w fun e w' => ∃ v, e = .returned (.tuple #[v, .int .i64 0]) ∧ w'.ownsRow w.heap.size 3 1 v (wr' l).length (iv (wr' l)) ∧ Below w.heap.size w w' := by
  have hpl := pad_len h.le
  have hi := info50_iv hpl
  have HR := Lib.hid (read_yes A c l w h ha)
  have HN := Lib.hid (fun w => written_any l w h)
  have HL := Lib.hid (fun w => list_any (wr' l) w h.wr)
  unfold arr at HR HN HL
  clear h ha
  generalize wr' l = M at *
  generalize pad l = X at *
  generalize pad M = Y at *
  go_enter Try.func51, Try.ntmps51
  go_wp2_with (first
    | (go_at_call 49; refine HR.out.mono ?_; rintro e w1 ⟨rfl, b1⟩; have r1 : Row (w1.alloc (.cells Z12.toArray 50)) w1.heap.size 50 Z12 := row_new rfl; have b0 := b1.alloc b1.size (.cells Z12.toArray 50); have hz1 := b1.size)
    | (with_reducible refine (?_ : wpList _ _ _ (Oper.mk _ (Op.store 50 (.tmp 6) _) _ _ _ _ :: _) _ _); refine wpList_store_row rfl 50 (.tmp 6) (.tmp 11) rfl w1.heap.size (iv X).toArray rfl rfl 50 Z12.toArray (row_heap r1) hi (size50_Z hpl) (iv_all _) ?_; replace r1 := r1.row (iv X); replace b0 := below_row (g := w1.heap.size) b0 hz1 (iv X).toArray; generalize World.setRow (w1.alloc _) _ _ = W at *)
    | ((with_reducible refine (?_ : wpList _ _ _ (Oper.mk (some 16) _ _ _ _ _ :: _) _ _)); refine wpList_load_row rfl 50 (.tmp 6) rfl w1.heap.size rfl 50 (iv X).toArray (0, 0) _ (row_heap r1) Try.underlying50 rfl hi ?_)
    | (go_at_call 62; refine (HN.out _).mono ?_; rintro e w5 ⟨rfl, b5⟩; replace b0 := b0.trans (b5.mono b0.size))
    | (go_at_call 59; fail))
  refine (HL.out _).mono ?_
  rintro e w6 ⟨v, rfl, o6, b6⟩
  have b7 := b0.trans (b6.mono b0.size)
  have o7 := own_mono o6 b0.size
  clear o6 b6
  obtain ⟨A6, c6, rfl, -, -, -⟩ := own_intsI o7
  go_wp2
  go_ret2
  exact ⟨_, rfl, o7, b7⟩
theorem turnedW_no (A : Option Addr) (c : Nat) (l : List Int) (w : World) (hx : l.length ≤ 1000000) (h : okO l = false) (ha : IntsAt w A l) :
    Calls Try.prog 51 #[.slice A l.length c, .func (.func 62) #[] #[]] w fun e w' => e = .returned (.tuple #[.slice none 0 0, .int .i64 2]) ∧ Below w.heap.size w w' := by
  have HR := Lib.hid (read_no A c l w hx h ha)
  clear h ha
  go_enter Try.func51, Try.ntmps51
  go_wp2_with (go_at_call 49; fail)
  refine HR.out.mono ?_
  rintro e w1 ⟨X, hpl, rfl, b1⟩
  have hi := info50_iv hpl
  have r1 : Row (w1.alloc (.cells Z12.toArray 50)) w1.heap.size 50 Z12 := row_new rfl
  have b0 := b1.alloc b1.size (.cells Z12.toArray 50)
  have hz1 := b1.size
  go_wp2_with (with_reducible refine (?_ : wpList _ _ _ (Oper.mk _ (Op.store 50 (.tmp 6) _) _ _ _ _ :: _) _ _); refine wpList_store_row rfl 50 (.tmp 6) (.tmp 11) rfl w1.heap.size (iv X).toArray rfl rfl 50 Z12.toArray (row_heap r1) hi (size50_Z hpl) (iv_all _) ?_; replace b0 := below_row (g := w1.heap.size) b0 hz1 (iv X).toArray; generalize World.setRow (w1.alloc _) _ _ = W at *)
  go_ret2
  exact ⟨rfl, b0⟩
theorem Written_yes (A : Option Addr) (c : Nat) (l : List Int) (w : World) (h : IsO l) (ha : IntsAt w A l) :
    Calls Try.prog 31 #[.slice A l.length c] w fun e w' => ∃ A' c', e = .returned (.tuple #[.slice A' (wr' l).length c', .int .i64 0]) ∧ w'.ownsRow w.heap.size 3 1 (.slice A' (wr' l).length c') (wr' l).length (iv (wr' l)) ∧ Below w.heap.size w w' := by
  have HT := Lib.hid (turnedW_yes A c l w h ha)
  clear h ha
  go_enter Try.func31, Try.ntmps31
  go_wp2_with (go_at_call 51; fail)
  refine HT.out.mono ?_
  rintro e w6 ⟨v, rfl, o7, b7⟩
  obtain ⟨A6, c6, rfl, -, -, -⟩ := own_intsI o7
  go_wp2
  go_ret2
  exact ⟨_, _, rfl, o7, b7⟩
theorem Written_no (A : Option Addr) (c : Nat) (l : List Int) (w : World) (hx : l.length ≤ 1000000) (h : okO l = false) (ha : IntsAt w A l) :
    Calls Try.prog 31 #[.slice A l.length c] w fun e w' => e = .returned (.tuple #[.slice none 0 0, .int .i64 2]) ∧ Below w.heap.size w w' := by
  have HT := Lib.hid (turnedW_no A c l w hx h ha)
  clear h ha
  go_enter Try.func31, Try.ntmps31
  go_wp2_with (go_at_call 51; refine HT.out.mono ?_; rintro e w6 ⟨rfl, b7⟩)
  go_ret2
  exact ⟨rfl, b7⟩
end Go.Proofs.Ytheblebfeinjjaa
