/- Index of an order. -/
import Derived.Test.YtheblebfeinjjaaPB
namespace Go.Proofs.Ytheblebfeinjjaa
open Go.RowKit
set_option maxHeartbeats 1000000
set_option maxRecDepth 100000
def tabN (l : List Int) : List Nat := (List.range l.length).map fun i => smN l i l.length
theorem tabN_len (l : List Int) : (tabN l).length = l.length := by simp [tabN]
theorem tabN_I (l : List Int) : natI (tabN l) = tabL l := by simp [natI, tabN, tabL]
theorem tabN_at {l : List Int} {i : Nat} (h : i < l.length) : getn (tabN l) i = smN l i l.length := by
  have h1 := tabL_at h
  rw [← tabN_I, geti_natI] at h1
  omega
theorem tabN_ok (l : List Int) : DigOk (tabN l) l.length := by
  intro i hi
  rw [tabN_at hi]
  have h : ∀ k, i < k → smN l i k < k - i := by
    intro k
    induction k with
    | zero => intro h; omega
    | succ k ih =>
      intro h
      by_cases e : k = i
      · subst e; rw [smN_low l k (k + 1) (Nat.le_refl _)]; omega
      · have := ih (by omega)
        simp only [smN]
        split <;> omega
  exact h _ hi
theorem Index_yes (A : Option Addr) (c : Nat) (l : List Int) (w : World) (h : IsO l) (ha : IntsAt w A l) :
    Calls Try.prog 19 #[.slice A l.length c] w fun e w' => e = .returned (.tuple #[.int .i64 (plN (tabN l) l.length l.length : Nat), .int .i64 0]) ∧ Below w.heap.size w w' := by
  have hpl := pad_len h.le
  have hi := info50_iv hpl
  have HR := Lib.hid (read_yes A c l w h ha)
  have HT := Lib.hid (fun w => table_any l w h)
  have hN := tabN_len l
  have HP := Lib.hid (fun A c w => placeOf_any A c (tabN l) w (by rw [hN]; exact h.le) (by rw [hN]; exact tabN_ok l))
  rw [tabN_I, hN] at HP
  have htl := tabL_len l
  have HTL := Lib.hid htl
  unfold arr at HR HT
  clear h ha htl hN
  generalize plN (tabN l) l.length l.length = Q at *
  generalize pad l = X at *
  generalize tabL l = T at *
  go_enter Try.func19, Try.ntmps19
  go_wp2_with (first
    | (go_at_call 49; refine HR.out.mono ?_; rintro e w1 ⟨rfl, b1⟩; have r1 : Row (w1.alloc (.cells Z12.toArray 50)) w1.heap.size 50 Z12 := row_new rfl; have b0 := b1.alloc b1.size (.cells Z12.toArray 50); have hz1 := b1.size)
    | (with_reducible refine (?_ : wpList _ _ _ (Oper.mk _ (Op.store 50 (.tmp 4) _) _ _ _ _ :: _) _ _); refine wpList_store_row rfl 50 (.tmp 4) (.tmp 9) rfl w1.heap.size (iv X).toArray rfl rfl 50 Z12.toArray (row_heap r1) hi (size50_Z hpl) (iv_all _) ?_; replace r1 := r1.row (iv X); replace b0 := below_row (g := w1.heap.size) b0 hz1 (iv X).toArray; generalize World.setRow (w1.alloc _) _ _ = W at *)
    | ((with_reducible refine (?_ : wpList _ _ _ (Oper.mk (some 13) _ _ _ _ _ :: _) _ _)); refine wpList_load_row rfl 50 (.tmp 4) rfl w1.heap.size rfl 50 (iv X).toArray (0, 0) _ (row_heap r1) Try.underlying50 rfl hi ?_)
    | (go_at_call 53; fail))
  refine (HT.out _).mono ?_
  rintro e w6 ⟨v, rfl, o6, b6⟩
  have b7 := b0.trans (b6.mono b0.size)
  have o7 := own_mono o6 b0.size
  clear o6 b6
  obtain ⟨A6, c6, e6, -, -, a6⟩ := own_intsI o7
  rw [HTL.out] at e6
  subst e6
  go_wp2_with (go_at_call 54; fail)
  refine (HP.out _ _ _ a6).mono ?_
  rintro e w7 ⟨rfl, rfl⟩
  go_wp2
  go_ret2
  exact ⟨rfl, b7⟩
theorem Index_no (A : Option Addr) (c : Nat) (l : List Int) (w : World) (hx : l.length ≤ 1000000) (h : okO l = false) (ha : IntsAt w A l) :
    Calls Try.prog 19 #[.slice A l.length c] w fun e w' => e = .returned (.tuple #[.int .i64 0, .int .i64 2]) ∧ Below w.heap.size w w' := by
  have HR := Lib.hid (read_no A c l w hx h ha)
  clear h ha
  go_enter Try.func19, Try.ntmps19
  go_wp2_with (go_at_call 49; fail)
  refine HR.out.mono ?_
  rintro e w1 ⟨X, hpl, rfl, b1⟩
  have hi := info50_iv hpl
  have r1 : Row (w1.alloc (.cells Z12.toArray 50)) w1.heap.size 50 Z12 := row_new rfl
  have b0 := b1.alloc b1.size (.cells Z12.toArray 50)
  have hz1 := b1.size
  go_wp2_with (with_reducible refine (?_ : wpList _ _ _ (Oper.mk _ (Op.store 50 (.tmp 4) _) _ _ _ _ :: _) _ _); refine wpList_store_row rfl 50 (.tmp 4) (.tmp 9) rfl w1.heap.size (iv X).toArray rfl rfl 50 Z12.toArray (row_heap r1) hi (size50_Z hpl) (iv_all _) ?_; replace b0 := below_row (g := w1.heap.size) b0 hz1 (iv X).toArray; generalize World.setRow (w1.alloc _) _ _ = W at *)
  go_ret2
  exact ⟨rfl, b0⟩
end Go.Proofs.Ytheblebfeinjjaa
