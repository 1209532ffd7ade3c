/- CheckChoice. -/
import Derived.Test.YtnnaaoobdofooaaSG
import Derived.Test.YtnnaaoobdofooaaSF
namespace Go.Proofs.Ytnnaaoobdofooaa
open Go.RowKit
set_option maxHeartbeats 1000000
set_option maxRecDepth 100000
/-- What is right for a choice and a block. -/
def chk (L : List (List Int)) (xs ys : List Int) : Bool := (decide (ys.length = 0) && possB L xs) || (decide (xs.length = 0) && blkB L ys)
theorem CheckChoice_no (A B C : Option Addr) (c d f : Nat) (L : List (List Int)) (xs ys : List Int) (w : World) (hv : okT L = false) (ha : RowsAt w A L) :
    Calls Try.prog 32 #[.slice A L.length c, .slice B xs.length d, .slice C ys.length f] w fun e w' => e = .returned (.int .i64 2) ∧ Below w.heap.size w w' := by
  have HR := Lib.hid (readTable_no A c L w hv ha)
  clear hv ha
  go_enter Try.func32, Try.ntmps32
  go_wp2_with (first
    | (go_at_call 48; refine HR.out.mono ?_; rintro e w2 ⟨rfl, b2⟩; have q0 : Row (w2.alloc (.cells Try.zeroCells73 73)) w2.heap.size 73 Try.zeroCells73.toList := row_new (by simp); have b0 := b2.alloc b2.size (.cells Try.zeroCells73 73); have hbz := b2.size)
    | (with_reducible refine (?_ : wpList _ _ _ (Oper.mk _ (Op.store 73 _ _) _ _ _ _ :: _) _ _); refine wpList_store_row rfl 73 _ _ rfl w2.heap.size Try.zeroCells73 rfl rfl 73 Try.zeroCells73.toList.toArray (row_heap q0) info73_z rfl z73_all ?_; replace b0 := below_row (g := w2.heap.size) b0 hbz Try.zeroCells73; generalize World.setRow (w2.alloc _) _ _ = W at *))
  go_ret
  exact ⟨rfl, b0⟩
theorem CheckChoice_yes (A B C : Option Addr) (c d f : Nat) (L : List (List Int)) (xs ys : List Int) (w : World) (h : IsT L) (hx : xs.length ≤ 1000000) (hy : ys.length ≤ 1000000) (ha : RowsAt w A L) (hb : IntsAt w B xs) (hc : IntsAt w C ys) :
    Calls Try.prog 32 #[.slice A L.length c, .slice B xs.length d, .slice C ys.length f] w fun e w' => e = .returned (.int .i64 (if chk L xs ys = true then 0 else 10)) ∧ Below w.heap.size w w' := by
  have HR := Lib.hid (readTable_yes A c L w h ha)
  have HP := Lib.hid (fun (V : World) hV => isPossible_any L B d xs V h hx (hb.below hV))
  have HB := Lib.hid (fun (V : World) hV => isBlock_any L C f ys V h hy (hc.below hV))
  have hi := info73_iv (x := grd L) (grdP_len _ 100)
  have hsz : Try.zeroCells73.toList.toArray.size = (iv (grd L)).toArray.size := by rw [z73]; exact size73_iv (by simp) (grdP_len L 100)
  have hk : chk L xs ys = ((decide (ys.length = 0) && possB L xs) || (decide (xs.length = 0) && blkB L ys)) := rfl
  rw [hk]
  clear h ha hb hc hk
  generalize possB L xs = p at *
  generalize blkB L ys = q at *
  cases hy1 : decide (ys.length = 0)
  · have g1 : ((ys.length : Int) == 0) = false := by rw [beq_eq_false_iff_ne]; have := of_decide_eq_false hy1; omega
    clear hy1
    cases hx1 : decide (xs.length = 0)
    · have g2 : ((xs.length : Int) == 0) = false := by rw [beq_eq_false_iff_ne]; have := of_decide_eq_false hx1; omega
      clear hx1
      go_enter Try.func32, Try.ntmps32
      go_wp2_with (first
        | (go_at_call 48; refine HR.out.mono ?_; rintro e w2 ⟨rfl, b2⟩; have q0 : Row (w2.alloc (.cells Try.zeroCells73 73)) w2.heap.size 73 Try.zeroCells73.toList := row_new (by simp); have b0 := b2.alloc b2.size (.cells Try.zeroCells73 73); have hbz := b2.size)
        | (with_reducible refine (?_ : wpList _ _ _ (Oper.mk _ (Op.store 73 _ _) _ _ _ _ :: _) _ _); refine wpList_store_row rfl 73 _ _ rfl w2.heap.size (iv (grd L)).toArray rfl rfl 73 Try.zeroCells73.toList.toArray (row_heap q0) hi hsz (iv_all _) ?_; replace q0 := q0.row (iv (grd L)); replace b0 := below_row (g := w2.heap.size) b0 hbz (iv (grd L)).toArray; generalize World.setRow (w2.alloc _) _ _ = W at *)
        | (go_big_want; refine wp_load_row 73 (.tmp 7) rfl w2.heap.size rfl 73 (iv (grd L)).toArray (0, 0) _ (row_heap q0) Try.underlying73 rfl hi ?_)
        | (go_at_call 58; refine (HP.out _ b0).mono ?_; rintro e w4 ⟨rfl, b4⟩; replace q0 := q0.below b4; replace b0 := b0.trans (b4.mono b0.size); clear b4)
        | (go_at_call 59; refine (HB.out _ b0).mono ?_; rintro e w4 ⟨rfl, b4⟩; replace q0 := q0.below b4; replace b0 := b0.trans (b4.mono b0.size); clear b4))
      go_ret
      exact ⟨rfl, b0⟩
    · have g2 : ((xs.length : Int) == 0) = true := by rw [beq_iff_eq]; have := of_decide_eq_true hx1; omega
      clear hx1
      cases q
      all_goals
        go_enter Try.func32, Try.ntmps32
        go_wp2_with (first
          | (go_at_call 48; refine HR.out.mono ?_; rintro e w2 ⟨rfl, b2⟩; have q0 : Row (w2.alloc (.cells Try.zeroCells73 73)) w2.heap.size 73 Try.zeroCells73.toList := row_new (by simp); have b0 := b2.alloc b2.size (.cells Try.zeroCells73 73); have hbz := b2.size)
          | (with_reducible refine (?_ : wpList _ _ _ (Oper.mk _ (Op.store 73 _ _) _ _ _ _ :: _) _ _); refine wpList_store_row rfl 73 _ _ rfl w2.heap.size (iv (grd L)).toArray rfl rfl 73 Try.zeroCells73.toList.toArray (row_heap q0) hi hsz (iv_all _) ?_; replace q0 := q0.row (iv (grd L)); replace b0 := below_row (g := w2.heap.size) b0 hbz (iv (grd L)).toArray; generalize World.setRow (w2.alloc _) _ _ = W at *)
          | (go_big_want; refine wp_load_row 73 (.tmp 7) rfl w2.heap.size rfl 73 (iv (grd L)).toArray (0, 0) _ (row_heap q0) Try.underlying73 rfl hi ?_)
          | (go_at_call 58; refine (HP.out _ b0).mono ?_; rintro e w4 ⟨rfl, b4⟩; replace q0 := q0.below b4; replace b0 := b0.trans (b4.mono b0.size); clear b4)
          | (go_at_call 59; refine (HB.out _ b0).mono ?_; rintro e w4 ⟨rfl, b4⟩; replace q0 := q0.below b4; replace b0 := b0.trans (b4.mono b0.size); clear b4))
        go_ret
        exact ⟨rfl, b0⟩
  · have g1 : ((ys.length : Int) == 0) = true := by rw [beq_iff_eq]; have := of_decide_eq_true hy1; omega
    clear hy1
    cases hx1 : decide (xs.length = 0)
    · have g2 : ((xs.length : Int) == 0) = false := by rw [beq_eq_false_iff_ne]; have := of_decide_eq_false hx1; omega
      clear hx1
      cases p
      all_goals
        go_enter Try.func32, Try.ntmps32
        go_wp2_with (first
          | (go_at_call 48; refine HR.out.mono ?_; rintro e w2 ⟨rfl, b2⟩; have q0 : Row (w2.alloc (.cells Try.zeroCells73 73)) w2.heap.size 73 Try.zeroCells73.toList := row_new (by simp); have b0 := b2.alloc b2.size (.cells Try.zeroCells73 73); have hbz := b2.size)
          | (with_reducible refine (?_ : wpList _ _ _ (Oper.mk _ (Op.store 73 _ _) _ _ _ _ :: _) _ _); refine wpList_store_row rfl 73 _ _ rfl w2.heap.size (iv (grd L)).toArray rfl rfl 73 Try.zeroCells73.toList.toArray (row_heap q0) hi hsz (iv_all _) ?_; replace q0 := q0.row (iv (grd L)); replace b0 := below_row (g := w2.heap.size) b0 hbz (iv (grd L)).toArray; generalize World.setRow (w2.alloc _) _ _ = W at *)
          | (go_big_want; refine wp_load_row 73 (.tmp 7) rfl w2.heap.size rfl 73 (iv (grd L)).toArray (0, 0) _ (row_heap q0) Try.underlying73 rfl hi ?_)
          | (go_at_call 58; refine (HP.out _ b0).mono ?_; rintro e w4 ⟨rfl, b4⟩; replace q0 := q0.below b4; replace b0 := b0.trans (b4.mono b0.size); clear b4)
          | (go_at_call 59; refine (HB.out _ b0).mono ?_; rintro e w4 ⟨rfl, b4⟩; replace q0 := q0.below b4; replace b0 := b0.trans (b4.mono b0.size); clear b4))
        go_ret
        exact ⟨rfl, b0⟩
    · have g2 : ((xs.length : Int) == 0) = true := by rw [beq_iff_eq]; have := of_decide_eq_true hx1; omega
      clear hx1
      cases p <;> cases q
      all_goals
        go_enter Try.func32, Try.ntmps32
        go_wp2_with (first
          | (go_at_call 48; refine HR.out.mono ?_; rintro e w2 ⟨rfl, b2⟩; have q0 : Row (w2.alloc (.cells Try.zeroCells73 73)) w2.heap.size 73 Try.zeroCells73.toList := row_new (by simp); have b0 := b2.alloc b2.size (.cells Try.zeroCells73 73); have hbz := b2.size)
          | (with_reducible refine (?_ : wpList _ _ _ (Oper.mk _ (Op.store 73 _ _) _ _ _ _ :: _) _ _); refine wpList_store_row rfl 73 _ _ rfl w2.heap.size (iv (grd L)).toArray rfl rfl 73 Try.zeroCells73.toList.toArray (row_heap q0) hi hsz (iv_all _) ?_; replace q0 := q0.row (iv (grd L)); replace b0 := below_row (g := w2.heap.size) b0 hbz (iv (grd L)).toArray; generalize World.setRow (w2.alloc _) _ _ = W at *)
          | (go_big_want; refine wp_load_row 73 (.tmp 7) rfl w2.heap.size rfl 73 (iv (grd L)).toArray (0, 0) _ (row_heap q0) Try.underlying73 rfl hi ?_)
          | (go_at_call 58; refine (HP.out _ b0).mono ?_; rintro e w4 ⟨rfl, b4⟩; replace q0 := q0.below b4; replace b0 := b0.trans (b4.mono b0.size); clear b4)
          | (go_at_call 59; refine (HB.out _ b0).mono ?_; rintro e w4 ⟨rfl, b4⟩; replace q0 := q0.below b4; replace b0 := b0.trans (b4.mono b0.size); clear b4))
        go_ret
        exact ⟨rfl, b0⟩
end Go.Proofs.Ytnnaaoobdofooaa
