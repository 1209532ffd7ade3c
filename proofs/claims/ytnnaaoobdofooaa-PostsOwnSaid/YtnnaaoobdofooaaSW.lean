/- Choose, where there is no possible choice. -/
import Derived.Test.YtnnaaoobdofooaaSV
namespace Go.Proofs.Ytnnaaoobdofooaa
open Go.RowKit
set_option maxHeartbeats 1000000
set_option maxRecDepth 100000
/-- The block that Choose returns. -/
def blkL (L : List (List Int)) : List Int := lsS (shR L.length (jn L L.length).2 (jn L L.length).1 10) 10
theorem blkL_ok {L : List (List Int)} (h : IsT L) (hk : chN L (sAll L.length) ≤ 0) : blkB L (blkL L) = true := short_block h (jn_inv h _ (Nat.le_refl _)) hk
theorem Choose_none (A : Option Addr) (c : Nat) (L : List (List Int)) (w : World) (h : IsT L) (hk : chN L (sAll L.length) ≤ 0) (ha : RowsAt w A L) :
    Calls Try.prog 31 #[.slice A L.length c] w fun e w' => ∃ A' c', e = .returned (.tuple #[.slice none 0 0, .slice A' (blkL L).length c', .int .i64 0]) ∧ w'.ownsRow w.heap.size 3 1 (.slice A' (blkL L).length c') (blkL L).length (iv (blkL L)) ∧ Below w.heap.size w w' := by
  have HR := Lib.hid (readTable_yes A c L w h ha)
  have HP := Lib.hid (fun w => item_no L 0 w h hk)
  have HJ := Lib.hid (fun w => join_any L w h)
  have I := jn_inv h L.length (Nat.le_refl _)
  have HSH := Lib.hid (fun w => short_any L.length (jn L L.length).2 (jn L L.length).1 w h.le I.ok I.lt)
  have HLS := Lib.hid (fun w => list57_any (shR L.length (jn L L.length).2 (jn L L.length).1 10) w (shR_lt h.le _ _ _))
  have hbl : lsS (shR L.length (jn L L.length).2 (jn L L.length).1 10) 10 = blkL L := rfl
  rw [hbl] at HLS
  have hi := info73_iv (x := grd L) (grdP_len _ 100)
  have hsz : Try.zeroCells73.toList.toArray.size = (iv (grd L)).toArray.size := by rw [z73]; exact size73_iv (by simp) (grdP_len L 100)
  clear h ha hk I hbl
  generalize blkL L = T at *
  generalize shR L.length (jn L L.length).2 (jn L L.length).1 10 = S at *
  generalize jc L.length (jn L L.length).2 (jn L L.length).1 = J at *
  go_enter Try.func31, Try.ntmps31
  go_wp2_with (first
    | (go_at_call 48; refine HR.out.mono ?_; rintro e w2 ⟨rfl, b2⟩; have q0 : Row (w2.alloc (.cells Try.zeroCells73 73)) w2.heap.size 73 Try.zeroCells73.toList := row_new (by simp); have b0 := b2.alloc b2.size (.cells Try.zeroCells73 73); have hbz := b2.size)
    | (with_reducible refine (?_ : wpList _ _ _ (Oper.mk _ (Op.store 73 (.tmp 5) _) _ _ _ _ :: _) _ _); refine wpList_store_row rfl 73 (.tmp 5) (.tmp 11) rfl w2.heap.size (iv (grd L)).toArray rfl rfl 73 Try.zeroCells73.toList.toArray (row_heap q0) hi hsz (iv_all _) ?_; replace q0 := q0.row (iv (grd L)); replace b0 := below_row (g := w2.heap.size) b0 hbz (iv (grd L)).toArray; generalize World.setRow (w2.alloc _) _ _ = W at *)
    | (with_reducible refine (?_ : wpList _ _ _ (Oper.mk _ (Op.load 73 _) _ _ _ _ :: _) _ _); refine wpList_load_row rfl 73 (.tmp 5) rfl w2.heap.size rfl 73 (iv (grd L)).toArray (0, 0) _ (row_heap q0) Try.underlying73 rfl hi ?_)
    | (go_at_call 51; fail))
  refine (HP.out _).mono ?_
  rintro e w4 ⟨rfl, b4⟩
  replace q0 := q0.below b4
  replace b0 := b0.trans (b4.mono b0.size)
  clear b4 HP HR
  go_wp2_with (first
    | (with_reducible refine (?_ : wpList _ _ _ (Oper.mk _ (Op.load 73 _) _ _ _ _ :: _) _ _); refine wpList_load_row rfl 73 (.tmp 5) rfl w2.heap.size rfl 73 (iv (grd L)).toArray (0, 0) _ (row_heap q0) Try.underlying73 rfl hi ?_)
    | (go_at_call 55; fail))
  refine (HJ.out _).mono ?_
  rintro e w5 ⟨rfl, b5⟩
  replace b0 := b0.trans (b5.mono b0.size)
  clear b5 HJ q0
  go_wp2_with (go_at_call 56; fail)
  refine (HSH.out _).mono ?_
  rintro e w6 ⟨rfl, b6⟩
  replace b0 := b0.trans (b6.mono b0.size)
  clear b6 HSH
  go_wp2_with (go_at_call 57; fail)
  refine (HLS.out _).mono ?_
  rintro e w7 ⟨v, rfl, o7, b7⟩
  obtain ⟨A4, c4, rfl, -, -, -⟩ := own_intsI o7
  have o5 := own_mono o7 b0.size
  replace b0 := b0.trans (b7.mono b0.size)
  clear o7 b7 HLS
  go_wp2
  go_ret3
  exact ⟨_, _, rfl, o5, b0⟩
end Go.Proofs.Ytnnaaoobdofooaa
