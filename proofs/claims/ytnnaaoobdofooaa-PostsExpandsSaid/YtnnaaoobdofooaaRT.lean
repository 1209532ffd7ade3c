/- Without. -/
import Derived.Test.YtnnaaoobdofooaaRS
namespace Go.Proofs.Ytnnaaoobdofooaa
open Go.RowKit
set_option maxHeartbeats 1000000
set_option maxRecDepth 100000
theorem RowsOwn.mono {w : World} {B B' : Nat} {cs : List Value} {L : List (List Int)} (h : RowsOwn w B cs L) (hb : B' ≤ B) : RowsOwn w B' cs L := ⟨h.1, fun j hj => by
  obtain ⟨v, h1, h2⟩ := h.2 j hj
  exact ⟨v, h1, own_mono h2 hb⟩⟩
theorem Without_no (A : Option Addr) (c : Nat) (L : List (List Int)) (r k : Int) (w : World) (hv : okT L = false) (ha : RowsAt w A L) :
    Calls Try.prog 26 #[.slice A L.length c, .int .i64 r, .int .i64 k] w fun e w' => e = .returned (.tuple #[.slice none 0 0, .int .i64 2]) ∧ Below w.heap.size w w' := by
  have HR := Lib.hid (readTable_no A c L w hv ha)
  clear hv ha
  go_enter Try.func26, Try.ntmps26
  go_wp2_with (first
    | (go_at_call 48; refine HR.out.mono ?_; rintro e w2 ⟨rfl, b2⟩; have q0 : Row (w2.alloc (.cells Try.zeroCells73 73)) w2.heap.size 73 Try.zeroCells73.toList := row_new (by simp); have b0 := b2.alloc b2.size (.cells Try.zeroCells73 73); have hbz := b2.size)
    | (with_reducible refine (?_ : wpList _ _ _ (Oper.mk _ (Op.store 73 _ _) _ _ _ _ :: _) _ _); refine wpList_store_row rfl 73 _ _ rfl w2.heap.size Try.zeroCells73 rfl rfl 73 Try.zeroCells73.toList.toArray (row_heap q0) info73_z rfl z73_all ?_; replace b0 := below_row (g := w2.heap.size) b0 hbz Try.zeroCells73; generalize World.setRow (w2.alloc _) _ _ = W at *))
  go_ret2
  exact ⟨rfl, b0⟩
theorem Without_out (A : Option Addr) (c : Nat) (L : List (List Int)) (r k : Int) (w : World) (h : IsT L) (hk : r < 0 ∨ L.length ≤ r ∨ k < 0 ∨ L.length ≤ k) (ha : RowsAt w A L) :
    Calls Try.prog 26 #[.slice A L.length c, .int .i64 r, .int .i64 k] w fun e w' => e = .returned (.tuple #[.slice none 0 0, .int .i64 2]) ∧ Below w.heap.size w w' := by
  have HR := Lib.hid (readTable_yes A c L w h ha)
  have HC0 : Hid (∀ (W : World) (g : Nat), Row W g 73 (iv (grd L)) → W.cell? ⟨g, 0, none⟩ = some (.int .i64 (L.length : Int))) := Lib.hid (fun W g h => ivR h (i := 0) (by unfold grd; rw [grdP_len]; omega))
  have hi := info73_iv (x := grd L) (grdP_len _ 100)
  have hsz : Try.zeroCells73.toList.toArray.size = (iv (grd L)).toArray.size := by rw [z73]; exact size73_iv (by simp) (grdP_len L 100)
  clear h ha
  go_enter Try.func26, Try.ntmps26
  go_wp2_with (first
    | (go_at_call 48; refine HR.out.mono ?_; rintro e w2 ⟨rfl, b2⟩; have q0 : Row (w2.alloc (.cells Try.zeroCells73 73)) w2.heap.size 73 Try.zeroCells73.toList := row_new (by simp); have b0 := b2.alloc b2.size (.cells Try.zeroCells73 73); have hbz := b2.size)
    | (with_reducible refine (?_ : wpList _ _ _ (Oper.mk _ (Op.store 73 _ _) _ _ _ _ :: _) _ _); refine wpList_store_row rfl 73 _ _ rfl w2.heap.size (iv (grd L)).toArray rfl rfl 73 Try.zeroCells73.toList.toArray (row_heap q0) hi hsz (iv_all _) ?_; replace q0 := q0.row (iv (grd L)); replace b0 := below_row (g := w2.heap.size) b0 hbz (iv (grd L)).toArray; generalize World.setRow (w2.alloc _) _ _ = W at *; have c0 := HC0.out W _ q0)
    | fail)
  all_goals first
    | (exfalso; omega)
    | (go_ret2; exact ⟨rfl, b0⟩)
theorem Without_yes (A : Option Addr) (c : Nat) (L : List (List Int)) (r k : Nat) (w : World) (h : IsT L) (hr : r < L.length) (hk : k < L.length) (ha : RowsAt w A L) :
    Calls Try.prog 26 #[.slice A L.length c, .int .i64 r, .int .i64 k] w fun e w' => ∃ A' c' cs, e = .returned (.tuple #[.slice A' (wo L r k).length c', .int .i64 0]) ∧ w'.ownsRow w.heap.size 27 1 (.slice A' (wo L r k).length c') (wo L r k).length cs ∧ RowsOwn w' w.heap.size cs (wo L r k) ∧ Below w.heap.size w w' := by
  have HR := Lib.hid (readTable_yes A c L w h ha)
  have HP := Lib.hid (fun w => without53_any L r k w h hr hk)
  have g1 : decide ((r : Int) < 0) = false := decide_eq_false (by omega)
  have g2 : decide ((L.length : Int) ≤ (r : Int)) = false := decide_eq_false (by omega)
  have g3 : decide ((k : Int) < 0) = false := decide_eq_false (by omega)
  have g4 : decide ((L.length : Int) ≤ (k : Int)) = false := decide_eq_false (by omega)
  have HC0 : Hid (∀ (W : World) (g : Nat), Row W g 73 (iv (grd L)) → W.cell? ⟨g, 0, none⟩ = some (.int .i64 (L.length : Int))) := Lib.hid (fun W g h => ivR h (i := 0) (by unfold grd; rw [grdP_len]; omega))
  have hi := info73_iv (x := grd L) (grdP_len _ 100)
  have hsz : Try.zeroCells73.toList.toArray.size = (iv (grd L)).toArray.size := by rw [z73]; exact size73_iv (by simp) (grdP_len L 100)
  clear h ha
  generalize wo L r k = T at *
  go_enter Try.func26, Try.ntmps26
  go_wp2_with (first
    | (go_at_call 48; refine HR.out.mono ?_; rintro e w2 ⟨rfl, b2⟩; have q0 : Row (w2.alloc (.cells Try.zeroCells73 73)) w2.heap.size 73 Try.zeroCells73.toList := row_new (by simp); have b0 := b2.alloc b2.size (.cells Try.zeroCells73 73); have hbz := b2.size)
    | (with_reducible refine (?_ : wpList _ _ _ (Oper.mk _ (Op.store 73 _ _) _ _ _ _ :: _) _ _); refine wpList_store_row rfl 73 _ _ rfl w2.heap.size (iv (grd L)).toArray rfl rfl 73 Try.zeroCells73.toList.toArray (row_heap q0) hi hsz (iv_all _) ?_; replace q0 := q0.row (iv (grd L)); replace b0 := below_row (g := w2.heap.size) b0 hbz (iv (grd L)).toArray; generalize World.setRow (w2.alloc _) _ _ = W at *; have c0 := HC0.out W _ q0)
    | (with_reducible refine (?_ : wpList _ _ _ (Oper.mk _ (Op.load 73 _) _ _ _ _ :: _) _ _); refine wpList_load_row rfl 73 _ rfl w2.heap.size rfl 73 (iv (grd L)).toArray (0, 0) _ (row_heap q0) Try.underlying73 rfl hi ?_)
    | (go_at_call 53; fail))
  refine (HP.out _).mono ?_
  rintro e w4 ⟨A4, c4, cs, rfl, o4, R4, b4⟩
  have o5 := own_mono o4 b0.size
  have R5 : RowsOwn w4 w.heap.size cs T := R4.mono b0.size
  replace b0 := b0.trans (b4.mono b0.size)
  clear o4
  go_wp2
  go_ret2
  exact ⟨_, _, _, rfl, o5, R5, b0⟩
end Go.Proofs.Ytnnaaoobdofooaa
