/- CheckSplit. -/
import Derived.Test.YtnnaaoobdofooaaVD
import Derived.Test.YtnnaaoobdofooaaRJ
namespace Go.Proofs.Ytnnaaoobdofooaa
open Go.RowKit
set_option maxHeartbeats 1000000
set_option maxRecDepth 100000
theorem CheckSplit_no (A B : Option Addr) (c d : Nat) (T : List (List Int)) (ls : List Lay) (w : World) (hv : okT T = false) (ha : RowsAt w A T) :
    Calls Try.prog 40 #[.slice A T.length c, .slice B ls.length d] w fun e w' => e = .returned (.int .i64 2) ∧ Below w.heap.size w w' := by
  have HR := Lib.hid (readTable_no A c T w hv ha)
  clear hv ha
  go_enter Try.func40, Try.ntmps40
  go_wp2_with (first
    | (go_at_call 48; refine HR.out.mono ?_; rintro e w2 ⟨rfl, b2⟩; have q0 : Row (w2.alloc (.cells Try.zeroCells73 73)) w2.heap.size 73 Try.zeroCells73.toList := row_new (by simp); have b0 := b2.alloc b2.size (.cells Try.zeroCells73 73); have hbz := b2.size)
    | (with_reducible refine (?_ : wpList _ _ _ (Oper.mk _ (Op.store 73 (.tmp 5) _) _ _ _ _ :: _) _ _); refine wpList_store_row rfl 73 (.tmp 5) (.tmp 12) rfl w2.heap.size Try.zeroCells73 rfl rfl 73 Try.zeroCells73.toList.toArray (row_heap q0) info73_z rfl z73_all ?_; replace b0 := below_row (g := w2.heap.size) b0 hbz Try.zeroCells73; generalize World.setRow (w2.alloc _) _ _ = W at *))
  go_ret
  exact ⟨rfl, b0⟩
def csN (T : List (List Int)) (ls : List Lay) : Int := if isLev T = true then (if splA T ls = true then 0 else 10) else 2
theorem CheckSplit_yes (A B : Option Addr) (c d : Nat) (T : List (List Int)) (ls : List Lay) (w : World) (h : IsT T) (hls : ls.length ≤ 1000000) (ha : RowsAt w A T) (hb : LaysAt w B ls) :
    Calls Try.prog 40 #[.slice A T.length c, .slice B ls.length d] w fun e w' => e = .returned (.int .i64 (csN T ls)) ∧ Below w.heap.size w w' := by
  have HR := Lib.hid (readTable_yes A c T w h ha)
  have HV := Lib.hid (fun w => level_any T w h)
  have HS := Lib.hid (fun (V : World) hV => isSplit_any T B d ls V h hls (hb.below hV))
  have hi := info73_iv (x := grd T) (grdP_len _ 100)
  have hsz : Try.zeroCells73.toList.toArray.size = (iv (grd T)).toArray.size := by rw [z73]; exact size73_iv (by simp) (grdP_len T 100)
  have HF1 : Hid (isLev T = false → csN T ls = 2) := Lib.hid (fun e => by unfold csN; rw [e]; rfl)
  have HF2 : Hid (isLev T = true → splA T ls = false → csN T ls = 10) := Lib.hid (fun e e2 => by unfold csN; rw [e, e2]; rfl)
  have HF3 : Hid (isLev T = true → splA T ls = true → csN T ls = 0) := Lib.hid (fun e e2 => by unfold csN; rw [e, e2]; rfl)
  clear h ha hb
  generalize csN T ls = N at *
  generalize splA T ls = sb at *
  generalize isLev T = lb at *
  go_enter Try.func40, Try.ntmps40
  go_wp2_with (first
    | (go_at_call 48; refine HR.out.mono ?_; rintro e w2 ⟨rfl, b2⟩; have q0 : Row (w2.alloc (.cells Try.zeroCells73 73)) w2.heap.size 73 Try.zeroCells73.toList := row_new (by simp); have b0 := b2.alloc b2.size (.cells Try.zeroCells73 73); have hbz := b2.size)
    | (with_reducible refine (?_ : wpList _ _ _ (Oper.mk _ (Op.store 73 (.tmp 5) _) _ _ _ _ :: _) _ _); refine wpList_store_row rfl 73 (.tmp 5) (.tmp 12) rfl w2.heap.size (iv (grd T)).toArray rfl rfl 73 Try.zeroCells73.toList.toArray (row_heap q0) hi hsz (iv_all _) ?_; replace q0 := q0.row (iv (grd T)); replace b0 := below_row (g := w2.heap.size) b0 hbz (iv (grd T)).toArray; generalize World.setRow (w2.alloc _) _ _ = W at *)
    | (with_reducible refine (?_ : wpList _ _ _ (Oper.mk _ (Op.load 73 _) _ _ _ _ :: _) _ _); refine wpList_load_row rfl 73 (.tmp 5) rfl w2.heap.size rfl 73 (iv (grd T)).toArray (0, 0) _ (row_heap q0) Try.underlying73 rfl hi ?_)
    | (go_at_call 54; fail))
  refine (HV.out _).mono ?_
  rintro e w4 ⟨rfl, b4⟩
  replace q0 := q0.below b4
  replace b0 := b0.trans (b4.mono b0.size)
  clear b4 HV HR
  cases lb
  · have HF := Lib.hid (HF1.out (by trivial))
    go_wp2
    go_ret
    exact ⟨by rw [HF.out]; rfl, b0⟩
  · go_wp2_with (first
      | (with_reducible refine (?_ : wpList _ _ _ (Oper.mk _ (Op.load 73 _) _ _ _ _ :: _) _ _); refine wpList_load_row rfl 73 (.tmp 5) rfl w2.heap.size rfl 73 (iv (grd T)).toArray (0, 0) _ (row_heap q0) Try.underlying73 rfl hi ?_)
      | (go_at_call 64; fail))
    refine (HS.out _ b0).mono ?_
    rintro e w5 ⟨rfl, b5⟩
    replace b0 := b0.trans (b5.mono b0.size)
    clear b5 HS q0
    cases sb
    · have HF := Lib.hid (HF2.out (by trivial) (by trivial))
      go_wp2
      go_ret
      exact ⟨by rw [HF.out]; rfl, b0⟩
    · have HF := Lib.hid (HF3.out (by trivial) (by trivial))
      go_wp2
      go_ret
      exact ⟨by rw [HF.out]; rfl, b0⟩
end Go.Proofs.Ytnnaaoobdofooaa
