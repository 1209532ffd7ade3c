/- Halves. -/
import Derived.Test.YtopeppnajbnfgaaHB
namespace Go.Proofs.Ytopeppnajbnfgaa
open Go.RowKit
set_option maxHeartbeats 1000000
set_option maxRecDepth 100000
theorem Halves_bad (s : ByteArray) (w : World) (h : chV s = false) : Calls Try.prog 30 #[.string s] w fun e w' => e = .returned (.tuple #[.slice none 0 0, .int .i64 2]) ∧ Below w.heap.size w w' := by
  have z4 := z54
  have HR := Lib.hid (fun w => (rcV_no h ▸ readChain_any s w : Calls Try.prog 47 #[.string s] w fun e w' => e = .returned (.tuple #[.agg (iv Z101).toArray, .bool false]) ∧ Below w.heap.size w w'))
  have hi := info54_iv Z101_len
  go_enter Try.func30, Try.ntmps30
  go_wp2_with (first
    | (go_at_call 47; with_reducible refine (HR.out _).mono ?_; rintro e w1 ⟨rfl, b1⟩; have q1 : Row (w1.alloc (.cells (iv Z101).toArray 54)) w1.heap.size 54 (iv Z101) := row_new rfl)
    | ((with_reducible refine (?_ : wpList _ _ _ (Oper.mk none _ _ _ _ _ :: _) _ _)); refine wpList_store_row rfl 54 (.tmp 4) (.tmp 9) rfl w1.heap.size (iv Z101).toArray rfl rfl 54 (iv Z101).toArray (row_heap q1) hi (size54_iv Z101_len Z101_len) (iv_all _) ?_))
  exact bodyPost_ret (v := .tuple #[.slice none 0 0, .int .i64 2]) (by simp [results, Try.results30]) rfl ⟨rfl, below_row (b1.alloc b1.size _) b1.size _⟩
theorem Halves_any (s : ByteArray) (w : World) (h : chV s = true) : Calls Try.prog 30 #[.string s] w fun e w' => ∃ g, e = .returned (.tuple #[.slice (some ⟨g, 0, none⟩) (s.size + 1) (s.size + 1), .int .i64 0]) ∧ w.heap.size ≤ g ∧ Row w' g 3 (iv (hlvL s (s.size + 1))) ∧ Below w.heap.size w w' := by
  have z4 := z54
  have HR := Lib.hid (fun w => (rcV_yes h ▸ readChain_any s w : Calls Try.prog 47 #[.string s] w fun e w' => e = .returned (.tuple #[.agg (iv (tal s)).toArray, .bool true]) ∧ Below w.heap.size w w'))
  have hT : (tal s).length = 101 := talL_len _ _
  have hi := info54_iv hT
  have HF := Lib.hid (fun w => halves_any s w h)
  go_enter Try.func30, Try.ntmps30
  go_wp2_with (first
    | (go_at_call 47; with_reducible refine (HR.out _).mono ?_; rintro e w1 ⟨rfl, b1⟩; have q1 : Row (w1.alloc (.cells (iv Z101).toArray 54)) w1.heap.size 54 (iv Z101) := row_new rfl)
    | ((with_reducible refine (?_ : wpList _ _ _ (Oper.mk none _ _ _ _ _ :: _) _ _)); refine wpList_store_row rfl 54 (.tmp 4) (.tmp 9) rfl w1.heap.size (iv (tal s)).toArray rfl rfl 54 (iv Z101).toArray (row_heap q1) hi (size54_iv Z101_len hT) (iv_all _) ?_; have q2 := q1.row (iv (tal s)); have b2 := below_row (g := w1.heap.size) (b1.alloc b1.size (.cells (iv Z101).toArray 54)) b1.size (iv (tal s)).toArray; generalize hg1 : w1.heap.size = g1 at *; clear q1 b1; generalize World.setRow _ _ _ = w2 at *)
    | ((with_reducible refine (?_ : wpList _ _ _ (Oper.mk (some 13) _ _ _ _ _ :: _) _ _)); refine wpList_load_row rfl 54 (.tmp 4) rfl g1 rfl 54 (iv (tal s)).toArray (0, 0) _ (row_heap q2) Try.underlying54 rfl hi ?_))
  refine (HF.out _).mono ?_
  rintro e w4 ⟨g, rfl, hg, hr, b4⟩
  go_wp2
  have := b2.size
  exact bodyPost_ret (v := .tuple #[.slice (some ⟨g, 0, none⟩) (s.size + 1) (s.size + 1), .int .i64 0]) (by simp [results, Try.results30]) rfl ⟨g, rfl, by omega, hr, b2.trans (b4.mono b2.size)⟩
end Go.Proofs.Ytopeppnajbnfgaa
