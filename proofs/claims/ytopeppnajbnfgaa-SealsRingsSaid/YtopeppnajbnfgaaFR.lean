/- Least, Fair, Ring. -/
import Derived.Test.YtopeppnajbnfgaaFQ
namespace Go.Proofs.Ytopeppnajbnfgaa
open Go.RowKit
set_option maxHeartbeats 1000000
set_option maxRecDepth 100000
/-- The first list of cuts, or nil, and OK. -/
def CutRes (s : ByteArray) (f step : Nat) (w : World) (e : Ending) (w' : World) : Prop :=
  ∃ v, e = .returned (.tuple #[v, .int .i64 0]) ∧ Below w.heap.size w w' ∧ ((∃ x, fewV s f step = some x ∧ w'.ownsRow w.heap.size 3 1 v x.length (iv x)) ∨ (fewV s f step = none ∧ v = .slice none 0 0))
theorem Least_bad (s : ByteArray) (w : World) (h : (chV s && evV s) = false) : Calls Try.prog 16 #[.string s] w fun e w' => e = .returned (.tuple #[.slice none 0 0, .int .i64 2]) ∧ Below w.heap.size w w' := by
  have z4 := z54
  have HR := Lib.hid (fun w => readEven_any s w)
  obtain ⟨T, hT, hre⟩ := reV_false h
  have hi := info54_iv hT
  go_enter Try.func16, Try.ntmps16
  go_wp2_with (first
    | (go_at_call 42; with_reducible refine (HR.out _).mono ?_; rintro e w1 ⟨rfl, b1⟩; rw [hre]; have q1 : Row (w1.alloc (.cells (iv Z101).toArray 54)) w1.heap.size 54 (iv Z101) := row_new rfl)
    | ((with_reducible refine (?_ : wpList _ _ _ (Oper.mk none _ _ _ _ _ :: _) _ _)); refine wpList_store_row rfl 54 (.tmp 4) (.tmp 9) rfl w1.heap.size (iv T).toArray rfl rfl 54 (iv Z101).toArray (row_heap q1) hi (size54_iv Z101_len hT) (iv_all _) ?_))
  exact bodyPost_ret (v := .tuple #[.slice none 0 0, .int .i64 2]) (by simp [results, Try.results16]) rfl ⟨rfl, below_row (b1.alloc b1.size _) b1.size _⟩
theorem Least_any (s : ByteArray) (w : World) (h : (chV s && evV s) = true) : Calls Try.prog 16 #[.string s] w (CutRes s 1 1 w) := by
  have z4 := z54
  have HR := Lib.hid (fun w => readEven_any s w)
  have hre := reV_true h
  have hs : s.size ≤ 24 := chV_size (by simpa using (Bool.and_eq_true _ _ ▸ h).1)
  have hT : (tal s).length = 101 := talL_len _ _
  have hi := info54_iv hT
  have HF : Hid (∀ w, Calls Try.prog 43 #[.agg (iv (tal s)).toArray, .int .i64 1, .int .i64 1] w (FewRes s 1 1 w)) := Lib.hid (fun w => fewest_any s 1 1 w hs (by omega) (by omega) (by omega))
  go_enter Try.func16, Try.ntmps16
  go_wp2_with (first
    | (go_at_call 42; with_reducible refine (HR.out _).mono ?_; rintro e w1 ⟨rfl, b1⟩; rw [hre]; have q1 : Row (w1.alloc (.cells (iv Z101).toArray 54)) w1.heap.size 54 (iv Z101) := row_new rfl)
    | ((with_reducible refine (?_ : wpList _ _ _ (Oper.mk none _ _ _ _ _ :: _) _ _)); refine wpList_store_row rfl 54 (.tmp 4) (.tmp 9) rfl w1.heap.size (iv (tal s)).toArray rfl rfl 54 (iv Z101).toArray (row_heap q1) hi (size54_iv Z101_len hT) (iv_all _) ?_; have q2 := q1.row (iv (tal s)); have b2 := below_row (b1.alloc b1.size (.cells (iv Z101).toArray 54)) b1.size (iv (tal s)).toArray; generalize w1.heap.size = g1 at *; generalize World.setRow _ _ _ = W2 at *; clear q1)
    | ((with_reducible refine (?_ : wpList _ _ _ (Oper.mk (some 13) _ _ _ _ _ :: _) _ _)); refine wpList_load_row rfl 54 (.tmp 4) rfl g1 rfl 54 (iv (tal s)).toArray (0, 0) _ (row_heap q2) Try.underlying54 rfl hi ?_))
  refine (HF.out _).mono ?_
  rintro e w4 ⟨v, rfl, b4, hv⟩
  go_wp2
  refine bodyPost_ret (v := .tuple #[v, .int .i64 0]) (by simp [results, Try.results16]) rfl ⟨v, rfl, b2.trans (b4.mono b2.size), ?_⟩
  rcases hv with ⟨x, h1, h2⟩ | h
  · exact .inl ⟨x, h1, own_mono h2 b2.size⟩
  · exact .inr h
theorem Ring_bad (s : ByteArray) (w : World) (h : (chV s && evV s) = false) : Calls Try.prog 33 #[.string s] w fun e w' => e = .returned (.tuple #[.slice none 0 0, .int .i64 2]) ∧ Below w.heap.size w w' := by
  have z4 := z54
  have HR := Lib.hid (fun w => readEven_any s w)
  obtain ⟨T, hT, hre⟩ := reV_false h
  have hi := info54_iv hT
  go_enter Try.func33, Try.ntmps33
  go_wp2_with (first
    | (go_at_call 42; with_reducible refine (HR.out _).mono ?_; rintro e w1 ⟨rfl, b1⟩; rw [hre]; have q1 : Row (w1.alloc (.cells (iv Z101).toArray 54)) w1.heap.size 54 (iv Z101) := row_new rfl)
    | ((with_reducible refine (?_ : wpList _ _ _ (Oper.mk none _ _ _ _ _ :: _) _ _)); refine wpList_store_row rfl 54 (.tmp 4) (.tmp 9) rfl w1.heap.size (iv T).toArray rfl rfl 54 (iv Z101).toArray (row_heap q1) hi (size54_iv Z101_len hT) (iv_all _) ?_))
  exact bodyPost_ret (v := .tuple #[.slice none 0 0, .int .i64 2]) (by simp [results, Try.results33]) rfl ⟨rfl, below_row (b1.alloc b1.size _) b1.size _⟩
theorem Ring_any (s : ByteArray) (w : World) (h : (chV s && evV s) = true) : Calls Try.prog 33 #[.string s] w (CutRes s 0 2 w) := by
  have z4 := z54
  have HR := Lib.hid (fun w => readEven_any s w)
  have hre := reV_true h
  have hs : s.size ≤ 24 := chV_size (by simpa using (Bool.and_eq_true _ _ ▸ h).1)
  have hT : (tal s).length = 101 := talL_len _ _
  have hi := info54_iv hT
  have HF : Hid (∀ w, Calls Try.prog 43 #[.agg (iv (tal s)).toArray, .int .i64 0, .int .i64 2] w (FewRes s 0 2 w)) := Lib.hid (fun w => fewest_any s 0 2 w hs (by omega) (by omega) (by omega))
  go_enter Try.func33, Try.ntmps33
  go_wp2_with (first
    | (go_at_call 42; with_reducible refine (HR.out _).mono ?_; rintro e w1 ⟨rfl, b1⟩; rw [hre]; have q1 : Row (w1.alloc (.cells (iv Z101).toArray 54)) w1.heap.size 54 (iv Z101) := row_new rfl)
    | ((with_reducible refine (?_ : wpList _ _ _ (Oper.mk none _ _ _ _ _ :: _) _ _)); refine wpList_store_row rfl 54 (.tmp 4) (.tmp 9) rfl w1.heap.size (iv (tal s)).toArray rfl rfl 54 (iv Z101).toArray (row_heap q1) hi (size54_iv Z101_len hT) (iv_all _) ?_; have q2 := q1.row (iv (tal s)); have b2 := below_row (b1.alloc b1.size (.cells (iv Z101).toArray 54)) b1.size (iv (tal s)).toArray; generalize w1.heap.size = g1 at *; generalize World.setRow _ _ _ = W2 at *; clear q1)
    | ((with_reducible refine (?_ : wpList _ _ _ (Oper.mk (some 13) _ _ _ _ _ :: _) _ _)); refine wpList_load_row rfl 54 (.tmp 4) rfl g1 rfl 54 (iv (tal s)).toArray (0, 0) _ (row_heap q2) Try.underlying54 rfl hi ?_))
  refine (HF.out _).mono ?_
  rintro e w4 ⟨v, rfl, b4, hv⟩
  go_wp2
  refine bodyPost_ret (v := .tuple #[v, .int .i64 0]) (by simp [results, Try.results33]) rfl ⟨v, rfl, b2.trans (b4.mono b2.size), ?_⟩
  rcases hv with ⟨x, h1, h2⟩ | h
  · exact .inl ⟨x, h1, own_mono h2 b2.size⟩
  · exact .inr h
theorem Fair_bad (s : ByteArray) (w : World) (h : (chV s && evV s) = false) : Calls Try.prog 15 #[.string s] w fun e w' => e = .returned (.tuple #[.slice none 0 0, .int .i64 2]) ∧ Below w.heap.size w w' := by
  have HL := Lib.hid (fun w => Least_bad s w h)
  go_enter Try.func15, Try.ntmps15
  go_wp2_with (go_at_call 16; with_reducible refine (HL.out _).mono ?_; rintro e w1 ⟨rfl, b1⟩)
  exact bodyPost_ret (v := .tuple #[.slice none 0 0, .int .i64 2]) (by simp [results, Try.results15]) rfl ⟨rfl, b1⟩
theorem Fair_any (s : ByteArray) (w : World) (h : (chV s && evV s) = true) : Calls Try.prog 15 #[.string s] w (CutRes s 1 1 w) := by
  have HL := Lib.hid (fun w => Least_any s w h)
  go_enter Try.func15, Try.ntmps15
  go_wp2_with (go_at_call 16; fail)
  refine (HL.out _).mono ?_
  rintro e w1 ⟨v, rfl, b1, hv⟩
  go_wp2
  exact bodyPost_ret (v := .tuple #[v, .int .i64 0]) (by simp [results, Try.results15]) rfl ⟨v, rfl, b1, hv⟩
end Go.Proofs.Ytopeppnajbnfgaa
