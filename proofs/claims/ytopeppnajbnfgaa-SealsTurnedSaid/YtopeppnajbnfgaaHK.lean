/- Ways of what is no even chain, or of too many cuts. -/
import Derived.Test.YtopeppnajbnfgaaHJ
namespace Go.Proofs.Ytopeppnajbnfgaa
open Go.RowKit Go.Shelf
attribute [local go_sem] Oper.semAt_some
set_option maxHeartbeats 1000000
set_option maxRecDepth 100000
theorem Ways_gen (s : ByteArray) (w : World) (T : List Int) (hT : T.length = 101) (ok : Bool) (many : Int) (hb : ok = false ∨ many < 0 ∨ 4 < many)
    (hR : ∀ w, Calls Try.prog 42 #[.string s] w fun e w' => e = .returned (.tuple #[.agg (iv T).toArray, .bool ok]) ∧ Below w.heap.size w w') :
    Calls Try.prog 29 #[.string s, .int .i64 many] w fun e w' => e = .returned (.tuple #[.int .i64 0, .int .i64 2]) ∧ Below w.heap.size w w' := by
  have z4 := z54
  have HR := Lib.hid hR
  clear hR
  have hi := info54_iv hT
  refine callsIn_wide.1 (?_ : CallsIn Fence.wide 9 _ _ _ _ _)
  have hO : Open Fence.wide := Open.wide
  have hro : Fence.wide.round = none := rfl
  have F29 := hO.fn 29
  have hF := hO.fn
  have hd := hO.depth
  refine callsIn_of_wp_marks Try.func29 rfl F29 ?_ hro
  simp only [Try.ntmps29, List.size_toArray, List.length_cons, List.length_nil, Nat.reduceAdd, Nat.reduceSub, Array.replicate_succ, Array.replicate_zero, List.push_toArray, List.append_toArray, List.nil_append, List.cons_append]
  rcases hb with rfl | hb
  · gi_wp2_with (first
      | (gi_at_call 42; refine (hO.lift _ (HR.out _)).mono ?_; rintro e w1 ⟨rfl, b1⟩; have q1 : Row (w1.alloc (.cells (iv Z101).toArray 54)) w1.heap.size 54 (iv Z101) := row_new rfl)
      | (refine wpListIn_store_row rfl 54 (.tmp 6) (.tmp 13) rfl w1.heap.size (iv T).toArray rfl rfl 54 (iv Z101).toArray (row_heap q1) hi (size54_iv Z101_len hT) (iv_all _) ?_; have b2 := below_row (g := w1.heap.size) (b1.alloc b1.size (.cells (iv Z101).toArray 54)) b1.size (iv T).toArray; clear q1 b1; generalize World.setRow _ _ _ = w2 at *))
    exact ret_marks [] ⟨by simp, fun E hE => by cases hE⟩ (v := .tuple #[.int .i64 0, .int .i64 2]) (by simp [results, Try.results29]) ⟨rfl, b2⟩
  · cases ok
    · gi_wp2_with (first
        | (gi_at_call 42; refine (hO.lift _ (HR.out _)).mono ?_; rintro e w1 ⟨rfl, b1⟩; have q1 : Row (w1.alloc (.cells (iv Z101).toArray 54)) w1.heap.size 54 (iv Z101) := row_new rfl)
        | (refine wpListIn_store_row rfl 54 (.tmp 6) (.tmp 13) rfl w1.heap.size (iv T).toArray rfl rfl 54 (iv Z101).toArray (row_heap q1) hi (size54_iv Z101_len hT) (iv_all _) ?_; have b2 := below_row (g := w1.heap.size) (b1.alloc b1.size (.cells (iv Z101).toArray 54)) b1.size (iv T).toArray; clear q1 b1; generalize World.setRow _ _ _ = w2 at *))
      exact ret_marks [] ⟨by simp, fun E hE => by cases hE⟩ (v := .tuple #[.int .i64 0, .int .i64 2]) (by simp [results, Try.results29]) ⟨rfl, b2⟩
    · rcases hb with hb | hb
      · have g1 : decide (many < 0) = true := decide_eq_true hb
        gi_wp2_with (first
          | (gi_at_call 42; refine (hO.lift _ (HR.out _)).mono ?_; rintro e w1 ⟨rfl, b1⟩; have q1 : Row (w1.alloc (.cells (iv Z101).toArray 54)) w1.heap.size 54 (iv Z101) := row_new rfl)
          | (refine wpListIn_store_row rfl 54 (.tmp 6) (.tmp 13) rfl w1.heap.size (iv T).toArray rfl rfl 54 (iv Z101).toArray (row_heap q1) hi (size54_iv Z101_len hT) (iv_all _) ?_; have b2 := below_row (g := w1.heap.size) (b1.alloc b1.size (.cells (iv Z101).toArray 54)) b1.size (iv T).toArray; clear q1 b1; generalize World.setRow _ _ _ = w2 at *))
        exact ret_marks [] ⟨by simp, fun E hE => by cases hE⟩ (v := .tuple #[.int .i64 0, .int .i64 2]) (by simp [results, Try.results29]) ⟨rfl, b2⟩
      · have g1 : decide (many < 0) = false := decide_eq_false (by omega)
        have g2 : decide (many > 4) = true := decide_eq_true (by omega)
        have g3 : decide (4 < many) = true := decide_eq_true (by omega)
        gi_wp2_with (first
          | (gi_at_call 42; refine (hO.lift _ (HR.out _)).mono ?_; rintro e w1 ⟨rfl, b1⟩; have q1 : Row (w1.alloc (.cells (iv Z101).toArray 54)) w1.heap.size 54 (iv Z101) := row_new rfl)
          | (refine wpListIn_store_row rfl 54 (.tmp 6) (.tmp 13) rfl w1.heap.size (iv T).toArray rfl rfl 54 (iv Z101).toArray (row_heap q1) hi (size54_iv Z101_len hT) (iv_all _) ?_; have b2 := below_row (g := w1.heap.size) (b1.alloc b1.size (.cells (iv Z101).toArray 54)) b1.size (iv T).toArray; clear q1 b1; generalize World.setRow _ _ _ = w2 at *))
        exact ret_marks [] ⟨by simp, fun E hE => by cases hE⟩ (v := .tuple #[.int .i64 0, .int .i64 2]) (by simp [results, Try.results29]) ⟨rfl, b2⟩
theorem Ways_bad (s : ByteArray) (w : World) (many : Int) (hb : (chV s && evV s) = false ∨ many < 0 ∨ 4 < many) : Calls Try.prog 29 #[.string s, .int .i64 many] w fun e w' => e = .returned (.tuple #[.int .i64 0, .int .i64 2]) ∧ Below w.heap.size w w' := by
  cases h : (chV s && evV s)
  · obtain ⟨T, hT, hre⟩ := reV_false h
    exact Ways_gen s w T hT false many (.inl rfl) (fun w => hre ▸ readEven_any s w)
  · refine Ways_gen s w (tal s) (talL_len _ _) true many (hb.imp (fun h2 => by rw [h] at h2; cases h2) id) (fun w => reV_true h ▸ readEven_any s w)
end Go.Proofs.Ytopeppnajbnfgaa
