/- How many kinds there are. -/
import Derived.Test.YtopeppnajbnfgaaFU
namespace Go.Proofs.Ytopeppnajbnfgaa
open Go.RowKit
set_option maxHeartbeats 1000000
set_option maxRecDepth 100000
theorem iv_get {xs : List Int} {i : Nat} (h : i < xs.length) : (iv xs)[i]? = some (.int .i64 (geti xs i)) := by
  unfold iv
  rw [List.getElem?_map, List.getElem?_eq_getElem h, geti_eq h]; rfl
def kinN (s : ByteArray) (k : Nat) : Nat := ((List.range k).filter fun c => decide (0 < cnt s s.size c)).length
theorem kinN_succ (s : ByteArray) (k : Nat) : kinN s (k + 1) = kinN s k + if 0 < cnt s s.size k then 1 else 0 := by
  unfold kinN
  rw [List.range_succ, List.filter_append, List.length_append]
  by_cases h : 0 < cnt s s.size k
  · rw [if_pos h, List.filter_cons_of_pos (by exact decide_eq_true h)]; rfl
  · rw [if_neg h, List.filter_cons_of_neg (by rw [decide_eq_false h]; simp)]; rfl
theorem kinN_le (s : ByteArray) (k : Nat) : kinN s k ≤ k := by
  have := List.length_filter_le (fun c => decide (0 < cnt s s.size c)) (List.range k)
  rw [List.length_range] at this
  exact this
theorem Kinds_any (s : ByteArray) (w : World) (hs : s.size ≤ 1000000) (hok : ∀ i, i < s.size → okC s i) : Calls Try.prog 23 #[.string s] w fun e w' => e = .returned (.int .i64 (kinN s 4)) ∧ Below w.heap.size w w' := by
  have z1 := z46
  have HL := Lib.hid (fun w => Letters_any s w hs hok)
  have hi := info46_iv (x := sumL s s.size) rfl
  go_enter Try.func23, Try.ntmps23
  go_wp2_with (first
    | (go_at_call 41; with_reducible refine (HL.out _).mono ?_; rintro e w1 ⟨rfl, b1⟩; have q1 : Row (w1.alloc (.cells Z4.toArray 46)) w1.heap.size 46 Z4 := row_new rfl)
    | ((with_reducible refine (?_ : wpList _ _ _ (Oper.mk none _ _ _ _ _ :: _) _ _)); refine wpList_store_row rfl 46 (.tmp 3) (.tmp 7) rfl w1.heap.size (iv (sumL s s.size)).toArray rfl rfl 46 Z4.toArray (row_heap q1) hi (size51_iv rfl) (iv_all _) ?_; have q2 := q1.row (iv (sumL s s.size)); have b2 := below_row (b1.alloc b1.size (.cells Z4.toArray 46)) b1.size (iv (sumL s s.size)).toArray; generalize w1.heap.size = g1 at *; generalize World.setRow _ _ _ = W2 at *; clear q1))
  have HC := Lib.hid (fun c (hc : c < 4) => sumL_at s s.size hc)
  have HR := Lib.hid (fun c => cnt_rng s c s.size)
  have HK := Lib.hid (kinN_succ s)
  have HM := Lib.hid (kinN_le s)
  have HB := Lib.hid b2
  clear b1 b2
  go_loopw [4, 5] (fun n i wr => ∃ k : Nat, k ≤ 4 ∧ n = .int .i64 (kinN s k) ∧ i = .int .i64 k ∧ wr = W2) (fun _ i _ => 4 - (intOf i).toNat)
  case atStart => exact ⟨0, by omega, rfl, rfl, rfl⟩
  case round =>
    obtain ⟨k, hk, rfl, rfl, rfl⟩ := hrel
    have hm := HM.out k
    by_cases h4 : k < 4
    · have c0 : wr.cell? ⟨g1, k, none⟩ = some (.int .i64 (cnt s s.size k)) := by
        rw [← HC.out k h4, q2.cell, iv_get (show k < (sumL s s.size).length from h4)]
      have hr := HR.out k
      cases g : decide (0 < cnt s s.size k)
      · have HV := Lib.hid (show kinN s (k + 1) = kinN s k by rw [HK.out, if_neg (of_decide_eq_false g)]; rfl)
        go_wp2
        go_roundw
        case rel => exact ⟨k + 1, by omega, by rw [HV.out], by go_num, by first | rfl | trivial⟩
        case measure => simp [intOf]; omega
      · have HV := Lib.hid (show kinN s (k + 1) = kinN s k + 1 by rw [HK.out, if_pos (of_decide_eq_true g)])
        go_wp2
        go_roundw
        case rel => exact ⟨k + 1, by omega, by rw [HV.out]; go_num, by go_num, by first | rfl | trivial⟩
        case measure => simp [intOf]; omega
    · obtain rfl : 4 = k := by omega
      go_wp2
      go_ret
      exact ⟨rfl, HB.out⟩
end Go.Proofs.Ytopeppnajbnfgaa
