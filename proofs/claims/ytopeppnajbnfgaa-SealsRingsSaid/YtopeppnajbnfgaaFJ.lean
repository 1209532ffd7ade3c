/- Check and CheckRing. -/
import Derived.Test.YtopeppnajbnfgaaFI
namespace Go.Proofs.Ytopeppnajbnfgaa
open Go.RowKit
set_option maxHeartbeats 1000000
set_option maxRecDepth 100000
theorem reV_true {s : ByteArray} (h : (chV s && evV s) = true) : reV s = .tuple #[.agg (iv (tal s)).toArray, .bool true] := by
  unfold reV; rw [h, if_pos (by simpa using (Bool.and_eq_true _ _ ▸ h).1)]
theorem reV_false {s : ByteArray} (h : (chV s && evV s) = false) : ∃ T, T.length = 101 ∧ reV s = .tuple #[.agg (iv T).toArray, .bool false] := by
  unfold reV
  rw [h]
  exact ⟨_, by split <;> first | exact talL_len _ _ | exact Z101_len, rfl⟩
theorem chV_size {s : ByteArray} (h : chV s = true) : s.size ≤ 24 := (of_decide_eq_true h).1
theorem cutV_in {first : Int} {n : Nat} {xs : List Int} (_hf : 0 ≤ first) (h : cutV first n xs = true) : ∀ i, i < xs.length → first + i ≤ geti xs i ∧ geti xs i < n := by
  have hh := of_decide_eq_true h
  intro i
  induction i with
  | zero =>
    intro hi
    have := hh 0 hi
    unfold okCut fromC at this
    rw [if_pos rfl] at this
    exact ⟨by omega, this.2⟩
  | succ i ih =>
    intro hi
    have h1 := ih (by omega)
    have := hh (i + 1) hi
    unfold okCut fromC at this
    rw [if_neg (by omega), Nat.add_sub_cancel] at this
    exact ⟨by omega, this.2⟩
theorem cutV_len {first : Int} {n : Nat} {xs : List Int} (hf : 0 ≤ first) (h : cutV first n xs = true) : xs.length ≤ n := by
  rcases Nat.eq_zero_or_pos xs.length with h0 | h0
  · omega
  · have := cutV_in hf h (xs.length - 1) (by omega)
    omega
theorem cutV_inC {first : Int} {s : ByteArray} {xs : List Int} (hf : 0 ≤ first) (h : cutV first s.size xs = true) : InC s xs := fun i hi => by
  have := cutV_in hf h i hi
  omega
def checkV (s : ByteArray) (xs : List Int) : Int := if (chV s && evV s) && cutV 1 s.size xs then (if fairV s xs then 0 else 10) else 2
theorem Check_any (s : ByteArray) (A : Option Addr) (c : Nat) (xs : List Int) (w : World) (hl : xs.length ≤ 1000000) (hc : xs.length ≤ c) (hx : IntsAt w A xs) :
    Calls Try.prog 19 #[.string s, .slice A xs.length c] w fun e w' => e = .returned (.int .i64 (checkV s xs)) ∧ Below w.heap.size w w' := by
  have z4 := z54
  have HR := Lib.hid (fun w => readEven_any s w)
  cases hce : (chV s && evV s)
  · obtain ⟨T, hT, hre⟩ := reV_false hce
    have HCV := Lib.hid (show checkV s xs = 2 by unfold checkV; rw [hce]; rfl)
    have hi := info54_iv hT
    clear hx
    go_enter Try.func19, Try.ntmps19
    go_wp2_with (first
      | (go_at_call 42; with_reducible refine (HR.out _).mono ?_; rintro e w1 ⟨rfl, b1⟩; rw [hre]; have q1 : Row (w1.alloc (.cells (iv Z101).toArray 54)) w1.heap.size 54 (iv Z101) := row_new rfl)
      | ((with_reducible refine (?_ : wpList _ _ _ (Oper.mk none _ _ _ _ _ :: _) _ _)); refine wpList_store_row rfl 54 (.tmp 5) (.tmp 10) rfl w1.heap.size (iv T).toArray rfl rfl 54 (iv Z101).toArray (row_heap q1) hi (size54_iv Z101_len hT) (iv_all _) ?_))
    go_ret
    exact ⟨ret_int HCV.out.symm, below_row (b1.alloc b1.size _) b1.size _⟩
  · have hre := reV_true hce
    have hs : s.size ≤ 24 := chV_size (by simpa using (Bool.and_eq_true _ _ ▸ hce).1)
    have HAC := Lib.hid (fun (w' : World) (h : IntsAt w' A xs) => areCuts_any A c xs 1 s.size w' hl (by omega) (by omega) h)
    have hT : (tal s).length = 101 := talL_len _ _
    have hi := info54_iv hT
    cases hcut : cutV 1 s.size xs
    · have HCV := Lib.hid (show checkV s xs = 2 by unfold checkV; rw [hcut, Bool.and_false]; rfl)
      skip
      go_enter Try.func19, Try.ntmps19
      go_wp2_with (first
        | (go_at_call 42; with_reducible refine (HR.out _).mono ?_; rintro e w1 ⟨rfl, b1⟩; rw [hre]; have q1 : Row (w1.alloc (.cells (iv Z101).toArray 54)) w1.heap.size 54 (iv Z101) := row_new rfl)
        | ((with_reducible refine (?_ : wpList _ _ _ (Oper.mk none _ _ _ _ _ :: _) _ _)); refine wpList_store_row rfl 54 (.tmp 5) (.tmp 10) rfl w1.heap.size (iv (tal s)).toArray rfl rfl 54 (iv Z101).toArray (row_heap q1) hi (size54_iv Z101_len hT) (iv_all _) ?_; have q2 := q1.row (iv (tal s)); have b2 := below_row (b1.alloc b1.size (.cells (iv Z101).toArray 54)) b1.size (iv (tal s)).toArray; have c0 : World.cell? _ ⟨w1.heap.size, 0, none⟩ = some (.int .i64 (s.size : Int)) := ivR q2 (by rw [hT]; omega); generalize w1.heap.size = g1 at *; generalize World.setRow _ _ _ = W2 at *; clear q1)
        | (go_at_call 44; with_reducible refine (HAC.out _ (hx.below b2)).mono ?_; rintro e w3 ⟨rfl, nq, rfl⟩; rw [hcut]))
      go_ret
      exact ⟨ret_int HCV.out.symm, b2.trans (below_drewN nq)⟩
    · have hin := cutV_inC (by omega) hcut
      have hln := cutV_len (by omega) hcut
      have HIF := Lib.hid (fun (w' : World) (h : IntsAt w' A xs) => isFair_any s A c xs w' hs (by omega) hc h hin)
      have HCV := Lib.hid (show checkV s xs = if fairV s xs then 0 else 10 by unfold checkV; rw [hce, hcut]; rfl)
      skip
      cases hfv : fairV s xs
      all_goals
        rw [hfv] at HCV
        go_enter Try.func19, Try.ntmps19
        go_wp2_with (first
        | (go_at_call 42; with_reducible refine (HR.out _).mono ?_; rintro e w1 ⟨rfl, b1⟩; rw [hre]; have q1 : Row (w1.alloc (.cells (iv Z101).toArray 54)) w1.heap.size 54 (iv Z101) := row_new rfl)
        | ((with_reducible refine (?_ : wpList _ _ _ (Oper.mk none _ _ _ _ _ :: _) _ _)); refine wpList_store_row rfl 54 (.tmp 5) (.tmp 10) rfl w1.heap.size (iv (tal s)).toArray rfl rfl 54 (iv Z101).toArray (row_heap q1) hi (size54_iv Z101_len hT) (iv_all _) ?_; have q2 := q1.row (iv (tal s)); have b2 := below_row (b1.alloc b1.size (.cells (iv Z101).toArray 54)) b1.size (iv (tal s)).toArray; have c0 : World.cell? _ ⟨w1.heap.size, 0, none⟩ = some (.int .i64 (s.size : Int)) := ivR q2 (by rw [hT]; omega); generalize w1.heap.size = g1 at *; generalize World.setRow _ _ _ = W2 at *; clear q1)
          | (go_at_call 44; with_reducible refine (HAC.out _ (hx.below b2)).mono ?_; rintro e w3 ⟨rfl, nq, rfl⟩; rw [hcut]; have q3 := q2.drewN nq; have b3 := b2.trans (below_drewN nq))
          | ((with_reducible refine (?_ : wpList _ _ _ (Oper.mk (some 21) _ _ _ _ _ :: _) _ _)); refine wpList_load_row rfl 54 (.tmp 5) rfl g1 rfl 54 (iv (tal s)).toArray (0, 0) _ (row_heap q3) Try.underlying54 rfl hi ?_)
          | (go_at_call 45; with_reducible refine (HIF.out _ (hx.below b3)).mono ?_; rintro e w4 ⟨rfl, b4⟩; rw [hfv]))
        go_ret
        exact ⟨ret_int HCV.out.symm, b3.trans (b4.mono b3.size)⟩
def checkRingV (s : ByteArray) (xs : List Int) : Int := if (chV s && evV s) && (decide (xs.length % 2 = 0) && cutV 0 s.size xs) then (if fairV s xs then 0 else 10) else 2
theorem CheckRing_any (s : ByteArray) (A : Option Addr) (c : Nat) (xs : List Int) (w : World) (hl : xs.length ≤ 1000000) (hc : xs.length ≤ c) (hx : IntsAt w A xs) :
    Calls Try.prog 34 #[.string s, .slice A xs.length c] w fun e w' => e = .returned (.int .i64 (checkRingV s xs)) ∧ Below w.heap.size w w' := by
  have z4 := z54
  have HR := Lib.hid (fun w => readEven_any s w)
  cases hce : (chV s && evV s)
  · obtain ⟨T, hT, hre⟩ := reV_false hce
    have HCV := Lib.hid (show checkRingV s xs = 2 by unfold checkRingV; rw [hce]; rfl)
    have hi := info54_iv hT
    clear hx
    go_enter Try.func34, Try.ntmps34
    go_wp2_with (first
      | (go_at_call 42; with_reducible refine (HR.out _).mono ?_; rintro e w1 ⟨rfl, b1⟩; rw [hre]; have q1 : Row (w1.alloc (.cells (iv Z101).toArray 54)) w1.heap.size 54 (iv Z101) := row_new rfl)
      | ((with_reducible refine (?_ : wpList _ _ _ (Oper.mk none _ _ _ _ _ :: _) _ _)); refine wpList_store_row rfl 54 (.tmp 5) (.tmp 10) rfl w1.heap.size (iv T).toArray rfl rfl 54 (iv Z101).toArray (row_heap q1) hi (size54_iv Z101_len hT) (iv_all _) ?_))
    go_ret
    exact ⟨ret_int HCV.out.symm, below_row (b1.alloc b1.size _) b1.size _⟩
  · have hre := reV_true hce
    have hs : s.size ≤ 24 := chV_size (by simpa using (Bool.and_eq_true _ _ ▸ hce).1)
    have HAC := Lib.hid (fun (w' : World) (h : IntsAt w' A xs) => areCuts_any A c xs 0 s.size w' hl (by omega) (by omega) h)
    have hT : (tal s).length = 101 := talL_len _ _
    have hi := info54_iv hT
    by_cases hpar : xs.length % 2 = 0
    rotate_left
    · have HCV := Lib.hid (show checkRingV s xs = 2 by unfold checkRingV; rw [decide_eq_false hpar, Bool.false_and, Bool.and_false]; rfl)
      have hp : (((xs.length : Int) % 2) != 0) = true := by
        rw [bne_iff_ne]
        have : ((xs.length : Int) % 2) = ((xs.length % 2 : Nat) : Int) := rfl
        omega
      clear hpar
      go_enter Try.func34, Try.ntmps34
      go_wp2_with (first
        | (go_at_call 42; with_reducible refine (HR.out _).mono ?_; rintro e w1 ⟨rfl, b1⟩; rw [hre]; have q1 : Row (w1.alloc (.cells (iv Z101).toArray 54)) w1.heap.size 54 (iv Z101) := row_new rfl)
        | ((with_reducible refine (?_ : wpList _ _ _ (Oper.mk none _ _ _ _ _ :: _) _ _)); refine wpList_store_row rfl 54 (.tmp 5) (.tmp 10) rfl w1.heap.size (iv (tal s)).toArray rfl rfl 54 (iv Z101).toArray (row_heap q1) hi (size54_iv Z101_len hT) (iv_all _) ?_; have q2 := q1.row (iv (tal s)); have b2 := below_row (b1.alloc b1.size (.cells (iv Z101).toArray 54)) b1.size (iv (tal s)).toArray; have c0 : World.cell? _ ⟨w1.heap.size, 0, none⟩ = some (.int .i64 (s.size : Int)) := ivR q2 (by rw [hT]; omega); generalize w1.heap.size = g1 at *; generalize World.setRow _ _ _ = W2 at *; clear q1))
      go_ret
      exact ⟨ret_int HCV.out.symm, b2⟩
    have hp : (((xs.length : Int) % 2) != 0) = false := by
      have : ((xs.length : Int) % 2) = ((xs.length % 2 : Nat) : Int) := rfl
      rw [this, hpar]; rfl
    cases hcut : cutV 0 s.size xs
    · have HCV := Lib.hid (show checkRingV s xs = 2 by unfold checkRingV; rw [decide_eq_true hpar, Bool.true_and, hcut, Bool.and_false]; rfl)
      clear hpar
      go_enter Try.func34, Try.ntmps34
      go_wp2_with (first
        | (go_at_call 42; with_reducible refine (HR.out _).mono ?_; rintro e w1 ⟨rfl, b1⟩; rw [hre]; have q1 : Row (w1.alloc (.cells (iv Z101).toArray 54)) w1.heap.size 54 (iv Z101) := row_new rfl)
        | ((with_reducible refine (?_ : wpList _ _ _ (Oper.mk none _ _ _ _ _ :: _) _ _)); refine wpList_store_row rfl 54 (.tmp 5) (.tmp 10) rfl w1.heap.size (iv (tal s)).toArray rfl rfl 54 (iv Z101).toArray (row_heap q1) hi (size54_iv Z101_len hT) (iv_all _) ?_; have q2 := q1.row (iv (tal s)); have b2 := below_row (b1.alloc b1.size (.cells (iv Z101).toArray 54)) b1.size (iv (tal s)).toArray; have c0 : World.cell? _ ⟨w1.heap.size, 0, none⟩ = some (.int .i64 (s.size : Int)) := ivR q2 (by rw [hT]; omega); generalize w1.heap.size = g1 at *; generalize World.setRow _ _ _ = W2 at *; clear q1)
        | (go_at_call 44; with_reducible refine (HAC.out _ (hx.below b2)).mono ?_; rintro e w3 ⟨rfl, nq, rfl⟩; rw [hcut]))
      go_ret
      exact ⟨ret_int HCV.out.symm, b2.trans (below_drewN nq)⟩
    · have hin := cutV_inC (by omega) hcut
      have hln := cutV_len (by omega) hcut
      have HIF := Lib.hid (fun (w' : World) (h : IntsAt w' A xs) => isFair_any s A c xs w' hs (by omega) hc h hin)
      have HCV := Lib.hid (show checkRingV s xs = if fairV s xs then 0 else 10 by unfold checkRingV; rw [hce, decide_eq_true hpar, hcut]; rfl)
      clear hpar
      cases hfv : fairV s xs
      all_goals
        rw [hfv] at HCV
        go_enter Try.func34, Try.ntmps34
        go_wp2_with (first
        | (go_at_call 42; with_reducible refine (HR.out _).mono ?_; rintro e w1 ⟨rfl, b1⟩; rw [hre]; have q1 : Row (w1.alloc (.cells (iv Z101).toArray 54)) w1.heap.size 54 (iv Z101) := row_new rfl)
        | ((with_reducible refine (?_ : wpList _ _ _ (Oper.mk none _ _ _ _ _ :: _) _ _)); refine wpList_store_row rfl 54 (.tmp 5) (.tmp 10) rfl w1.heap.size (iv (tal s)).toArray rfl rfl 54 (iv Z101).toArray (row_heap q1) hi (size54_iv Z101_len hT) (iv_all _) ?_; have q2 := q1.row (iv (tal s)); have b2 := below_row (b1.alloc b1.size (.cells (iv Z101).toArray 54)) b1.size (iv (tal s)).toArray; have c0 : World.cell? _ ⟨w1.heap.size, 0, none⟩ = some (.int .i64 (s.size : Int)) := ivR q2 (by rw [hT]; omega); generalize w1.heap.size = g1 at *; generalize World.setRow _ _ _ = W2 at *; clear q1)
          | (go_at_call 44; with_reducible refine (HAC.out _ (hx.below b2)).mono ?_; rintro e w3 ⟨rfl, nq, rfl⟩; rw [hcut]; have q3 := q2.drewN nq; have b3 := b2.trans (below_drewN nq))
          | ((with_reducible refine (?_ : wpList _ _ _ (Oper.mk (some 27) _ _ _ _ _ :: _) _ _)); refine wpList_load_row rfl 54 (.tmp 5) rfl g1 rfl 54 (iv (tal s)).toArray (0, 0) _ (row_heap q3) Try.underlying54 rfl hi ?_)
          | (go_at_call 45; with_reducible refine (HIF.out _ (hx.below b3)).mono ?_; rintro e w4 ⟨rfl, b4⟩; rw [hfv]))
        go_ret
        exact ⟨ret_int HCV.out.symm, b3.trans (b4.mono b3.size)⟩
end Go.Proofs.Ytopeppnajbnfgaa
