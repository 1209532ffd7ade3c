/- Count: how many square-free words there are. -/
import Derived.Test.YtoklnpiehbnalaaAR
namespace Go.Proofs.Ytoklnpiehbnalaa
open Go.RowKit Go.Shelf Go.PlainAid
attribute [local go_sem] Oper.semAt_some
set_option maxHeartbeats 2000000
set_option maxRecDepth 100000
theorem wrap_succ (a : Int) : wrap64 (wrap64 a + 1) = wrap64 (a + 1) := by unfold wrap64; omega
theorem wrap_small {n : Nat} (h : n ≤ 100000000) : wrap64 (n : Int) = n := by unfold wrap64; omega
theorem exts_len (k : Nat) : ∀ r x, (exts k r x).length ≤ k ^ r
  | 0, _ => by simp [exts]
  | r + 1, x => by
    show ((grow k x).flatMap (exts k r)).length ≤ _
    rw [List.length_flatMap]
    have h1 : ∀ (L : List (List Nat)), (L.map fun y => (exts k r y).length).sum ≤ L.length * k ^ r := by
      intro L
      induction L with
      | nil => simp
      | cons y L ih =>
        rw [List.map_cons, List.sum_cons, List.length_cons]
        have := exts_len k r y
        rw [Nat.add_mul]; omega
    have h2 : (grow k x).length ≤ k := by
      unfold grow
      have := List.length_filter_le (fun y => !endS y) ((List.range k).map fun c => x ++ [c])
      simpa using this
    have h3 := h1 (grow k x)
    have h4 := Nat.mul_le_mul_right (k ^ r) h2
    rw [Nat.pow_succ, Nat.mul_comm (k ^ r) k]
    omega
/-- How many square-free words of n of the first k letters there are. -/
def cntN (n k : Nat) : Nat := (exts k n []).length
theorem cntN_le {n k : Nat} (hn : n ≤ 16) (hk : k ≤ 3) : cntN n k ≤ 50000000 := by
  have h1 := exts_len k n []
  have h2 : k ^ n ≤ 3 ^ n := Nat.pow_le_pow_left hk n
  have h3 : 3 ^ n ≤ 3 ^ 16 := Nat.pow_le_pow_right (by decide) hn
  have h4 : 3 ^ 16 = 43046721 := by decide
  unfold cntN
  omega
theorem Count_yes (n k : Nat) (w : World) (hn : n ≤ 16) (hk1 : 1 ≤ k) (hk : k ≤ 3) : Calls Try.prog 35 #[.int .i64 n, .int .i64 k] w fun e w' => e = .returned (.tuple #[.int .i64 (cntN n k), .int .i64 0]) ∧ Below w.heap.size w w' := by
  have g1 : decide ((n : Int) < 0) = false := decide_eq_false (by omega)
  have g2 : decide ((16 : Int) < (n : Int)) = false := decide_eq_false (by omega)
  have g3 : decide ((k : Int) < 1) = false := decide_eq_false (by omega)
  have g4 : decide ((3 : Int) < (k : Int)) = false := decide_eq_false (by omega)
  refine callsIn_wide.1 (?_ : CallsIn Fence.wide 9 _ _ _ _ _)
  have hO : Open Fence.wide := Open.wide
  have hro : Fence.wide.round = none := rfl
  have F35 := hO.fn 35
  have hF := hO.fn
  have hd := hO.depth
  refine callsIn_of_wp_marks Try.func35 rfl F35 ?_ hro
  simp only [Try.ntmps35, List.size_toArray, List.length_cons, List.length_nil, Nat.reduceAdd, Nat.reduceSub, Array.replicate_succ, Array.replicate_zero, List.push_toArray, List.append_toArray, List.nil_append, List.cons_append]
  gi_wp2_with (gi_at_call 65; refine (hO.lift _ (squareFree_any _ _ _)).mono ?_; rintro e w' ⟨rfl, rfl⟩)
  have t0 : Row (((w.alloc (.cells #[.int .i64 0] 3)).alloc (.cells #[.int .i64 n] 3)).alloc (.cells #[.int .i64 k] 3)) w.heap.size 3 [.int .i64 0] := ((row_new rfl).alloc _).alloc _
  have t1 : Row (((w.alloc (.cells #[.int .i64 0] 3)).alloc (.cells #[.int .i64 n] 3)).alloc (.cells #[.int .i64 k] 3)) (w.heap.size + 1) 3 [.int .i64 n] := (row_new (by simp)).alloc _
  have t2 : Row (((w.alloc (.cells #[.int .i64 0] 3)).alloc (.cells #[.int .i64 n] 3)).alloc (.cells #[.int .i64 k] 3)) (w.heap.size + 1 + 1) 3 [.int .i64 k] := row_new (by simp)
  have bw : Below w.heap.size w (((w.alloc (.cells #[.int .i64 0] 3)).alloc (.cells #[.int .i64 n] 3)).alloc (.cells #[.int .i64 k] 3)) := (((Below.refl _ w).alloc (Nat.le_refl _) _).alloc (by simp) _).alloc (by simp; omega) _
  generalize World.alloc _ (.cells #[.int .i64 k] 3) = W0 at *
  have hlt0 := t0.lt
  have hlt2 := t2.lt
  refine range_words (by omega) (w.heap.size + 1) n k (by omega) (by omega) t1 t2 24 rfl rfl
    (fun pre V => Fr (fun k => k = w.heap.size) W0 V ∧ Row V w.heap.size 3 [.int .i64 (wrap64 (pre.length : Nat))])
    (fun c pre V => False)
    (fun pre A C row hs hg hr => ⟨abAll_fr (β := Unit) (Nat.le_refl _) () A C row hs.1 hg hr, hs.2.grown hg (fun e => by have := hr _ e.symm; omega)⟩)
    (fun c pre A C row hs => hs.elim) ⟨Fr.refl _ _, by show Row W0 w.heap.size 3 [.int .i64 (wrap64 ((0 : Nat) : Int))]; rw [wrap_small (n := 0) (by omega)]; exact t0⟩ ?a1 ?assign ?body ?done ?stop
  case assign =>
    intro l B x V K hK
    gi_wp2
    exact hK
  case body =>
    rintro l B pre x V hB ⟨hfr, hr1⟩ ⟨hxl, hx⟩
    have HFL := Lib.hid (show (pre ++ [x]).length = pre.length + 1 by simp)
    have hO := hO.inRound l
    generalize hy : wrap64 (pre.length : Nat) = y at *
    have HY := Lib.hid hy
    clear hy
    obtain ⟨cc1, ff1⟩ := hr1.cells1
    gi_wp2
    have hVW := hfr.size
    refine ⟨KeepA.setLow V (by dsimp only; omega) (fun h => by unfold Box2 at h; dsimp only at h; omega) _, hfr.setCell (.inl rfl) _, ?_⟩
    rw [HFL.out]
    have e8 : wrap64 ((pre.length + 1 : Nat) : Int) = wrap64 (y + 1) := by rw [← HY.out, wrap_succ]; congr 1
    rw [e8]
    exact hr1.set 0 (.int .i64 (wrap64 (y + 1)))
  case done =>
    rintro D V hDV ⟨hfr, hr1⟩ hK
    have hwl := cntN_le hn hk
    have HW := Lib.hid (show wrap64 ((exts k n []).length : Nat) = (cntN n k : Int) from wrap_small (by unfold cntN at hwl; omega))
    rw [HW.out] at hr1
    obtain ⟨cc1, ff1⟩ := hr1.cells1
    have mV : Marks [D] V := marks_one hK
    have bV := hfr.under bw (fun i hi => by omega)
    generalize hu : (cntN n k : Int) = u at *
    have HU := Lib.hid hu
    clear hu
    gi_wp2
    refine ret_marks [D] mV (v := .tuple #[.int .i64 u, .int .i64 0]) (by simp [results, Try.results35]) ⟨by rw [HU.out], shut_below bV (fun E hE => ?_)⟩
    have : E = D := by simpa using hE
    have hW0 := bw.size
    omega
  case stop =>
    rintro D c pre V hDV hp hf hK
    exact hf.elim
theorem Count_no (n k : Int) (w : World) (h : n < 0 ∨ 16 < n ∨ k < 1 ∨ 3 < k) : Calls Try.prog 35 #[.int .i64 n, .int .i64 k] w fun e w' => e = .returned (.tuple #[.int .i64 0, .int .i64 2]) ∧ Below w.heap.size w w' := by
  have b0 := Below.refl w.heap.size w
  refine callsIn_wide.1 (?_ : CallsIn Fence.wide 9 _ _ _ _ _)
  have hO : Open Fence.wide := Open.wide
  have hro : Fence.wide.round = none := rfl
  have F35 := hO.fn 35
  have hF := hO.fn
  have hd := hO.depth
  refine callsIn_of_wp_marks Try.func35 rfl F35 ?_ hro
  simp only [Try.ntmps35, List.size_toArray, List.length_cons, List.length_nil, Nat.reduceAdd, Nat.reduceSub, Array.replicate_succ, Array.replicate_zero, List.push_toArray, List.append_toArray, List.nil_append, List.cons_append]
  by_cases h1 : n < 0
  · have g1 : decide (n < 0) = true := decide_eq_true h1
    clear h h1
    gi_wp2
    exact ret_marks [] ⟨by simp, fun D hD => by cases hD⟩ (v := .tuple #[.int .i64 0, .int .i64 2]) (by simp [results, Try.results35]) ⟨rfl, b0⟩
  · have g1 : decide (n < 0) = false := decide_eq_false h1
    by_cases h2 : 16 < n
    · have g2 : decide ((16 : Int) < n) = true := decide_eq_true h2
      clear h h1 h2
      gi_wp2
      exact ret_marks [] ⟨by simp, fun D hD => by cases hD⟩ (v := .tuple #[.int .i64 0, .int .i64 2]) (by simp [results, Try.results35]) ⟨rfl, b0⟩
    · have g2 : decide ((16 : Int) < n) = false := decide_eq_false h2
      by_cases h3 : k < 1
      · have g3 : decide (k < 1) = true := decide_eq_true h3
        clear h h1 h2 h3
        gi_wp2
        exact ret_marks [] ⟨by simp, fun D hD => by cases hD⟩ (v := .tuple #[.int .i64 0, .int .i64 2]) (by simp [results, Try.results35]) ⟨rfl, b0⟩
      · have g3 : decide (k < 1) = false := decide_eq_false h3
        have g4 : decide ((3 : Int) < k) = true := decide_eq_true (by omega)
        clear h h1 h2 h3
        gi_wp2
        exact ret_marks [] ⟨by simp, fun D hD => by cases hD⟩ (v := .tuple #[.int .i64 0, .int .i64 2]) (by simp [results, Try.results35]) ⟨rfl, b0⟩
end Go.Proofs.Ytoklnpiehbnalaa
