/- Ways. -/
import Derived.Test.YtopeppnajbnfgaaHI
namespace Go.Proofs.Ytopeppnajbnfgaa
open Go.RowKit Go.Shelf
attribute [local go_sem] Oper.semAt_some
set_option maxHeartbeats 1000000
set_option maxRecDepth 100000
theorem wrap_succ (a : Int) : wrap64 (wrap64 a + 1) = wrap64 (a + 1) := by unfold wrap64; omega
theorem wrap_small {n : Nat} (h : n ≤ 1000000) : wrap64 (n : Int) = n := by unfold wrap64; omega
theorem Ways_any (s : ByteArray) (w : World) (h : (chV s && evV s) = true) (m : Nat) (hm : m ≤ 4) : Calls Try.prog 29 #[.string s, .int .i64 m] w fun e w' => e = .returned (.tuple #[.int .i64 (wL s m [] 1), .int .i64 0]) ∧ Below w.heap.size w w' := by
  have z4 := z54
  have HR := Lib.hid (fun w => (reV_true h ▸ readEven_any s w : Calls Try.prog 42 #[.string s] w fun e w' => e = .returned (.tuple #[.agg (iv (tal s)).toArray, .bool true]) ∧ Below w.heap.size w w'))
  have hs : s.size ≤ 24 := chV_size (by simpa using (Bool.and_eq_true _ _ ▸ h).1)
  have hT : (tal s).length = 101 := talL_len _ _
  have hi := info54_iv hT
  have g1 : decide ((m : Int) < 0) = false := decide_eq_false (by omega)
  have g2 : decide ((m : Int) > 4) = false := decide_eq_false (by omega)
  refine callsIn_wide.1 (?_ : CallsIn Fence.wide 9 _ _ _ _ _)
  have hO : Open Fence.wide := Open.wide
  have hro : Fence.wide.round = none := rfl
  have F29 := hO.fn 29
  have hF := hO.fn
  have hd := hO.depth
  refine callsIn_of_wp_marks Try.func29 rfl F29 ?_ hro
  simp only [Try.ntmps29, List.size_toArray, List.length_cons, List.length_nil, Nat.reduceAdd, Nat.reduceSub, Array.replicate_succ, Array.replicate_zero, List.push_toArray, List.append_toArray, List.nil_append, List.cons_append]
  gi_wp2_with (first
    | (gi_at_call 42; refine (hO.lift _ (HR.out _)).mono ?_; rintro e w1 ⟨rfl, b1⟩; have q1 : Row (w1.alloc (.cells (iv Z101).toArray 54)) w1.heap.size 54 (iv Z101) := row_new rfl)
    | (refine wpListIn_store_row rfl 54 (.tmp 6) (.tmp 13) rfl w1.heap.size (iv (tal s)).toArray rfl rfl 54 (iv Z101).toArray (row_heap q1) hi (size54_iv Z101_len hT) (iv_all _) ?_; have q2 := q1.row (iv (tal s)); have b2 := below_row (g := w1.heap.size) (b1.alloc b1.size (.cells (iv Z101).toArray 54)) b1.size (iv (tal s)).toArray; have hg1 := b1.size; generalize w1.heap.size = g6 at *; clear q1 b1; generalize World.setRow _ _ _ = w2 at *; have c6 : (w2.alloc (.cells #[.int .i64 0] 3)).cell? ⟨g6, 0, none⟩ = some (.int .i64 (s.size : Int)) := ivR (q2.alloc _) (by rw [hT]; omega))
    | (gi_at_call 49; refine (hO.lift _ (lists_any _ _ _ _)).mono ?_; rintro e w' ⟨rfl, rfl⟩))
  have hl2 := q2.lt
  have bz := b2.size
  have t0 := (((q2.alloc (.cells #[.int .i64 0] 3)).alloc (.cells #[.int .i64 1] 3)).alloc (.cells #[.int .i64 s.size] 3)).alloc (.cells #[.int .i64 m] 3)
  have t1 : Row ((((w2.alloc (.cells #[.int .i64 0] 3)).alloc (.cells #[.int .i64 1] 3)).alloc (.cells #[.int .i64 s.size] 3)).alloc (.cells #[.int .i64 m] 3)) w2.heap.size 3 [.int .i64 0] := (((row_new rfl).alloc _).alloc _).alloc _
  have q0 : Row ((((w2.alloc (.cells #[.int .i64 0] 3)).alloc (.cells #[.int .i64 1] 3)).alloc (.cells #[.int .i64 s.size] 3)).alloc (.cells #[.int .i64 m] 3)) (w2.heap.size + 1) 3 [.int .i64 1] := ((row_new (by simp)).alloc _).alloc _
  have q1 : Row ((((w2.alloc (.cells #[.int .i64 0] 3)).alloc (.cells #[.int .i64 1] 3)).alloc (.cells #[.int .i64 s.size] 3)).alloc (.cells #[.int .i64 m] 3)) (w2.heap.size + 1 + 1) 3 [.int .i64 s.size] := (row_new (by simp)).alloc _
  have q3 : Row ((((w2.alloc (.cells #[.int .i64 0] 3)).alloc (.cells #[.int .i64 1] 3)).alloc (.cells #[.int .i64 s.size] 3)).alloc (.cells #[.int .i64 m] 3)) (w2.heap.size + 1 + 1 + 1) 3 [.int .i64 m] := row_new (by simp)
  have bw : Below w.heap.size w ((((w2.alloc (.cells #[.int .i64 0] 3)).alloc (.cells #[.int .i64 1] 3)).alloc (.cells #[.int .i64 s.size] 3)).alloc (.cells #[.int .i64 m] 3)) := (((b2.alloc bz _).alloc (by simp; omega) _).alloc (by simp; omega) _).alloc (by simp; omega) _
  have hz0 : w2.heap.size + 4 = ((((w2.alloc (.cells #[.int .i64 0] 3)).alloc (.cells #[.int .i64 1] 3)).alloc (.cells #[.int .i64 s.size] 3)).alloc (.cells #[.int .i64 m] 3)).heap.size := by simp
  generalize World.alloc _ (.cells #[.int .i64 m] 3) = W0 at *
  have hlt1 := t1.lt
  refine range_lists (by omega) (w2.heap.size + 1) 1 s.size m (by omega) (by omega) (by omega) q0 q1 q3 rfl
    (fun pre V => Fr (fun k => k = w2.heap.size) W0 V ∧ Row V w2.heap.size 3 [.int .i64 (wrap64 ((pre.filter (fairV s)).length : Nat))])
    (fun c pre V => False)
    (fun pre A C row hs hg hr => ⟨abAll_fr (β := Unit) (Nat.le_refl _) () A C row hs.1 hg hr, hs.2.grown hg (fun e => by have := hr _ e.symm; omega)⟩)
    (fun c pre A C row hs => hs.elim) ⟨Fr.refl _ _, by rw [show wrap64 (((([] : List (List Int)).filter (fairV s)).length : Nat) : Int) = 0 by rw [List.filter_nil]; exact wrap_small (n := 0) (by omega)]; exact t1⟩ ?a1 ?assign ?body ?done ?stop
  case assign =>
    intro l B x V K hK
    gi_wp2
    exact hK
  case body =>
    rintro l B pre x V hB ⟨hfr, hr1⟩ ⟨hxl, hrx, hxin⟩
    have v0 : Row V g6 54 (iv (tal s)) := t0.fr hfr (by omega)
    have hi' : (Try.prog.info? 54).map (·.size) = some (iv (tal s)).length := by rw [iv_len, hT]; exact info54
    have HIF := Lib.hid (isFair_any s (some ⟨B, 0, none⟩) m x V hs (by omega) (by omega) (iv_ints hrx) (inC_of hxin))
    rw [hxl] at HIF
    have HFL := Lib.hid (show ((pre ++ [x]).filter (fairV s)).length = (pre.filter (fairV s)).length + if fairV s x then 1 else 0 by rw [List.filter_append, List.length_append]; cases hh : fairV s x <;> simp [hh])
    have hO := hO.inRound l
    generalize hy : wrap64 ((pre.filter (fairV s)).length : Nat) = y at *
    have HY := Lib.hid hy
    clear hy
    cases hfv : fairV s x
    · rw [hfv] at HIF HFL
      gi_wp2_with (first
        | (refine wpListIn_load_mid rfl 54 (.tmp 6) rfl g6 0 rfl (iv (tal s)) _ v0.range Try.underlying54 rfl hi' ?_)
        | (gi_at_call 45; refine (hO.lift _ HIF.out).mono ?_; rintro e V2 ⟨rfl, b2'⟩))
      exact ⟨KeepA.of_below b2', hfr.then_below b2', by rw [HFL.out]; show Row _ _ _ [.int .i64 (wrap64 (((pre.filter (fairV s)).length + 0 : Nat) : Int))]; rw [Nat.add_zero, HY.out]; exact hr1.below b2'⟩
    · rw [hfv] at HIF HFL
      gi_wp2_with (first
        | (refine wpListIn_load_mid rfl 54 (.tmp 6) rfl g6 0 rfl (iv (tal s)) _ v0.range Try.underlying54 rfl hi' ?_)
        | (gi_at_call 45; refine (hO.lift _ HIF.out).mono ?_; rintro e V2 ⟨rfl, b2'⟩; have hr3 := hr1.below b2'; obtain ⟨cc1, ff1⟩ := hr3.cells1))
      have hVW := hfr.size
      refine ⟨(KeepA.of_below b2').trans (KeepA.setLow V2 (by dsimp only; omega) (fun h => by unfold Box3 at h; dsimp only at h; omega) _), (hfr.then_below b2').setCell (.inl rfl) _, ?_⟩
      rw [HFL.out]
      show Row _ _ _ [.int .i64 (wrap64 (((pre.filter (fairV s)).length + 1 : Nat) : Int))]
      have e8 : wrap64 (((pre.filter (fairV s)).length + 1 : Nat) : Int) = wrap64 (y + 1) := by rw [← HY.out, wrap_succ]; congr 1
      rw [e8]
      exact hr3.set 0 (.int .i64 (wrap64 (y + 1)))
  case done =>
    rintro D V hDV ⟨hfr, hr1⟩ hK
    have hwl := wL_le hs hm [] 1
    have HW := Lib.hid (show wrap64 (((exts s.size m [] 1).filter (fairV s)).length : Nat) = (wL s m [] 1 : Int) from wrap_small (by unfold wL at hwl; omega))
    rw [HW.out] at hr1
    obtain ⟨cc1, ff1⟩ := hr1.cells1
    have mV : Marks [D] V := marks_one hK
    have bV := hfr.under bw (fun i hi => by omega)
    generalize hu : (wL s m [] 1 : Int) = u at *
    have HU := Lib.hid hu
    clear hu
    gi_wp2
    refine ret_marks [D] mV (v := .tuple #[.int .i64 u, .int .i64 0]) (by simp [results, Try.results29]) ⟨by rw [HU.out], shut_below bV (fun E hE => ?_)⟩
    have : E = D := by simpa using hE
    have hW0 := bw.size
    omega
  case stop =>
    rintro D c pre V hDV hp hf hK
    exact hf.elim
end Go.Proofs.Ytopeppnajbnfgaa
