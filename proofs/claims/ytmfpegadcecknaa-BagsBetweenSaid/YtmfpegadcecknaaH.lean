/- The loneliest vertex of a set. -/
import Derived.Test.YtmfpegadcecknaaD
namespace Go.Proofs.Ytmfpegadcecknaa
open Go.RowKit Go.Shelf
attribute [local go_sem] Oper.semAt_some
set_option maxHeartbeats 1000000
def nb (gs : List Nat) (s v : Nat) : Nat := pc 16 (sAnd (near gs v) s)
def loneS (gs : List Nat) (s : Nat) (p : Nat × Nat) (v : Nat) : Nat × Nat := if nb gs s v < p.2 then (v, nb gs s v) else p
def lone (gs : List Nat) (s : Nat) (xs : List Nat) : Nat × Nat := xs.foldl (loneS gs s) (0, 16)
theorem lone_snoc (gs : List Nat) (s : Nat) (xs : List Nat) (v : Nat) : lone gs s (xs ++ [v]) = loneS gs s (lone gs s xs) v := by simp [lone]
def loneB (gs : List Nat) (s : Nat) (xs : List Nat) : Nat := (lone gs s xs).1
def loneF (gs : List Nat) (s : Nat) (xs : List Nat) : Nat := (lone gs s xs).2
theorem lone_yes {gs : List Nat} {s : Nat} {xs : List Nat} {v : Nat} (h : nb gs s v < loneF gs s xs) : loneB gs s (xs ++ [v]) = v ∧ loneF gs s (xs ++ [v]) = nb gs s v := by
  unfold loneB loneF at *; rw [lone_snoc]; unfold loneS; rw [if_pos h]; exact ⟨rfl, rfl⟩
theorem lone_no {gs : List Nat} {s : Nat} {xs : List Nat} {v : Nat} (h : ¬ nb gs s v < loneF gs s xs) : loneB gs s (xs ++ [v]) = loneB gs s xs ∧ loneF gs s (xs ++ [v]) = loneF gs s xs := by
  unfold loneB loneF at *; rw [lone_snoc]; unfold loneS; rw [if_neg h]; exact ⟨rfl, rfl⟩
theorem loneliest_any (m s : Nat) (gs : List Nat) (hg : Rows16 gs) (hs : s < 65536) (w : World) :
    Calls Try.prog 66 #[.agg (gcells m gs).toArray, .int .u32 s] w fun e w' => e = .returned (.tuple #[.int .i64 (loneB gs s (ms s)), .int .i64 (loneF gs s (ms s))]) ∧ Below w.heap.size w w' := by
  have hl : (gcells m gs).length = 17 := by rw [gcells_len, hg.len]
  refine callsIn_wide.1 (?_ : CallsIn Fence.wide 9 _ _ _ _ _)
  generalize hFw : Fence.wide = F
  have hO : Open F := hFw ▸ Open.wide
  have hro : F.round = none := hFw ▸ rfl
  clear hFw
  have hF := hO.fn
  have hd := hO.depth
  have F66 := hF 66
  refine callsIn_of_wp_marks Try.func66 rfl F66 ?_ hro
  simp only [Try.ntmps66, List.size_toArray, List.length_cons, List.length_nil, Nat.reduceAdd, Nat.reduceSub, Array.replicate_succ, Array.replicate_zero, List.push_toArray, List.append_toArray, List.nil_append, List.cons_append]
  gi_wp2_with (gi_at_call 61; refine (hO.lift _ (members_any _ _)).mono ?_; rintro e w' ⟨rfl, rfl⟩)
  generalize hw1 : World.alloc _ _ = w1
  have HW := Lib.hid hw1
  clear hw1
  have hb : Below w.heap.size w w1 := by rw [← HW.out]; (repeat (first | exact Below.refl _ _ | assumption | (refine Below.setCell ?_ (by first | exact Nat.le_refl _ | omega | (simp; done) | (simp; omega)) _) | (refine Below.trans ?_ (below_drewN _)) | (refine Below.drew ?_) | (refine Below.alloc ?_ (by first | exact Nat.le_refl _ | omega | (simp; done) | (simp; omega)) _) | (refine below_row ?_ (by first | exact Nat.le_refl _ | omega | (simp; done) | (simp; omega)) _)))
  have hz : w.heap.size + 5 ≤ w1.heap.size := by rw [← HW.out]; simp; try omega
  have r0 : Row w1 (w.heap.size) 75 (gcells m gs) := by rw [← HW.out]; repeat (first | (refine row_new ?_; first | rfl | (simp; done)) | refine Row.alloc ?_ _)
  have r1 : Row w1 (w.heap.size + 1) 72 [.int .u32 s] := by rw [← HW.out]; repeat (first | (refine row_new ?_; first | rfl | (simp; done)) | refine Row.alloc ?_ _)
  have r2 : Row w1 (w.heap.size + 1 + 1) 3 [.int .i64 0] := by rw [← HW.out]; repeat (first | (refine row_new ?_; first | rfl | (simp; done)) | refine Row.alloc ?_ _)
  have r3 : Row w1 (w.heap.size + 1 + 1 + 1) 3 [.int .i64 16] := by rw [← HW.out]; repeat (first | (refine row_new ?_; first | rfl | (simp; done)) | refine Row.alloc ?_ _)
  have r4 : Row w1 (w.heap.size + 1 + 1 + 1 + 1) 72 [.int .u32 s] := by rw [← HW.out]; repeat (first | (refine row_new ?_; first | rfl | (simp; done)) | refine Row.alloc ?_ _)
  clear HW
  refine range_members hO hro (by omega) (w.heap.size + 1 + 1 + 1 + 1) s hs r4 rfl rfl
    (fun pre W => Fr (fun k => k = w.heap.size + 1 + 1 ∨ k = w.heap.size + 1 + 1 + 1) w1 W ∧ Row W (w.heap.size + 1 + 1) 3 [.int .i64 (loneB gs s (vals pre))] ∧ Row W (w.heap.size + 1 + 1 + 1) 3 [.int .i64 (loneF gs s (vals pre))]) (fun _ _ _ => False)
    (OwnFrom.and (ownFrom_fr (Nat.le_refl _)) (OwnFrom.and ownFrom_row ownFrom_row)) (fun _ _ _ _ _ h _ _ => h) ⟨Fr.refl _ _, r2, r3⟩ ?a1 ?assign ?body ?done (fun _ _ _ _ _ h _ => h.elim)
  case assign =>
    intro l x W K hK
    gi_wp2
    exact hK
  case body =>
    rintro l pre x W ⟨hfr, hr, hr3⟩ hlen
    have q0 : Row W w.heap.size 75 (gcells m gs) := r0.fr hfr (by omega)
    have q1 : Row W (w.heap.size + 1) 72 [.int .u32 s] := r1.fr hfr (by omega)
    have q4 : Row W (w.heap.size + 1 + 1 + 1 + 1) 72 [.int .u32 s] := r4.fr hfr (by omega)
    have hxl := x.2.1
    have c0 : W.cell? ⟨w.heap.size, 1 + x.1, none⟩ = some (.int .u32 (near gs x.1)) := by rw [q0.cell, gcells_s _ _ _ (by rw [hg.len]; exact hxl)]; rfl
    have c1 := q1.cells1.1
    obtain ⟨c2, f2⟩ := hr.cells1
    obtain ⟨c3, f3⟩ := hr3.cells1
    have hab := Lib.hid (and_bits (near gs x.1) s (Nat.lt_trans (hg.lt _) (by omega)) (by omega))
    have hsl := sAnd_lt (t := s) (hg.lt x.1)
    have Hs := Lib.hid (vals_snoc pre x)
    generalize hx : x.1 = v at *
    generalize hvp : vals pre = ys at *
    have HC : ∀ w n, Calls Try.prog 60 #[.int .u32 (sAnd (near gs v) s)] (World.drewN w n) fun e w' => e = .returned (.int .i64 (nb gs s v)) ∧ ∃ m, w' = w.drewN m := fun w n => Calls.quiet_of (size_any _ _ hsl)
    have HC' := Lib.hid HC
    clear HC hx hvp
    cases g1 : decide (nb gs s v < loneF gs s ys)
    all_goals
      gi_wp2
      refine wpIn_region_quiet_all (hO.inRound l) (by kernel_rfl) (by kernel_rfl) (by kernel_rfl) ?_
      repeat go_big_quiet_step ((go_at_call 60; (rw [hab.out]; exact HC'.out _ _)))
      refine wpQuiet_nil ?_
      rintro _ ⟨nq, rfl⟩
      gi_wp2
    · obtain ⟨e1, e2⟩ := lone_no (of_decide_eq_false g1)
      refine ⟨keeps_drewN _ _ _, keepB_row q4 (q4.drewN nq), hfr.drewN nq, ?_, ?_⟩
      · rw [Hs.out, e1]; exact hr.drewN nq
      · rw [Hs.out, e2]; exact hr3.drewN nq
    · obtain ⟨e1, e2⟩ := lone_yes (of_decide_eq_true g1)
      refine ⟨((keeps_drewN _ _ _).trans ((KeepsOthers.setCell _ _ _).from _)).trans ((KeepsOthers.setCell _ _ _).from _), ?_, ((hfr.drewN nq).setCell (.inl (.inl rfl)) _).setCell (.inl (.inr rfl)) _, ?_, ?_⟩
      · exact keepB_row q4 (((q4.drewN nq).far (by first | (simp; done) | (simp; omega)) _).far (by first | (simp; done) | (simp; omega)) _)
      · rw [Hs.out, e1]; exact ((hr.drewN nq).set 0 (.int .i64 v)).far (by first | (simp; done) | (simp; omega)) _
      · rw [Hs.out, e2]; exact ((hr3.drewN nq).far (by first | (simp; done) | (simp; omega)) _).set 0 (.int .i64 (nb gs s v))
  case done =>
    rintro D xs W hD hxs ⟨hfr, hr, hr3⟩ hK
    rw [hxs] at hr hr3
    obtain ⟨c2, f2⟩ := hr.cells1
    obtain ⟨c3, f3⟩ := hr3.cells1
    have hB := hfr.under hb (fun i hi => by omega)
    gi_wp2
    refine wpIn_region_quiet_all hO (by kernel_rfl) (by kernel_rfl) (by kernel_rfl) ?_
    repeat go_big_quiet_step ((fail))
    refine wpQuiet_nil ?_
    rintro _ ⟨nq, rfl⟩
    gi_wp2
    refine ret_marks [D] (w := W.drewN nq) (marks_one hK) (v := .tuple #[.int .i64 (loneB gs s (ms s)), .int .i64 (loneF gs s (ms s))]) ?_ ⟨rfl, shut_below (hB.trans (below_drewN nq)) (by simp; omega)⟩
    simp [results, Try.results66, go_sem]
end Go.Proofs.Ytmfpegadcecknaa
