/- The density of a set of vertices. -/
import Derived.Test.YtmfpegadcecknaaF
namespace Go.Proofs.Ytmfpegadcecknaa
open Go.RowKit Go.Shelf
attribute [local go_sem] Oper.semAt_some
set_option maxHeartbeats 400000
/-- A graph's rows: sixteen sets. -/
structure Rows16 (gs : List Nat) : Prop where
  len : gs.length = 16
  lt : ∀ i : Nat, gs[i]?.getD 0 < 65536
def near (gs : List Nat) (v : Nat) : Nat := gs[v]?.getD 0
def endsOf (gs : List Nat) (s : Nat) (xs : List Nat) : Nat := (xs.map fun v => pc 16 (sAnd (near gs v) s)).sum
theorem endsOf_snoc (gs : List Nat) (s : Nat) (xs : List Nat) (v : Nat) : endsOf gs s (xs ++ [v]) = endsOf gs s xs + pc 16 (sAnd (near gs v) s) := by simp [endsOf]
theorem endsOf_le (gs : List Nat) (s : Nat) (xs : List Nat) : endsOf gs s xs ≤ 16 * xs.length := by
  induction xs with
  | nil => simp [endsOf]
  | cons x xs ih => simp only [endsOf, List.map_cons, List.sum_cons, List.length_cons] at *; have := pc_le 16 (sAnd (near gs x) s); omega
theorem sAnd_lt {s t : Nat} (h : s < 65536) : sAnd s t < 65536 := Nat.lt_of_le_of_lt Nat.and_le_left h
theorem ms_len (s : Nat) : (ms s).length ≤ 16 := by
  unfold ms; have := List.length_filter_le (sHas s) (List.range 16); simpa using this
theorem density_any (m s : Nat) (gs : List Nat) (hg : Rows16 gs) (hs : s < 65536) (hs0 : 0 < pc 16 s) (w : World) :
    Calls Try.prog 47 #[.agg (gcells m gs).toArray, .int .u32 s] w fun e w' => e = .returned (frac (fN (endsOf gs s (ms s) / 2) (pc 16 s)) (fD (endsOf gs s (ms s) / 2) (pc 16 s))) ∧ Below w.heap.size w w' := by
  have hl : (gcells m gs).length = 17 := by rw [gcells_len, hg.len]
  refine callsIn_wide.1 (?_ : CallsIn Fence.wide 9 _ _ _ _ _)
  generalize hFw : Fence.wide = F
  have hO : Open F := hFw ▸ Open.wide
  have hro : F.round = none := hFw ▸ rfl
  clear hFw
  have hF := hO.fn
  have hd := hO.depth
  have F47 := hF 47
  refine callsIn_of_wp_marks Try.func47 rfl F47 ?_ hro
  simp only [Try.ntmps47, List.size_toArray, List.length_cons, List.length_nil, Nat.reduceAdd, Nat.reduceSub, Array.replicate_succ, Array.replicate_zero, List.push_toArray, List.append_toArray, List.nil_append, List.cons_append]
  gi_wp2_with (gi_at_call 61; refine (hO.lift _ (members_any _ _)).mono ?_; rintro e w' ⟨rfl, rfl⟩)
  generalize hw1 : World.alloc _ _ = w1
  have HW := Lib.hid hw1
  clear hw1
  have hb : Below w.heap.size w w1 := by rw [← HW.out]; (repeat (first | exact Below.refl _ _ | assumption | (refine Below.setCell ?_ (by first | exact Nat.le_refl _ | omega | (simp; done) | (simp; omega)) _) | (refine Below.trans ?_ (below_drewN _)) | (refine Below.drew ?_) | (refine Below.alloc ?_ (by first | exact Nat.le_refl _ | omega | (simp; done) | (simp; omega)) _) | (refine below_row ?_ (by first | exact Nat.le_refl _ | omega | (simp; done) | (simp; omega)) _)))
  have hz : w.heap.size + 5 ≤ w1.heap.size := by rw [← HW.out]; simp; try omega
  have r0 : Row w1 (w.heap.size) 75 (gcells m gs) := by rw [← HW.out]; repeat (first | (refine row_new ?_; first | rfl | (simp; done)) | refine Row.alloc ?_ _)
  have r1 : Row w1 (w.heap.size + 1) 72 [.int .u32 s] := by rw [← HW.out]; repeat (first | (refine row_new ?_; first | rfl | (simp; done)) | refine Row.alloc ?_ _)
  have r2 : Row w1 (w.heap.size + 1 + 1) 26 [.int .i64 0, .int .i64 0] := by rw [← HW.out]; repeat (first | (refine row_new ?_; first | rfl | (simp; done)) | refine Row.alloc ?_ _)
  have r3 : Row w1 (w.heap.size + 1 + 1 + 1) 3 [.int .i64 0] := by rw [← HW.out]; repeat (first | (refine row_new ?_; first | rfl | (simp; done)) | refine Row.alloc ?_ _)
  have r4 : Row w1 (w.heap.size + 1 + 1 + 1 + 1) 72 [.int .u32 s] := by rw [← HW.out]; repeat (first | (refine row_new ?_; first | rfl | (simp; done)) | refine Row.alloc ?_ _)
  clear HW
  refine range_members hO hro (by omega) (w.heap.size + 1 + 1 + 1 + 1) s hs r4 rfl rfl
    (fun pre W => Fr (fun k => k = w.heap.size + 1 + 1 + 1) w1 W ∧ Row W (w.heap.size + 1 + 1 + 1) 3 [.int .i64 (endsOf gs s (vals pre))]) (fun _ _ _ => False)
    (OwnFrom.and (ownFrom_fr (Nat.le_refl _)) ownFrom_row) (fun _ _ _ _ _ h _ _ => h) ⟨Fr.refl _ _, r3⟩ ?a1 ?assign ?body ?done (fun _ _ _ _ _ h _ => h.elim)
  case assign =>
    intro l x W K hK
    gi_wp2
    exact hK
  case body =>
    rintro l pre x W ⟨hfr, hr⟩ hlen
    have q0 : Row W w.heap.size 75 (gcells m gs) := r0.fr hfr (by omega)
    have q1 : Row W (w.heap.size + 1) 72 [.int .u32 s] := r1.fr hfr (by omega)
    have q4 : Row W (w.heap.size + 1 + 1 + 1 + 1) 72 [.int .u32 s] := r4.fr hfr (by omega)
    have hxl := x.2.1
    have c0 : W.cell? ⟨w.heap.size, 1 + x.1, none⟩ = some (.int .u32 (near gs x.1)) := by rw [q0.cell, gcells_s _ _ _ (by rw [hg.len]; exact hxl)]; rfl
    have c1 : W.cell? ⟨w.heap.size + 1, 0, none⟩ = some (.int .u32 s) := q1.cell 0
    have c2 : W.cell? ⟨w.heap.size + 1 + 1 + 1, 0, none⟩ = _ := hr.cell 0
    simp only [List.getElem?_cons_zero] at c2
    have f2 := hr.free 0
    have hab := Lib.hid (and_bits (near gs x.1) s (Nat.lt_trans (hg.lt _) (by omega)) (by omega))
    have hsl := sAnd_lt (t := s) (hg.lt x.1)
    have hp := pc_le 16 (sAnd (near gs x.1) s)
    have he := endsOf_le gs s (vals pre)
    rw [vals_len] at he
    have Hs := Lib.hid (endsOf_snoc gs s (vals pre) x.1)
    generalize hx : x.1 = v at *
    have HX := Lib.hid hx
    clear hx q0 q1 r0 r1 r2 r3 r4
    gi_wp2
    refine wpIn_region_quiet_tail (hO.inRound l) 9 (by kernel_rfl) (by kernel_rfl) (by kernel_rfl) ?_
    simp only [List.take_succ_cons, List.take_zero, List.drop_succ_cons, List.drop_zero]
    repeat go_big_quiet_step ((go_at_call 60; (rw [hab.out]; exact Calls.quiet_of (size_any _ _ hsl))))
    refine wpQuiet_nil ?_
    rintro _ ⟨nq, rfl⟩
    gi_wp2
    refine ⟨((keeps_drewN _ _ _).trans ((KeepsOthers.setCell _ _ _).from _)), ?_, (hfr.drewN nq).setCell (.inl rfl) _, ?_⟩
    · exact keepB_row q4 ((q4.drewN nq).far (by simp) _)
    · rw [vals_snoc, HX.out, Hs.out]
      have := (hr.drewN nq).set 0 (.int .i64 (endsOf gs s (vals pre) + pc 16 (sAnd (near gs v) s) : Nat))
      simpa using this
  case done =>
    rintro D xs W hD hxs ⟨hfr, hr⟩ hK
    have q1 : Row W (w.heap.size + 1) 72 [.int .u32 s] := r1.fr hfr (by omega)
    have q2 : Row W (w.heap.size + 1 + 1) 26 [.int .i64 0, .int .i64 0] := r2.fr hfr (by omega)
    have c1 : W.cell? ⟨w.heap.size + 1, 0, none⟩ = some (.int .u32 s) := q1.cell 0
    rw [hxs] at hr
    have c2 : W.cell? ⟨w.heap.size + 1 + 1 + 1, 0, none⟩ = some (.int .i64 (endsOf gs s (ms s))) := hr.cell 0
    have he := endsOf_le gs s (ms s)
    have hm := ms_len s
    have hp := pc_le 16 s
    generalize hE : endsOf gs s (ms s) = E at *
    have HE := Lib.hid hE
    have hB := Lib.hid (hfr.under hb (fun i hi => by omega))
    clear hE hfr q1 r0 r1 r2 r3 r4
    gi_wp2
    refine wpIn_region_quiet_tail hO 4 (by kernel_rfl) (by kernel_rfl) (by kernel_rfl) ?_
    simp only [List.take_succ_cons, List.take_zero, List.drop_succ_cons, List.drop_zero]
    repeat go_big_quiet_step ((go_at_call 60; exact Calls.quiet_of (size_any _ _ hs)))
    refine wpQuiet_nil ?_
    rintro _ ⟨nq, rfl⟩
    have HC : ∀ w, Calls Try.prog 62 #[.int .i64 ((E:Int) / 2), .int .i64 (pc 16 s)] w _ := fun w => reduced_any (E / 2) (pc 16 s) w (by omega) (by omega) hs0
    have HC' := Lib.hid HC
    clear HC
    gi_wp2_with (gi_at_call 62; refine (hO.lift _ (HC'.out _)).mono ?_; rintro e w3 ⟨rfl, hb2⟩; have q3 := (q2.drewN nq).below hb2; obtain ⟨⟨d0, d1⟩, e0, e1⟩ := q3.cells2)
    have q5 := (q3.set 0 (.int .i64 (fN (E / 2) (pc 16 s)))).set 1 (.int .i64 (fD (E / 2) (pc 16 s)))
    have hk3 := keeps_mark (((keeps_drewN w.heap.size W nq).trans (keeps_below _ hb2)).trans (((KeepsOthers.setCell w3 ⟨w.heap.size + 1 + 1, 0, none⟩ (.int .i64 (fN (E / 2) (pc 16 s)))).trans (KeepsOthers.setCell _ ⟨w.heap.size + 1 + 1, 1, none⟩ (.int .i64 (fD (E / 2) (pc 16 s))))).from _)) (by omega) hK
    have hm3 := marks_one hk3
    obtain ⟨⟨g0, g1⟩, _⟩ := (shut_row hm3 q5).cells2
    refine ret_marks [D] hm3 (v := .agg #[.int .i64 (fN (E / 2) (pc 16 s)), .int .i64 (fD (E / 2) (pc 16 s))]) ?_ ⟨by rw [HE.out], shut_below ?_ (by simp; omega)⟩
    · simp [results, Try.results47, go_sem, g0, g1]
    · have hB2 := hB.out
      have := (hB2.trans (below_drewN nq)).trans (hb2.mono hB2.size)
      (repeat (first | exact Below.refl _ _ | assumption | (refine Below.setCell ?_ (by first | exact Nat.le_refl _ | omega | (simp; done) | (simp; omega)) _) | (refine Below.trans ?_ (below_drewN _)) | (refine Below.drew ?_) | (refine Below.alloc ?_ (by first | exact Nat.le_refl _ | omega | (simp; done) | (simp; omega)) _) | (refine below_row ?_ (by first | exact Nat.le_refl _ | omega | (simp; done) | (simp; omega)) _)))
end Go.Proofs.Ytmfpegadcecknaa
