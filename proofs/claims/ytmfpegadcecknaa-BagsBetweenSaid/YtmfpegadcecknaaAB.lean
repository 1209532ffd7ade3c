/- The density of a set, as asked. -/
import Derived.Test.YtmfpegadcecknaaP
import Derived.Test.YtmfpegadcecknaaN
import Derived.Test.YtmfpegadcecknaaAA
namespace Go.Proofs.Ytmfpegadcecknaa
open Go.RowKit
set_option maxHeartbeats 1000000
set_option maxRecDepth 100000
def denV (gs : List Nat) (s : Nat) : Nat × Nat := (fN (endsOf gs s (ms s) / 2) (pc 16 s), fD (endsOf gs s (ms s) / 2) (pc 16 s))
theorem Density_none (n : Int) (A B : Option Addr) (c d : Nat) (es : List (Int × Int)) (xs : List Int) (w : World) (hx : es.length ≤ 1000000) (ha : PairsAt w A es) (h : readF n es = none) :
    Calls Try.prog 25 #[.int .i64 n, .slice A es.length c, .slice B xs.length d] w fun e w' => e = .returned (.tuple #[frac 0 0, .int .i64 2]) ∧ Below w.heap.size w w' := by
  have HC := Lib.hid (rg_none (c := c) hx ((ha.below ((Below.refl _ w).alloc (Nat.le_refl _) (.cells #[.int .i64 0, .int .i64 0] 26)))) h)
  clear h
  go_enter Try.func25, Try.ntmps25
  go_wp2_with (first
    | (go_at_call 41; refine HC.out.mono ?_; rintro e w2 ⟨rfl, hb2⟩; have hs2 := hb2.size; have r0 : Row w2 w.heap.size 26 [.int .i64 0, .int .i64 0] := (Row.new w 26 _).below hb2; obtain ⟨⟨c0, c1⟩, g0, g1⟩ := r0.cells2; have l0 := r0.lt)
    | (refine wpList_store_row rfl 75 (.tmp 8) (.tmp 15) rfl w2.heap.size (gcells 0 Z16).toArray rfl rfl 75 #[.int .i64 0, .int .u32 0, .int .u32 0, .int .u32 0, .int .u32 0, .int .u32 0, .int .u32 0, .int .u32 0, .int .u32 0, .int .u32 0, .int .u32 0, .int .u32 0, .int .u32 0, .int .u32 0, .int .u32 0, .int .u32 0, .int .u32 0] (heap_alloc_new _ _) info75 rfl (gcells_one _ _) ?_; rw [setRow_alloc]))
  have r5 := ((r0.set 0 (.int .i64 0)).set 1 (.int .i64 0)).alloc (.cells (gcells 0 Z16).toArray 75)
  obtain ⟨⟨d0, d1⟩, -⟩ := r5.cells2
  refine bodyPost_ret (v := .tuple #[.agg #[.int .i64 0, .int .i64 0], .int .i64 2]) ?_ rfl ⟨rfl, ?_⟩
  · simp [results, Try.results25, go_sem, d0, d1]
  · have hb := ((Below.refl _ w).alloc (Nat.le_refl _) (.cells #[.int .i64 0, .int .i64 0] 26)).trans (hb2.mono (by simp))
    (repeat (first | exact Below.refl _ _ | assumption | (refine Below.setCell ?_ (by first | exact Nat.le_refl _ | omega | (simp; done) | (simp; omega)) _) | (refine Below.trans ?_ (below_drewN _)) | (refine Below.drew ?_) | (refine Below.alloc ?_ (by first | exact Nat.le_refl _ | omega | (simp; done) | (simp; omega)) _) | (refine below_row ?_ (by first | exact Nat.le_refl _ | omega | (simp; done) | (simp; omega)) _)))
theorem Density_bad (m : Nat) (A B : Option Addr) (c d : Nat) (es : List (Int × Int)) (gs : List Nat) (xs : List Int) (w : World) (hx : es.length ≤ 1000000) (hx2 : xs.length ≤ 1000000) (ha : PairsAt w A es) (hb : IntsAt w B xs) (h : readF m es = some gs) (hV : setV m xs = 0) :
    Calls Try.prog 25 #[.int .i64 m, .slice A es.length c, .slice B xs.length d] w fun e w' => e = .returned (.tuple #[frac 0 0, .int .i64 2]) ∧ Below w.heap.size w w' := by
  obtain ⟨hm1, hm2, hg, hI⟩ := readF_ok h
  have hm2' : m ≤ 16 := by omega
  have hbw := (Below.refl _ w).alloc (Nat.le_refl _) (.cells #[.int .i64 0, .int .i64 0] 26)
  have HC := Lib.hid (rg_some (c := c) hx (ha.below hbw) h)
  have hbi := hb.below hbw
  have HS := Lib.hid (fun w (hi : IntsAt w B xs) => (readSet_any m B d xs w hm2' hx2 hi).mono (R' := fun e w' => e = .returned (.tuple #[.int .u32 0, .bool false]) ∧ ∃ n, w' = w.drewN n) (fun e w' ⟨h1, h2⟩ => ⟨by rw [h1, hV]; rfl, h2⟩))
  clear h hm1 hm2 hb hV
  go_enter Try.func25, Try.ntmps25
  go_wp2_with (first
    | (go_at_call 41; refine HC.out.mono ?_; rintro e w2 ⟨rfl, hb2⟩; have hs2 := hb2.size; have r0 : Row w2 w.heap.size 26 [.int .i64 0, .int .i64 0] := (Row.new w 26 _).below hb2; obtain ⟨⟨c0, c1⟩, g0, g1⟩ := r0.cells2; have l0 := r0.lt; have hi2 := (hbi.below hb2).below ((Below.refl _ w2).alloc (Nat.le_refl _) (.cells (gcells m gs).toArray 75)))
    | (refine wpList_store_row rfl 75 (.tmp 8) (.tmp 15) rfl w2.heap.size (gcells m gs).toArray rfl rfl 75 #[.int .i64 0, .int .u32 0, .int .u32 0, .int .u32 0, .int .u32 0, .int .u32 0, .int .u32 0, .int .u32 0, .int .u32 0, .int .u32 0, .int .u32 0, .int .u32 0, .int .u32 0, .int .u32 0, .int .u32 0, .int .u32 0, .int .u32 0] (heap_alloc_new _ _) (info75g hg) (size75g hg) (gcells_one _ _) ?_; rw [setRow_alloc])
    | (go_at_call 45; refine (HS.out _ hi2).mono ?_; rintro e w3 ⟨rfl, nq, rfl⟩))
  have r5 := (((r0.alloc (.cells (gcells m gs).toArray 75)).drewN nq).set 0 (.int .i64 0)).set 1 (.int .i64 0)
  obtain ⟨⟨d0, d1⟩, -⟩ := r5.cells2
  refine bodyPost_ret (v := .tuple #[.agg #[.int .i64 0, .int .i64 0], .int .i64 2]) ?_ rfl ⟨rfl, ?_⟩
  · simp [results, Try.results25, go_sem, d0, d1]
  · have hb := ((Below.refl _ w).alloc (Nat.le_refl _) (.cells #[.int .i64 0, .int .i64 0] 26)).trans (hb2.mono (by simp))
    (repeat (first | exact Below.refl _ _ | assumption | (refine Below.setCell ?_ (by first | exact Nat.le_refl _ | omega | (simp; done) | (simp; omega)) _) | (refine Below.trans ?_ (below_drewN _)) | (refine Below.drew ?_) | (refine Below.alloc ?_ (by first | exact Nat.le_refl _ | omega | (simp; done) | (simp; omega)) _) | (refine below_row ?_ (by first | exact Nat.le_refl _ | omega | (simp; done) | (simp; omega)) _)))
theorem setV_lt {m : Nat} (hm : m ≤ 16) (xs : List Int) : setV m xs < 65536 := by
  unfold setV
  split
  · exact msk_lt hm _ ‹_›
  · omega
theorem Density_good (m : Nat) (A B : Option Addr) (c d : Nat) (es : List (Int × Int)) (gs : List Nat) (xs : List Int) (w : World) (hx : es.length ≤ 1000000) (hx2 : xs.length ≤ 1000000) (ha : PairsAt w A es) (hb : IntsAt w B xs) (h : readF m es = some gs) (hV : setV m xs ≠ 0) :
    Calls Try.prog 25 #[.int .i64 m, .slice A es.length c, .slice B xs.length d] w fun e w' => e = .returned (.tuple #[frac (denV gs (setV m xs)).1 (denV gs (setV m xs)).2, .int .i64 0]) ∧ Below w.heap.size w w' := by
  obtain ⟨hm1, hm2, hg, hI⟩ := readF_ok h
  have hm2' : m ≤ 16 := by omega
  have hbw := (Below.refl _ w).alloc (Nat.le_refl _) (.cells #[.int .i64 0, .int .i64 0] 26)
  have HC := Lib.hid (rg_some (c := c) hx (ha.below hbw) h)
  have hbi := hb.below hbw
  have hlt := setV_lt hm2' xs
  have hd1 : decide (setV m xs ≠ 0) = true := decide_eq_true hV
  generalize hs : setV m xs = s at *
  have HS := Lib.hid (fun w (hi : IntsAt w B xs) => (readSet_any m B d xs w hm2' hx2 hi).mono (R' := fun e w' => e = .returned (.tuple #[.int .u32 s, .bool true]) ∧ ∃ n, w' = w.drewN n) (fun e w' ⟨h1, h2⟩ => ⟨by rw [h1, hs, hd1], h2⟩))
  have HD := Lib.hid (fun w => density_any m s gs hg hlt (pc_pos hlt hV) w)
  clear h hm1 hm2 hb hV hs hd1
  show Calls _ _ _ _ fun e w' => e = .returned (.tuple #[frac (fN (endsOf gs s (ms s) / 2) (pc 16 s)) (fD (endsOf gs s (ms s) / 2) (pc 16 s)), .int .i64 0]) ∧ Below w.heap.size w w'
  generalize fN (endsOf gs s (ms s) / 2) (pc 16 s) = N at *
  generalize fD (endsOf gs s (ms s) / 2) (pc 16 s) = D at *
  go_enter Try.func25, Try.ntmps25
  go_wp2_with (first
    | (go_at_call 41; refine HC.out.mono ?_; rintro e w2 ⟨rfl, hb2⟩; have hs2 := hb2.size; have r0 : Row w2 w.heap.size 26 [.int .i64 0, .int .i64 0] := (Row.new w 26 _).below hb2; obtain ⟨⟨c0, c1⟩, g0, g1⟩ := r0.cells2; have l0 := r0.lt; have hi2 := (hbi.below hb2).below ((Below.refl _ w2).alloc (Nat.le_refl _) (.cells (gcells m gs).toArray 75)))
    | (refine wpList_store_row rfl 75 (.tmp 8) (.tmp 15) rfl w2.heap.size (gcells m gs).toArray rfl rfl 75 #[.int .i64 0, .int .u32 0, .int .u32 0, .int .u32 0, .int .u32 0, .int .u32 0, .int .u32 0, .int .u32 0, .int .u32 0, .int .u32 0, .int .u32 0, .int .u32 0, .int .u32 0, .int .u32 0, .int .u32 0, .int .u32 0, .int .u32 0] (heap_alloc_new _ _) (info75g hg) (size75g hg) (gcells_one _ _) ?_; rw [setRow_alloc])
    | (go_at_call 45; refine (HS.out _ hi2).mono ?_; rintro e w3 ⟨rfl, nq, rfl⟩; have rg := (row_new (cs := gcells m gs) rfl : Row (w2.alloc (.cells (gcells m gs).toArray 75)) w2.heap.size 75 (gcells m gs)).drewN nq)
    | (refine wpList_load_row rfl 75 (.tmp 8) rfl w2.heap.size rfl 75 (gcells m gs).toArray (0, 0) _ (row_heap rg) Try.underlying75 rfl (info75g hg) ?_)
    | (go_at_call 47; refine (HD.out _).mono ?_; rintro e w4 ⟨rfl, hb4⟩; have r4 := ((r0.alloc (.cells (gcells m gs).toArray 75)).drewN nq).below hb4; obtain ⟨⟨k0, k1⟩, j0, j1⟩ := r4.cells2))
  have r5 := (r4.set 0 (.int .i64 N)).set 1 (.int .i64 D)
  obtain ⟨⟨d0, d1⟩, -⟩ := r5.cells2
  refine bodyPost_ret (v := .tuple #[.agg #[.int .i64 N, .int .i64 D], .int .i64 0]) ?_ rfl ⟨rfl, ?_⟩
  · simp [results, Try.results25, go_sem, d0, d1]
  · have hb := ((((((Below.refl _ w).alloc (Nat.le_refl _) (.cells #[.int .i64 0, .int .i64 0] 26)).trans (hb2.mono (by simp))).alloc (by omega) (.cells (gcells m gs).toArray 75)).trans (below_drewN nq)).trans (hb4.mono (by simp; omega)))
    (repeat (first | exact Below.refl _ _ | assumption | (refine Below.setCell ?_ (by first | exact Nat.le_refl _ | omega | (simp; done) | (simp; omega)) _) | (refine Below.trans ?_ (below_drewN _)) | (refine Below.drew ?_) | (refine Below.alloc ?_ (by first | exact Nat.le_refl _ | omega | (simp; done) | (simp; omega)) _) | (refine below_row ?_ (by first | exact Nat.le_refl _ | omega | (simp; done) | (simp; omega)) _)))
end Go.Proofs.Ytmfpegadcecknaa
