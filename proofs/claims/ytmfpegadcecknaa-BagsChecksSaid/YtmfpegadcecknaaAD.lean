/- Checking an answer. -/
import Derived.Test.YtmfpegadcecknaaAB
import Derived.Test.YtmfpegadcecknaaAC
namespace Go.Proofs.Ytmfpegadcecknaa
open Go.RowKit
set_option maxHeartbeats 1000000
set_option maxRecDepth 100000
theorem Check_none (n : Int) (A B C : Option Addr) (c d e0 : Nat) (es ss : List (Int × Int)) (xs : List Int) (w : World) (hx : es.length ≤ 1000000) (ha : PairsAt w A es) (h : readF n es = none) :
    Calls Try.prog 17 #[.int .i64 n, .slice A es.length c, .slice B xs.length d, .slice C ss.length e0] w fun e w' => e = .returned (.int .i64 2) ∧ Below w.heap.size w w' := by
  have HC := Lib.hid (rg_none (c := c) hx ha h)
  clear h
  go_enter Try.func17, Try.ntmps17
  go_wp2_with (first
    | (go_at_call 41; refine HC.out.mono ?_; rintro e w2 ⟨rfl, hb2⟩; have hs2 := hb2.size)
    | (refine wpList_store_row rfl 75 (.tmp 9) (.tmp 16) rfl w2.heap.size (gcells 0 Z16).toArray rfl rfl 75 #[.int .i64 0, .int .u32 0, .int .u32 0, .int .u32 0, .int .u32 0, .int .u32 0, .int .u32 0, .int .u32 0, .int .u32 0, .int .u32 0, .int .u32 0, .int .u32 0, .int .u32 0, .int .u32 0, .int .u32 0, .int .u32 0, .int .u32 0] (heap_alloc_new _ _) info75 rfl (gcells_one _ _) ?_; rw [setRow_alloc]))
  go_ret
  refine ⟨rfl, ?_⟩
  (repeat (first | exact Below.refl _ _ | assumption | (refine Below.setCell ?_ (by first | exact Nat.le_refl _ | omega | (simp; done) | (simp; omega)) _) | (refine Below.trans ?_ (below_drewN _)) | (refine Below.drew ?_) | (refine Below.alloc ?_ (by first | exact Nat.le_refl _ | omega | (simp; done) | (simp; omega)) _) | (refine below_row ?_ (by first | exact Nat.le_refl _ | omega | (simp; done) | (simp; omega)) _)))
theorem Check_bad (m : Nat) (A B C : Option Addr) (c d e0 : Nat) (es ss : List (Int × Int)) (gs : List Nat) (xs : List Int) (w : World) (hx : es.length ≤ 1000000) (hx2 : xs.length ≤ 1000000) (ha : PairsAt w A es) (hb : IntsAt w B xs) (h : readF m es = some gs) (hV : setV m xs = 0) :
    Calls Try.prog 17 #[.int .i64 m, .slice A es.length c, .slice B xs.length d, .slice C ss.length e0] w fun e w' => e = .returned (.int .i64 10) ∧ Below w.heap.size w w' := by
  obtain ⟨hm1, hm2, hg, hI⟩ := readF_ok h
  have hm2' : m ≤ 16 := by omega
  have HC := Lib.hid (rg_some (c := c) hx ha h)
  have HS := Lib.hid (fun w (hi : IntsAt w B xs) => (readSet_any m B d xs w hm2' hx2 hi).mono (R' := fun e w' => e = .returned (.tuple #[.int .u32 0, .bool false]) ∧ ∃ n, w' = w.drewN n) (fun e w' ⟨h1, h2⟩ => ⟨by rw [h1, hV]; rfl, h2⟩))
  clear h hm1 hm2 hV
  go_enter Try.func17, Try.ntmps17
  go_wp2_with (first
    | (go_at_call 41; refine HC.out.mono ?_; rintro e w2 ⟨rfl, hb2⟩; have hs2 := hb2.size; have hi2 := (hb.below hb2).below ((Below.refl _ w2).alloc (Nat.le_refl _) (.cells (gcells m gs).toArray 75)))
    | (refine wpList_store_row rfl 75 (.tmp 9) (.tmp 16) rfl w2.heap.size (gcells m gs).toArray rfl rfl 75 #[.int .i64 0, .int .u32 0, .int .u32 0, .int .u32 0, .int .u32 0, .int .u32 0, .int .u32 0, .int .u32 0, .int .u32 0, .int .u32 0, .int .u32 0, .int .u32 0, .int .u32 0, .int .u32 0, .int .u32 0, .int .u32 0, .int .u32 0] (heap_alloc_new _ _) (info75g hg) (size75g hg) (gcells_one _ _) ?_; rw [setRow_alloc])
    | (go_at_call 45; refine (HS.out _ hi2).mono ?_; rintro e w3 ⟨rfl, nq, rfl⟩))
  go_ret
  refine ⟨rfl, ?_⟩
  (repeat (first | exact Below.refl _ _ | assumption | (refine Below.setCell ?_ (by first | exact Nat.le_refl _ | omega | (simp; done) | (simp; omega)) _) | (refine Below.trans ?_ (below_drewN _)) | (refine Below.drew ?_) | (refine Below.alloc ?_ (by first | exact Nat.le_refl _ | omega | (simp; done) | (simp; omega)) _) | (refine below_row ?_ (by first | exact Nat.le_refl _ | omega | (simp; done) | (simp; omega)) _)))
theorem Check_good (m : Nat) (A B C : Option Addr) (c d e0 : Nat) (es ss : List (Int × Int)) (gs : List Nat) (xs : List Int) (w : World) (hx : es.length ≤ 1000000) (hx2 : xs.length ≤ 1000000) (ha : PairsAt w A es) (hb : IntsAt w B xs) (hc : PairsAt w C ss) (h : readF m es = some gs) (hV : setV m xs ≠ 0) (hD : (denV gs (setV m xs)).2 ≤ 1000000) :
    Calls Try.prog 17 #[.int .i64 m, .slice A es.length c, .slice B xs.length d, .slice C ss.length e0] w fun e w' => e = .returned (.int .i64 (if provV es ss (denV gs (setV m xs)).1 (denV gs (setV m xs)).2 then 0 else 10)) ∧ Below w.heap.size w w' := by
  obtain ⟨hm1, hm2, hg, hI⟩ := readF_ok h
  have hm2' : m ≤ 16 := by omega
  have HE : ∀ k, k < es.length → 0 ≤ pA es k ∧ pA es k < 16 ∧ 0 ≤ pB es k ∧ pB es k < 16 ∧ pA es k ≠ pB es k := fun k hk => by
    have := readF_edges h hk; omega
  have HC := Lib.hid (rg_some (c := c) hx ha h)
  have hlt := setV_lt hm2' xs
  have hd1 : decide (setV m xs ≠ 0) = true := decide_eq_true hV
  unfold denV at hD ⊢
  generalize hs : setV m xs = s at *
  have HS := Lib.hid (fun w (hi : IntsAt w B xs) => (readSet_any m B d xs w hm2' hx2 hi).mono (R' := fun e w' => e = .returned (.tuple #[.int .u32 s, .bool true]) ∧ ∃ n, w' = w.drewN n) (fun e w' ⟨h1, h2⟩ => ⟨by rw [h1, hs, hd1], h2⟩))
  have HD := Lib.hid (fun w => density_any m s gs hg hlt (pc_pos hlt hV) w)
  dsimp only at hD ⊢
  generalize fN (endsOf gs s (ms s) / 2) (pc 16 s) = N at *
  generalize fD (endsOf gs s (ms s) / 2) (pc 16 s) = D at *
  have HP := Lib.hid (fun w (h1 : PairsAt w A es) (h2 : PairsAt w C ss) => proves_any A C c e0 N D es ss w hx h1 h2 hD HE)
  clear h hm1 hm2 hV hs hd1 HE
  cases hv : provV es ss N D
  all_goals
    go_enter Try.func17, Try.ntmps17
    go_wp2_with (first
      | (go_at_call 41; refine HC.out.mono ?_; rintro e w2 ⟨rfl, hb2⟩; have hs2 := hb2.size; have hi2 := (hb.below hb2).below ((Below.refl _ w2).alloc (Nat.le_refl _) (.cells (gcells m gs).toArray 75)))
      | (refine wpList_store_row rfl 75 (.tmp 9) (.tmp 16) rfl w2.heap.size (gcells m gs).toArray rfl rfl 75 #[.int .i64 0, .int .u32 0, .int .u32 0, .int .u32 0, .int .u32 0, .int .u32 0, .int .u32 0, .int .u32 0, .int .u32 0, .int .u32 0, .int .u32 0, .int .u32 0, .int .u32 0, .int .u32 0, .int .u32 0, .int .u32 0, .int .u32 0] (heap_alloc_new _ _) (info75g hg) (size75g hg) (gcells_one _ _) ?_; rw [setRow_alloc])
      | (go_at_call 45; refine (HS.out _ hi2).mono ?_; rintro e w3 ⟨rfl, nq, rfl⟩; have rg := (row_new (cs := gcells m gs) rfl : Row (w2.alloc (.cells (gcells m gs).toArray 75)) w2.heap.size 75 (gcells m gs)).drewN nq)
      | (refine wpList_load_row rfl 75 (.tmp 9) rfl w2.heap.size rfl 75 (gcells m gs).toArray (0, 0) _ (row_heap rg) Try.underlying75 rfl (info75g hg) ?_)
      | (go_big_want; refine wp_load_row 75 (.tmp 9) rfl w2.heap.size rfl 75 (gcells m gs).toArray (0, 0) _ (row_heap rg) Try.underlying75 rfl (info75g hg) ?_)
      | (go_at_call 47; refine (HD.out _).mono ?_; rintro e w4 ⟨rfl, hb4⟩; have hb5 := ((hb2.alloc (by omega) (.cells (gcells m gs).toArray 75)).trans (below_drewN nq)).trans (hb4.mono (by simp; omega)); have hs5 := hb5.size)
      | (go_at_call 46; refine (HP.out _ (ha.below hb5) (hc.below hb5)).mono ?_; rintro e w6 ⟨rfl, hb6⟩; rw [hv]; have hb7 := hb5.trans (hb6.mono hs5)))
    go_ret
    exact ⟨rfl, hb7⟩
end Go.Proofs.Ytmfpegadcecknaa
