/- awake answers true. -/
import Derived.Test.YtmfpegadcecknaaAQ
namespace Go.Proofs.Ytmfpegadcecknaa
open Go.RowKit
set_option maxHeartbeats 1000000
set_option maxRecDepth 100000
theorem ints_yes (A B : Option Addr) (c d : Nat) (xs : List Int) (n : Nat) (w : World) (hn : xs.length = n) (hx : n ≤ 1000000) (ha : IntsAt w A xs) (hb : IntsAt w B xs) :
    Calls Try.prog 21 #[.slice A n c, .slice B n d] w fun e w' => e = .returned (.bool true) ∧ ∃ n, w' = w.drewN n := by
  subst hn
  refine (ints_any A B c d xs xs w hx hx ha hb).mono fun e w' ⟨h1, h2⟩ => ⟨by rw [h1]; simp, h2⟩
theorem ints_new {W : World} {g : Nat} (xs : List Nat) (h : W.heap.size = g) : IntsAt (W.alloc (.cells (intv xs).toArray 3)) (some ⟨g, 0, none⟩) (natI xs) := row_ints (row_new h)
theorem PairsAt.alloc {w : World} {A : Option Addr} {ps : List (Int × Int)} (h : PairsAt w A ps) (o : Obj) : PairsAt (w.alloc o) A ps := h.below ((Below.refl _ _).alloc (Nat.le_refl _) o)
theorem IntsAt.alloc {w : World} {A : Option Addr} {ps : List Int} (h : IntsAt w A ps) (o : Obj) : IntsAt (w.alloc o) A ps := h.below ((Below.refl _ _).alloc (Nat.le_refl _) o)
theorem IntsAt.drewN {w : World} {A : Option Addr} {ps : List Int} (h : IntsAt w A ps) (n : Nat) : IntsAt (w.drewN n) A ps := h.below (below_drewN n)
theorem pairs4 (w : World) : PairsAt (w.alloc (.cells #[.int .i64 0, .int .i64 1, .int .i64 0, .int .i64 2, .int .i64 1, .int .i64 2, .int .i64 2, .int .i64 3] 67)) (some ⟨w.heap.size, 0, none⟩) es4 := by
  intro _
  refine ⟨w.heap.size, 0, rfl, by simp, fun i hi => ?_⟩
  have hr : Row (w.alloc (.cells #[.int .i64 0, .int .i64 1, .int .i64 0, .int .i64 2, .int .i64 1, .int .i64 2, .int .i64 2, .int .i64 3] 67)) w.heap.size 67 [.int .i64 0, .int .i64 1, .int .i64 0, .int .i64 2, .int .i64 1, .int .i64 2, .int .i64 2, .int .i64 3] := row_new rfl
  rw [hr.cell, hr.cell]
  have : i = 0 ∨ i = 1 ∨ i = 2 ∨ i = 3 := by have : es4.length = 4 := rfl; omega
  rcases this with rfl | rfl | rfl | rfl <;> exact ⟨rfl, rfl⟩
theorem awake_any (w : World) : Calls Try.prog 18 #[] w fun e w' => e = .returned (.bool true) ∧ Below w.heap.size w w' := by
  go_enter Try.func18, Try.ntmps18
  go_wp2_with (first
    | (go_at_call 15; refine (Densest_4 _ _ (pairs4 w)).mono ?_; rintro e w2 ⟨A, k, B, rfl, hi2, hb2⟩; have p2 := (pairs4 w).below hb2; have b2 := ((Below.refl _ w).alloc (Nat.le_refl _) _).trans (hb2.mono (by simp)); clear hb2)
    | (go_at_call 31; refine (Height_4 _ _ _ ((p2.alloc _).alloc _) (ints_new [0, 0, 1, 2] (by simp))).mono ?_; rintro e w3 ⟨rfl, hb3⟩; have p3 := ((p2.alloc _).alloc _).below hb3; have i3 := ((hi2.alloc _).alloc _).below hb3; have r3 := ((row_new rfl : Row (w2.alloc (.cells #[.int .i64 1, .int .i64 1] 26)) _ 26 [.int .i64 1, .int .i64 1]).alloc _).below hb3; have b3 := ((b2.alloc b2.size _).alloc (by have := b2.size; simp; omega) _).trans (hb3.mono (by have := b2.size; simp; omega)); clear p2 hi2 hb3 b2)
    | (go_at_call 32; refine (Cores_4 _ _ p3).mono ?_; rintro e w4 ⟨g4, rfl, c4, hb4⟩; have p4 := p3.below hb4; have i4 := i3.below hb4; have r4 := r3.below hb4; have b4 := b3.trans (hb4.mono b3.size); clear p3 i3 r3 b3 hb4)
    | (go_at_call 33; refine (Peel_4 _ _ p4).mono ?_; rintro e w5 ⟨A5, k5, rfl, q5, hb5⟩; have i5 := i4.below hb5; have c5 := c4.below hb5; have r5 := r4.below hb5; have b5 := b4.trans (hb5.mono b4.size); clear p4 i4 c4 r4 b4 hb5)
    | (go_at_call 21; ((with_reducible refine (ints_yes A _ k _ [0, 1, 2, 3] 4 _ rfl (by decide) (i5.alloc _) (ints_new [0, 1, 2, 3] rfl)).mono ?_); rintro e w6 ⟨rfl, n6, rfl⟩); have r6 := (r5.alloc (.cells #[.int .i64 0, .int .i64 1, .int .i64 2, .int .i64 3] 3)).drewN n6; obtain ⟨⟨x0, x1⟩, -⟩ := r6.cells2; have c6 := (c5.alloc (.cells #[.int .i64 0, .int .i64 1, .int .i64 2, .int .i64 3] 3)).drewN n6; have q6 := (q5.alloc (.cells #[.int .i64 0, .int .i64 1, .int .i64 2, .int .i64 3] 3)).drewN n6; have b6 := (b5.alloc b5.size (.cells #[.int .i64 0, .int .i64 1, .int .i64 2, .int .i64 3] 3)).trans (below_drewN n6); clear r5 c5 q5 b5 i5 r6)
    | (go_at_call 21; ((with_reducible refine (ints_yes (some ⟨g4, 0, none⟩) _ 4 _ [2, 2, 2, 1] 4 _ rfl (by decide) (c6.alloc _) (ints_new [2, 2, 2, 1] (by simp))).mono ?_); rintro e w7 ⟨rfl, n7, rfl⟩); have q7 := (q6.alloc (.cells #[.int .i64 2, .int .i64 2, .int .i64 2, .int .i64 1] 3)).drewN n7; have b7 := (b6.alloc b6.size (.cells #[.int .i64 2, .int .i64 2, .int .i64 2, .int .i64 1] 3)).trans (below_drewN n7); clear c6 q6 b6)
    | (go_at_call 21; ((with_reducible refine (ints_yes A5 _ k5 _ [3, 0, 1, 2] 4 _ rfl (by decide) (q7.alloc _) (ints_new [3, 0, 1, 2] (by simp))).mono ?_); rintro e w8 ⟨rfl, n8, rfl⟩); have b8 := (b7.alloc b7.size (.cells #[.int .i64 3, .int .i64 0, .int .i64 1, .int .i64 2] 3)).trans (below_drewN n8); clear q7 b7))
  go_ret
  exact ⟨rfl, b8⟩
end Go.Proofs.Ytmfpegadcecknaa
