/- A few simple results. -/
import Derived.Test.YtnnaaoobdofooaaRJ
namespace Go.Proofs.Ytnnaaoobdofooaa
open Go.RowKit
set_option maxHeartbeats 1000000
set_option maxRecDepth 100000
theorem aw1 : okT [[1, 1], [1, 1]] = true ∧ perm [[1, 1], [1, 1]] = 2 := by decide +kernel
theorem aw2 : okT [[1, 0], [1, 0]] = true ∧ perm [[1, 0], [1, 0]] = 0 := by decide +kernel
theorem aw3 : okT [[1, 1], [1, 0]] = true ∧ 0 < chN [[1, 1], [1, 0]] (sAll 2) ∧ itm [[1, 1], [1, 0]] 2 (sAll 2) 0 = [1, 0] := by decide +kernel
theorem aw4 : okT [[2, 1], [1, 2]] = true ∧ lvN [[2, 1], [1, 2]] = 3 ∧ isLev [[2, 1], [1, 2]] = true := by decide +kernel
theorem ints_new {W : World} {g : Nat} {xs : List Int} (h : W.heap.size = g) : IntsAt (W.alloc (.cells (iv xs).toArray 3)) (some ⟨g, 0, none⟩) xs := fun _ => ⟨g, 0, rfl, by subst h; simp, fun i hi => by
  have hr : Row (W.alloc (.cells (iv xs).toArray 3)) g 3 (iv xs) := row_new h
  rw [Nat.zero_add, ivR hr hi]⟩
theorem rows2 (w : World) (a b c d : Int) : RowsAt (((w.alloc (.cells #[.int .i64 a, .int .i64 b] 3)).alloc (.cells #[.int .i64 c, .int .i64 d] 3)).alloc (.cells #[.slice (some ⟨w.heap.size, 0, none⟩) 2 2, .slice (some ⟨w.heap.size + 1, 0, none⟩) 2 2] 27)) (some ⟨w.heap.size + 1 + 1, 0, none⟩) [[a, b], [c, d]] := by
  have i0 : IntsAt (((w.alloc (.cells #[.int .i64 a, .int .i64 b] 3)).alloc (.cells #[.int .i64 c, .int .i64 d] 3)).alloc (.cells #[.slice (some ⟨w.heap.size, 0, none⟩) 2 2, .slice (some ⟨w.heap.size + 1, 0, none⟩) 2 2] 27)) (some ⟨w.heap.size, 0, none⟩) [a, b] := ((ints_new (xs := [a, b]) rfl).alloc _).alloc _
  have i1 : IntsAt (((w.alloc (.cells #[.int .i64 a, .int .i64 b] 3)).alloc (.cells #[.int .i64 c, .int .i64 d] 3)).alloc (.cells #[.slice (some ⟨w.heap.size, 0, none⟩) 2 2, .slice (some ⟨w.heap.size + 1, 0, none⟩) 2 2] 27)) (some ⟨w.heap.size + 1, 0, none⟩) [c, d] := (ints_new (xs := [c, d]) (by simp)).alloc _
  have rr : Row (((w.alloc (.cells #[.int .i64 a, .int .i64 b] 3)).alloc (.cells #[.int .i64 c, .int .i64 d] 3)).alloc (.cells #[.slice (some ⟨w.heap.size, 0, none⟩) 2 2, .slice (some ⟨w.heap.size + 1, 0, none⟩) 2 2] 27)) (w.heap.size + 1 + 1) 27 [.slice (some ⟨w.heap.size, 0, none⟩) 2 2, .slice (some ⟨w.heap.size + 1, 0, none⟩) 2 2] := row_new (by simp)
  exact fun _ => ⟨_, 0, rfl, rr.lt, fun i hi => by
    have h3 : i < 2 := hi
    rw [Nat.zero_add, rr.cell]
    obtain rfl | rfl : i = 0 ∨ i = 1 := by omega
    · exact ⟨_, 2, rfl, i0⟩
    · exact ⟨_, 2, rfl, i1⟩⟩
theorem below2 {B : Nat} {w0 w : World} (h : Below B w0 w) (hb : B ≤ w.heap.size) (a b c d : Int) : Below B w0 (((w.alloc (.cells #[.int .i64 a, .int .i64 b] 3)).alloc (.cells #[.int .i64 c, .int .i64 d] 3)).alloc (.cells #[.slice (some ⟨w.heap.size, 0, none⟩) 2 2, .slice (some ⟨w.heap.size + 1, 0, none⟩) 2 2] 27)) :=
  ((h.alloc hb _).alloc (by simp; omega) _).alloc (by simp; omega) _
theorem awake_any (w : World) : Calls Try.prog 21 #[] w fun e w' => e = .returned (.bool true) ∧ Below w.heap.size w w' := by
  have H1 := Lib.hid (fun (w : World) => Permanent_yes _ 2 [[1, 1], [1, 1]] _ (okT_iff.1 aw1.1) (rows2 w 1 1 1 1))
  have H2 := Lib.hid (fun (w : World) => Permanent_yes _ 2 [[1, 0], [1, 0]] _ (okT_iff.1 aw2.1) (rows2 w 1 0 1 0))
  have h3 := fun (w : World) => Choose_yes _ 2 [[1, 1], [1, 0]] _ (okT_iff.1 aw3.1) aw3.2.1 (rows2 w 1 1 1 0)
  have H4 := Lib.hid (fun (w : World) => Level_yes _ 2 [[2, 1], [1, 2]] _ (okT_iff.1 aw4.1) (rows2 w 2 1 1 2))
  rw [aw1.2] at H1
  rw [aw2.2] at H2
  rw [show itm [[1, 1], [1, 0]] ([[1, 1], [1, 0]] : List (List Int)).length (sAll ([[1, 1], [1, 0]] : List (List Int)).length) 0 = [1, 0] from aw3.2.2] at h3
  rw [aw4.2.1, aw4.2.2] at H4
  have H3 := Lib.hid h3
  clear h3
  have b0 : Below w.heap.size w w := Below.refl _ _
  go_enter Try.func21, Try.ntmps21
  go_wp2_with (go_at_call 18; fail)
  refine (H1.out _).mono ?_
  rintro e w1 ⟨rfl, b1⟩
  replace b1 := (below2 b0 (Nat.le_refl _) 1 1 1 1).trans (b1.mono (below2 b0 (Nat.le_refl _) 1 1 1 1).size)
  go_wp2_with (go_at_call 18; fail)
  refine (H2.out _).mono ?_
  rintro e w2 ⟨rfl, b2⟩
  replace b2 := (below2 b1 b1.size 1 0 1 0).trans (b2.mono (below2 b1 b1.size 1 0 1 0).size)
  clear b0 b1
  go_wp2_with (go_at_call 31; fail)
  refine (H3.out _).mono ?_
  rintro e w3 ⟨A3, c3, rfl, o3, b3⟩
  replace b3 := (below2 b2 b2.size 1 1 1 0).trans (b3.mono (below2 b2 b2.size 1 1 1 0).size)
  obtain ⟨A3', c3', e3, -, -, i3⟩ := own_intsI o3
  injection e3 with e31 e32 e33
  subst e31 e33
  have I3 := Lib.hid i3
  clear b2 o3 i3 e32
  go_wp2_with (go_at_call 27; fail)
  refine (H4.out _).mono ?_
  rintro e w4 ⟨rfl, b4⟩
  have hb := below2 b3 b3.size 2 1 1 2
  replace I3 := Lib.hid ((I3.out.below (below2 (Below.refl _ _) (Nat.le_refl _) 2 1 1 2)).below b4)
  replace b4 := hb.trans (b4.mono hb.size)
  clear hb b3
  go_wp2_with (go_at_call 24; fail)
  refine (ints_yes A3 (some ⟨w4.heap.size, 0, none⟩) c3 2 [1, 0] 2 _ rfl (by omega) (I3.out.alloc _) (ints_new (xs := [1, 0]) rfl)).mono ?_
  rintro e w5 ⟨rfl, n5, rfl⟩
  replace b4 := (b4.alloc b4.size (.cells (iv [1, 0]).toArray 3)).trans (below_drewN n5)
  clear I3 H1 H2 H3 H4
  go_wp2
  go_ret
  exact ⟨rfl, b4⟩
end Go.Proofs.Ytnnaaoobdofooaa
