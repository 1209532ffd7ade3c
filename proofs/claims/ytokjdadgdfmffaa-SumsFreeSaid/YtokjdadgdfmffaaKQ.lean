/- The program is awake. -/
import Derived.Test.YtokjdadgdfmffaaKP
namespace Go.Proofs.Ytokjdadgdfmffaa
open Go.RowKit
set_option maxHeartbeats 1000000
set_option maxRecDepth 100000
theorem ivR' {w : World} {g : Nat} {t : TypeId} {xs : List Int} (h : Row w g t (iv xs)) {i : Nat} (hi : i < xs.length) : w.cell? ⟨g, i, none⟩ = some (.int .i64 (geti xs i)) := by
  rw [h.cell, iv, List.getElem?_map, List.getElem?_eq_getElem hi, geti_eq hi]; rfl
theorem ints_new {W : World} {g : Nat} {xs : List Int} (h : W.heap.size = g) : IntsAt (W.alloc (.cells (iv xs).toArray 3)) (some ⟨g, 0, none⟩) xs := fun _ => ⟨g, 0, rfl, by subst h; simp, fun i hi => by
  rw [Nat.zero_add]; exact ivR' (row_new h) hi⟩
theorem zero1 : zrL 1 3 [[1], [1], [1]] 0 0 = [0, 1, 2] := by decide +kernel
theorem exact1 : exL 3 [0, 0, 1, 1, 2] = [0, 2, 4] := by decide +kernel
theorem both1 : bothL 5 [0, 1] [0, 1] = [0, 1, 2] ∧ bothOk 5 [0, 1] [0, 1] = true := by constructor <;> decide +kernel
theorem ord1 : ordV 2 4 (elA 2 [1, 2]) (elB 2 [1, 2]) = 2 ∧ elV 2 4 [1, 2] = true := by constructor <;> decide +kernel
theorem isg1 : IsG [3] 1 3 := ⟨⟨by omega, by omega, by omega, by omega⟩, .inl ⟨rfl, rfl⟩, by omega, by omega, by omega⟩
theorem isg2 : IsG [2, 2] 2 2 := ⟨⟨by omega, by omega, by omega, by omega⟩, .inr ⟨rfl, by omega⟩, by omega, by omega, by omega⟩
theorem isg3 : IsG [2, 4] 2 4 := ⟨⟨by omega, by omega, by omega, by omega⟩, .inr ⟨rfl, by omega⟩, by omega, by omega, by omega⟩
theorem awake_any (w : World) : Calls Try.prog 20 #[] w fun e w' => e = .returned (.bool true) ∧ Below w.heap.size w w' := by
  have i0 : IntsAt (((((w.alloc (.cells #[.int .i64 3] 3)).alloc (.cells #[.int .i64 1] 3)).alloc (.cells #[.int .i64 1] 3)).alloc (.cells #[.int .i64 1] 3)).alloc (.cells #[.slice (some ⟨w.heap.size + 1, 0, none⟩) 1 1, .slice (some ⟨w.heap.size + 1 + 1, 0, none⟩) 1 1, .slice (some ⟨w.heap.size + 1 + 1 + 1, 0, none⟩) 1 1] 22)) (some ⟨w.heap.size, 0, none⟩) [3] := ((((ints_new (xs := [3]) rfl).alloc _).alloc _).alloc _).alloc _
  have i1 : IntsAt (((((w.alloc (.cells #[.int .i64 3] 3)).alloc (.cells #[.int .i64 1] 3)).alloc (.cells #[.int .i64 1] 3)).alloc (.cells #[.int .i64 1] 3)).alloc (.cells #[.slice (some ⟨w.heap.size + 1, 0, none⟩) 1 1, .slice (some ⟨w.heap.size + 1 + 1, 0, none⟩) 1 1, .slice (some ⟨w.heap.size + 1 + 1 + 1, 0, none⟩) 1 1] 22)) (some ⟨w.heap.size + 1, 0, none⟩) [1] := (((ints_new (xs := [1]) (by simp)).alloc _).alloc _).alloc _
  have i2 : IntsAt (((((w.alloc (.cells #[.int .i64 3] 3)).alloc (.cells #[.int .i64 1] 3)).alloc (.cells #[.int .i64 1] 3)).alloc (.cells #[.int .i64 1] 3)).alloc (.cells #[.slice (some ⟨w.heap.size + 1, 0, none⟩) 1 1, .slice (some ⟨w.heap.size + 1 + 1, 0, none⟩) 1 1, .slice (some ⟨w.heap.size + 1 + 1 + 1, 0, none⟩) 1 1] 22)) (some ⟨w.heap.size + 1 + 1, 0, none⟩) [1] := ((ints_new (xs := [1]) (by simp)).alloc _).alloc _
  have i3 : IntsAt (((((w.alloc (.cells #[.int .i64 3] 3)).alloc (.cells #[.int .i64 1] 3)).alloc (.cells #[.int .i64 1] 3)).alloc (.cells #[.int .i64 1] 3)).alloc (.cells #[.slice (some ⟨w.heap.size + 1, 0, none⟩) 1 1, .slice (some ⟨w.heap.size + 1 + 1, 0, none⟩) 1 1, .slice (some ⟨w.heap.size + 1 + 1 + 1, 0, none⟩) 1 1] 22)) (some ⟨w.heap.size + 1 + 1 + 1, 0, none⟩) [1] := (ints_new (xs := [1]) (by simp)).alloc _
  have rr : Row (((((w.alloc (.cells #[.int .i64 3] 3)).alloc (.cells #[.int .i64 1] 3)).alloc (.cells #[.int .i64 1] 3)).alloc (.cells #[.int .i64 1] 3)).alloc (.cells #[.slice (some ⟨w.heap.size + 1, 0, none⟩) 1 1, .slice (some ⟨w.heap.size + 1 + 1, 0, none⟩) 1 1, .slice (some ⟨w.heap.size + 1 + 1 + 1, 0, none⟩) 1 1] 22)) (w.heap.size + 1 + 1 + 1 + 1) 22 [.slice (some ⟨w.heap.size + 1, 0, none⟩) 1 1, .slice (some ⟨w.heap.size + 1 + 1, 0, none⟩) 1 1, .slice (some ⟨w.heap.size + 1 + 1 + 1, 0, none⟩) 1 1] := row_new (by simp)
  have ra : RowsAt (((((w.alloc (.cells #[.int .i64 3] 3)).alloc (.cells #[.int .i64 1] 3)).alloc (.cells #[.int .i64 1] 3)).alloc (.cells #[.int .i64 1] 3)).alloc (.cells #[.slice (some ⟨w.heap.size + 1, 0, none⟩) 1 1, .slice (some ⟨w.heap.size + 1 + 1, 0, none⟩) 1 1, .slice (some ⟨w.heap.size + 1 + 1 + 1, 0, none⟩) 1 1] 22)) (some ⟨w.heap.size + 1 + 1 + 1 + 1, 0, none⟩) [[1], [1], [1]] := fun _ => ⟨_, 0, rfl, rr.lt, fun i hi => by
    have h3 : i < 3 := hi
    rw [Nat.zero_add, rr.cell]
    obtain rfl | rfl | rfl : i = 0 ∨ i = 1 ∨ i = 2 := by omega
    · exact ⟨_, 1, rfl, i1⟩
    · exact ⟨_, 1, rfl, i2⟩
    · exact ⟨_, 1, rfl, i3⟩⟩
  have b0 : Below w.heap.size w (((((w.alloc (.cells #[.int .i64 3] 3)).alloc (.cells #[.int .i64 1] 3)).alloc (.cells #[.int .i64 1] 3)).alloc (.cells #[.int .i64 1] 3)).alloc (.cells #[.slice (some ⟨w.heap.size + 1, 0, none⟩) 1 1, .slice (some ⟨w.heap.size + 1 + 1, 0, none⟩) 1 1, .slice (some ⟨w.heap.size + 1 + 1 + 1, 0, none⟩) 1 1] 22)) := by (repeat (first | exact Below.refl _ _ | assumption | (refine Below.setCell ?_ (by first | exact Nat.le_refl _ | omega | (simp; done) | (simp; omega)) _) | (refine Below.trans ?_ (below_drewN _)) | (refine Below.drew ?_) | (refine Below.alloc ?_ (by first | exact Nat.le_refl _ | omega | (simp; done) | (simp; omega)) _) | (refine below_row ?_ (by first | exact Nat.le_refl _ | omega | (simp; done) | (simp; omega)) _)))
  have hz := Zero_some (some ⟨w.heap.size, 0, none⟩) (some ⟨w.heap.size + 1 + 1 + 1 + 1, 0, none⟩) 1 3 1 3 [3] [[1], [1], [1]] _ isg1 (fun i hi => by
    have h3 : i < 3 := hi
    obtain rfl | rfl | rfl : i = 0 ∨ i = 1 ∨ i = 2 := by omega
    all_goals (show 1 ≤ 1000000; omega)) i0 ra (by decide +kernel) (by rw [zero1]; decide)
  rw [zero1] at hz
  have HZ := Lib.hid hz
  have HEX := Lib.hid exact1
  have HBO := Lib.hid both1
  have HOR := Lib.hid ord1
  clear hz i0 i1 i2 i3 rr ra
  go_enter Try.func20, Try.ntmps20
  go_wp2_with (go_at_call 16; fail)
  refine HZ.out.mono ?_
  rintro e w1 ⟨b, o, c, rfl, h1, b1⟩
  replace b1 := b0.trans (b1.mono b0.size)
  have u2 : IntsAt (w1.alloc (.cells #[.int .i64 2, .int .i64 2] 3)) (some ⟨w1.heap.size, 0, none⟩) [2, 2] := ints_new (xs := [2, 2]) rfl
  have H1 := Lib.hid (h1.alloc (.cells #[.int .i64 2, .int .i64 2] 3))
  replace b1 := b1.alloc b1.size (.cells #[.int .i64 2, .int .i64 2] 3)
  clear h1 b0 HZ
  go_wp2_with (go_at_call 25; fail)
  refine (Bound_yes (some ⟨w1.heap.size, 0, none⟩) 2 2 2 [2, 2] _ isg2 u2).mono ?_
  rintro e w2 ⟨rfl, b2⟩
  have H2 := Lib.hid ((H1.out.below b2).alloc (.cells #[.int .i64 0, .int .i64 0, .int .i64 1, .int .i64 1, .int .i64 2] 3))
  have u3 : IntsAt (w2.alloc (.cells #[.int .i64 0, .int .i64 0, .int .i64 1, .int .i64 1, .int .i64 2] 3)) (some ⟨w2.heap.size, 0, none⟩) [0, 0, 1, 1, 2] := ints_new (xs := [0, 0, 1, 1, 2]) rfl
  replace b2 := b1.trans (b2.mono b1.size)
  replace b2 := b2.alloc b2.size (.cells #[.int .i64 0, .int .i64 0, .int .i64 1, .int .i64 1, .int .i64 2] 3)
  have hx := Exactly_go 3 (some ⟨w2.heap.size, 0, none⟩) 5 [0, 0, 1, 1, 2] _ ⟨by omega, by omega⟩ rfl u3 (by rw [HEX.out]; decide)
  rw [HEX.out] at hx
  have HX := Lib.hid hx
  clear hx u2 u3 b1 H1
  go_wp2_with (go_at_call 33; fail)
  refine HX.out.mono ?_
  rintro e w3 ⟨b', o', c', rfl, h3, b3⟩
  have H1 := Lib.hid (((H2.out.below b3).alloc (.cells #[.int .i64 0, .int .i64 1] 3)).alloc (.cells #[.int .i64 0, .int .i64 1] 3))
  have H3 := Lib.hid ((h3.alloc (.cells #[.int .i64 0, .int .i64 1] 3)).alloc (.cells #[.int .i64 0, .int .i64 1] 3))
  replace b3 := b2.trans (b3.mono b2.size)
  have u4 : IntsAt ((w3.alloc (.cells #[.int .i64 0, .int .i64 1] 3)).alloc (.cells #[.int .i64 0, .int .i64 1] 3)) (some ⟨w3.heap.size, 0, none⟩) [0, 1] := (ints_new (xs := [0, 1]) rfl).alloc _
  have u5 : IntsAt ((w3.alloc (.cells #[.int .i64 0, .int .i64 1] 3)).alloc (.cells #[.int .i64 0, .int .i64 1] 3)) (some ⟨w3.heap.size + 1, 0, none⟩) [0, 1] := ints_new (xs := [0, 1]) (by simp)
  have b4 : Below w.heap.size w ((w3.alloc (.cells #[.int .i64 0, .int .i64 1] 3)).alloc (.cells #[.int .i64 0, .int .i64 1] 3)) := (b3.alloc b3.size _).alloc (Nat.le_trans b3.size (by simp)) _
  have hx := Both_go 5 (some ⟨w3.heap.size, 0, none⟩) (some ⟨w3.heap.size + 1, 0, none⟩) 2 2 [0, 1] [0, 1] _ (by simp) (by simp) u4 u5 HBO.out.2
  rw [HBO.out.1] at hx
  have HX := Lib.hid hx
  clear hx u4 u5 b3 b2 H2 h3
  go_wp2_with (go_at_call 35; fail)
  refine HX.out.mono ?_
  rintro e w4 ⟨v, rfl, ho, b5⟩
  obtain ⟨A4, c4, rfl, -, -, h4⟩ := own_intsI ho
  have b5' := b4.trans (b5.mono b4.size)
  have G1 := Lib.hid (((H1.out.below b5).alloc (.cells #[.int .i64 2, .int .i64 4] 3)).alloc (.cells #[.int .i64 1, .int .i64 2] 3))
  have G3 := Lib.hid (((H3.out.below b5).alloc (.cells #[.int .i64 2, .int .i64 4] 3)).alloc (.cells #[.int .i64 1, .int .i64 2] 3))
  have G4 := Lib.hid ((h4.alloc (.cells #[.int .i64 2, .int .i64 4] 3)).alloc (.cells #[.int .i64 1, .int .i64 2] 3))
  have u6 : IntsAt ((w4.alloc (.cells #[.int .i64 2, .int .i64 4] 3)).alloc (.cells #[.int .i64 1, .int .i64 2] 3)) (some ⟨w4.heap.size, 0, none⟩) [2, 4] := (ints_new (xs := [2, 4]) rfl).alloc _
  have u7 : IntsAt ((w4.alloc (.cells #[.int .i64 2, .int .i64 4] 3)).alloc (.cells #[.int .i64 1, .int .i64 2] 3)) (some ⟨w4.heap.size + 1, 0, none⟩) [1, 2] := ints_new (xs := [1, 2]) (by simp)
  have b6 : Below w.heap.size w ((w4.alloc (.cells #[.int .i64 2, .int .i64 4] 3)).alloc (.cells #[.int .i64 1, .int .i64 2] 3)) := (b5'.alloc b5'.size _).alloc (Nat.le_trans b5'.size (by simp)) _
  have hx := Order_yes (some ⟨w4.heap.size, 0, none⟩) (some ⟨w4.heap.size + 1, 0, none⟩) 2 2 2 4 [2, 4] [1, 2] _ isg3 (by simp) u6 u7 HOR.out.2
  rw [HOR.out.1] at hx
  have HX2 := Lib.hid hx
  clear hx u6 u7 b4 b5 b5' H1 H3 h4 ho HX HEX HBO HOR
  go_wp2_with (go_at_call 28; fail)
  refine HX2.out.mono ?_
  rintro e w5 ⟨rfl, b7⟩
  have K1 := Lib.hid (G1.out.below b7)
  have K3 := Lib.hid (G3.out.below b7)
  have K4 := Lib.hid (G4.out.below b7)
  replace b7 := b6.trans (b7.mono b6.size)
  clear G1 G3 G4 b6 HX2
  go_wp2_with (go_at_call 23; fail)
  have huw5 : IntsAt (w5.alloc (.cells #[.int .i64 0, .int .i64 1, .int .i64 2] 3)) (some ⟨w5.heap.size, 0, none⟩) [0, 1, 2] := ints_new (xs := [0, 1, 2]) rfl
  have hkw5 := K1.out.alloc (.cells #[.int .i64 0, .int .i64 1, .int .i64 2] 3)
  refine (ints_yes _ _ _ _ [0, 1, 2] 3 _ rfl (by omega) hkw5 huw5).mono ?_
  clear huw5 hkw5
  rintro e w6 ⟨rfl, n1, rfl⟩
  have M3 := Lib.hid ((K3.out.alloc (.cells #[.int .i64 0, .int .i64 1, .int .i64 2] 3)).drewN n1)
  have M4 := Lib.hid ((K4.out.alloc (.cells #[.int .i64 0, .int .i64 1, .int .i64 2] 3)).drewN n1)
  have b8 := (b7.alloc b7.size (.cells #[.int .i64 0, .int .i64 1, .int .i64 2] 3)).trans (below_drewN n1)
  clear K1 K3 K4 b7
  generalize ((w5.alloc (.cells #[.int .i64 0, .int .i64 1, .int .i64 2] 3)).drewN n1) = w6 at *
  go_wp2_with (go_at_call 23; fail)
  have huw6 : IntsAt (w6.alloc (.cells #[.int .i64 0, .int .i64 2, .int .i64 4] 3)) (some ⟨w6.heap.size, 0, none⟩) [0, 2, 4] := ints_new (xs := [0, 2, 4]) rfl
  have hkw6 := M3.out.alloc (.cells #[.int .i64 0, .int .i64 2, .int .i64 4] 3)
  refine (ints_yes _ _ _ _ [0, 2, 4] 3 _ rfl (by omega) hkw6 huw6).mono ?_
  clear huw6 hkw6
  rintro e w7 ⟨rfl, n2, rfl⟩
  have N4 := Lib.hid ((M4.out.alloc (.cells #[.int .i64 0, .int .i64 2, .int .i64 4] 3)).drewN n2)
  have b9 := (b8.alloc b8.size (.cells #[.int .i64 0, .int .i64 2, .int .i64 4] 3)).trans (below_drewN n2)
  clear M3 M4 b8
  generalize ((w6.alloc (.cells #[.int .i64 0, .int .i64 2, .int .i64 4] 3)).drewN n2) = w7 at *
  go_wp2_with (go_at_call 23; fail)
  have huw7 : IntsAt (w7.alloc (.cells #[.int .i64 0, .int .i64 1, .int .i64 2] 3)) (some ⟨w7.heap.size, 0, none⟩) [0, 1, 2] := ints_new (xs := [0, 1, 2]) rfl
  have hkw7 := N4.out.alloc (.cells #[.int .i64 0, .int .i64 1, .int .i64 2] 3)
  refine (ints_yes _ _ _ _ [0, 1, 2] 3 _ rfl (by omega) hkw7 huw7).mono ?_
  clear huw7 hkw7
  rintro e w8 ⟨rfl, n3, rfl⟩
  have b10 := (b9.alloc b9.size (.cells #[.int .i64 0, .int .i64 1, .int .i64 2] 3)).trans (below_drewN n3)
  clear N4 b9
  generalize ((w7.alloc (.cells #[.int .i64 0, .int .i64 1, .int .i64 2] 3)).drewN n3) = w8 at *
  go_wp2
  go_ret
  exact ⟨rfl, b10⟩
end Go.Proofs.Ytokjdadgdfmffaa
