/- The program is awake. -/
import Derived.Test.YtheblebfeinjjaaNX
import Derived.Test.YtheblebfeinjjaaNV
namespace Go.Proofs.Ytheblebfeinjjaa
open Go.RowKit
set_option maxHeartbeats 1000000
set_option maxRecDepth 100000
theorem ints_new {W : World} {g : Nat} {xs : List Int} (h : W.heap.size = g) : IntsAt (W.alloc (.cells (iv xs).toArray 3)) (some ⟨g, 0, none⟩) xs := fun _ => ⟨g, 0, rfl, by subst h; simp, fun i hi => by
  rw [Nat.zero_add]; exact ivR (row_new h) hi⟩
theorem eq25 (a b c d e f : Int) (w : World) : (Op.equalIn 10000 25 (.agg #[.int .i64 a, .int .i64 b, .int .i64 c, .int .i64 d, .int .i64 e, .int .i64 f]) (.agg #[.int .i64 a, .int .i64 b, .int .i64 c, .int .i64 d, .int .i64 e, .int .i64 f])).run Try.prog w = .ok true w := by
  have u3 := Try.underlying3
  have a3 := Try.isAgg3
  have z3 := Try.sizeOf3
  have hf : Try.prog.fieldsOf 25 = #[⟨"Inv", 3, 0, false, "", "", 0⟩, ⟨"Maj", 3, 1, false, "", "", 8⟩, ⟨"Des", 3, 2, false, "", "", 16⟩, ⟨"Exc", 3, 3, false, "", "", 24⟩, ⟨"Cycles", 3, 4, false, "", "", 32⟩, ⟨"Records", 3, 5, false, "", "", 40⟩] := by kernel_rfl
  rw [show (10000 : Nat) = 9999 + 1 from rfl, run_equalIn_struct w 9999 25 _ _ Try.underlying25 (by kernel_rfl), hf]
  simp [Op.eqFields]
  go_simp
theorem awk1 : nmL [3, 1, 2] = [2, 1, 1, 1, 1, 1] := by decide +kernel
theorem awk2 : sec [1, 3, 2] = [3, 1, 2] := by decide +kernel
theorem awk3 : wr' [2, 3, 1] = [3, 1, 2] := by decide +kernel
theorem awk4 : getn (rowN mI 4) 3 = 6 := by decide +kernel
theorem awk5 : getn (rowN mD 4) 1 = 11 := by decide +kernel
theorem awk6 : getn (rowN mC 4) 2 = 11 := by decide +kernel
theorem iso1 : IsO [3, 1, 2] := okO_iff.1 (by decide +kernel)
theorem iso2 : IsO [1, 3, 2] := okO_iff.1 (by decide +kernel)
theorem iso3 : IsO [2, 3, 1] := okO_iff.1 (by decide +kernel)
theorem cv1 : cntV mI 4 3 = .tuple #[.int .i64 6, .int .i64 0] := by
  have h := cntV_ok (m := mI) (a := 4) (b := 3) (by omega)
  rw [awk4] at h; exact h
theorem cv2 : cntV mD 4 1 = .tuple #[.int .i64 11, .int .i64 0] := by
  have h := cntV_ok (m := mD) (a := 4) (b := 1) (by omega)
  rw [awk5] at h; exact h
theorem cv3 : cntV mC 4 2 = .tuple #[.int .i64 11, .int .i64 0] := by
  have h := cntV_ok (m := mC) (a := 4) (b := 2) (by omega)
  rw [awk6] at h; exact h
abbrev N6 : List Value := [.int .i64 2, .int .i64 1, .int .i64 1, .int .i64 1, .int .i64 1, .int .i64 1]
theorem cells6 {w : World} {g : Nat} (h : Row w g 25 N6) : w.cell? ⟨g, 0, none⟩ = some (.int .i64 2) ∧ w.cell? ⟨g, 1, none⟩ = some (.int .i64 1) ∧ w.cell? ⟨g, 2, none⟩ = some (.int .i64 1) ∧ w.cell? ⟨g, 3, none⟩ = some (.int .i64 1) ∧ w.cell? ⟨g, 4, none⟩ = some (.int .i64 1) ∧ w.cell? ⟨g, 5, none⟩ = some (.int .i64 1) :=
  ⟨(h.cell 0).trans rfl, (h.cell 1).trans rfl, (h.cell 2).trans rfl, (h.cell 3).trans rfl, (h.cell 4).trans rfl, (h.cell 5).trans rfl⟩
theorem awake_any (w : World) : Calls Try.prog 21 #[] w fun e w' => e = .returned (.bool true) ∧ Below w.heap.size w w' := by
  have u0 : IntsAt (w.alloc (.cells #[.int .i64 3, .int .i64 1, .int .i64 2] 3)) (some ⟨w.heap.size, 0, none⟩) [3, 1, 2] := ints_new (xs := [3, 1, 2]) rfl
  have b0 : Below w.heap.size w (w.alloc (.cells #[.int .i64 3, .int .i64 1, .int .i64 2] 3)) := by (repeat (first | exact Below.refl _ _ | assumption | (refine Below.setCell ?_ (by first | exact Nat.le_refl _ | omega | (simp; done) | (simp; omega)) _) | (refine Below.trans ?_ (below_drewN _)) | (refine Below.drew ?_) | (refine Below.alloc ?_ (by first | exact Nat.le_refl _ | omega | (simp; done) | (simp; omega)) _) | (refine below_row ?_ (by first | exact Nat.le_refl _ | omega | (simp; done) | (simp; omega)) _)))
  have hN := Numbers_yes (some ⟨w.heap.size, 0, none⟩) 3 [3, 1, 2] _ iso1 u0
  rw [awk1] at hN
  have HN := Lib.hid hN
  have hi6 : (Try.prog.info? 25).map (·.size) = some N6.toArray.size := info25
  have ha6 : N6.toArray.all (·.oneCell') = true := iv_all [2, 1, 1, 1, 1, 1]
  clear hN u0
  go_enter Try.func21, Try.ntmps21
  go_wp2_with (first
    | (go_at_call 16; refine HN.out.mono ?_; rintro e w1 ⟨rfl, b1⟩; replace b1 := b0.trans (b1.mono b0.size); have hz1 := b1.size; have q1 : Row (w1.alloc (.cells Z6.toArray 25)) w1.heap.size 25 Z6 := row_new rfl; replace b1 := b1.alloc b1.size (.cells Z6.toArray 25))
    | (with_reducible refine (?_ : wpList _ _ _ (Oper.mk _ (Op.store 25 (.tmp 1) _) _ _ _ _ :: _) _ _); refine wpList_store_row rfl 25 (.tmp 1) (.tmp 16) rfl w1.heap.size N6.toArray rfl rfl 25 Z6.toArray (row_heap q1) hi6 rfl ha6 ?_; replace q1 := q1.row N6; replace b1 := below_row (g := w1.heap.size) b1 hz1 N6.toArray; generalize World.setRow (w1.alloc _) _ _ = W at *)
    | (go_at_call 29; fail))
  have u2 : IntsAt (W.alloc (.cells #[.int .i64 1, .int .i64 3, .int .i64 2] 3)) (some ⟨W.heap.size, 0, none⟩) [1, 3, 2] := ints_new (xs := [1, 3, 2]) rfl
  have Q1 := Lib.hid (q1.alloc (.cells #[.int .i64 1, .int .i64 3, .int .i64 2] 3))
  replace b1 := b1.alloc b1.size (.cells #[.int .i64 1, .int .i64 3, .int .i64 2] 3)
  have hS := Second_yes (some ⟨W.heap.size, 0, none⟩) 3 [1, 3, 2] _ iso2 u2
  rw [awk2] at hS
  refine hS.mono ?_
  rintro e w2 ⟨A2, c2, rfl, o2, b2⟩
  obtain ⟨A2', c2', e2, -, -, i2⟩ := own_intsI o2
  injection e2 with e3 e4 e5
  subst e3 e5
  have I2 := Lib.hid (i2.alloc (.cells #[.int .i64 2, .int .i64 3, .int .i64 1] 3))
  replace Q1 := Lib.hid ((Q1.out.below b2).alloc (.cells #[.int .i64 2, .int .i64 3, .int .i64 1] 3))
  replace b2 := b1.trans (b2.mono b1.size)
  replace b2 := b2.alloc b2.size (.cells #[.int .i64 2, .int .i64 3, .int .i64 1] 3)
  have u3 : IntsAt (w2.alloc (.cells #[.int .i64 2, .int .i64 3, .int .i64 1] 3)) (some ⟨w2.heap.size, 0, none⟩) [2, 3, 1] := ints_new (xs := [2, 3, 1]) rfl
  have hW := Written_yes (some ⟨w2.heap.size, 0, none⟩) 3 [2, 3, 1] _ iso3 u3
  rw [awk3] at hW
  have HW := Lib.hid hW
  clear hS hW u2 u3 o2 i2 e4 q1 b1 b0 HN hz1
  go_wp2_with (go_at_call 31; fail)
  refine HW.out.mono ?_
  rintro e w3 ⟨A3, c3, rfl, o3, b3⟩
  obtain ⟨A3', c3', e2, -, -, i3⟩ := own_intsI o3
  injection e2 with e3 e4 e5
  subst e3 e5
  have I3 := Lib.hid i3
  replace I2 := Lib.hid (I2.out.below b3)
  replace Q1 := Lib.hid (Q1.out.below b3)
  replace b3 := b2.trans (b3.mono b2.size)
  have HC1 := Lib.hid (fun w => cv1 ▸ Inversions_any 4 3 w)
  have HC2 := Lib.hid (fun w => cv2 ▸ Descents_any 4 1 w)
  have HC3 := Lib.hid (fun w => cv3 ▸ CyclesOf_any 4 2 w)
  have E25 := eq25 2 1 1 1 1 1
  clear b2 HW o3 i3 e4
  go_wp2_with (first
    | (go_at_call 37; refine (HC1.out _).mono ?_; rintro e w4 ⟨rfl, b4⟩; replace I2 := Lib.hid (I2.out.below b4); replace I3 := Lib.hid (I3.out.below b4); replace Q1 := Lib.hid (Q1.out.below b4); replace b3 := b3.trans (b4.mono b3.size); clear b4)
    | (go_at_call 38; refine (HC2.out _).mono ?_; rintro e w5 ⟨rfl, b4⟩; replace I2 := Lib.hid (I2.out.below b4); replace I3 := Lib.hid (I3.out.below b4); replace Q1 := Lib.hid (Q1.out.below b4); replace b3 := b3.trans (b4.mono b3.size); clear b4)
    | (go_at_call 39; refine (HC3.out _).mono ?_; rintro e w6 ⟨rfl, b4⟩; replace I2 := Lib.hid (I2.out.below b4); replace I3 := Lib.hid (I3.out.below b4); obtain ⟨d0, d1, d2, d3, d4, d5⟩ := cells6 (Q1.out.below b4); replace b3 := b3.trans (b4.mono b3.size); clear b4)
    | (go_at_call 23; fail))
  clear d0 d1 d2 d3 d4 d5 HC1 HC2 HC3 E25 Q1
  have u4 : IntsAt (w6.alloc (.cells #[.int .i64 3, .int .i64 1, .int .i64 2] 3)) (some ⟨w6.heap.size, 0, none⟩) [3, 1, 2] := ints_new (xs := [3, 1, 2]) rfl
  have u5 := I2.out.alloc (.cells #[.int .i64 3, .int .i64 1, .int .i64 2] 3)
  replace I3 := Lib.hid (I3.out.alloc (.cells #[.int .i64 3, .int .i64 1, .int .i64 2] 3))
  replace b3 := b3.alloc b3.size (.cells #[.int .i64 3, .int .i64 1, .int .i64 2] 3)
  refine (ints_yes A2 (some ⟨w6.heap.size, 0, none⟩) c2 3 [3, 1, 2] 3 _ rfl (by omega) u5 u4).mono ?_
  rintro e w7 ⟨rfl, n7, rfl⟩
  replace I3 := Lib.hid ((I3.out.drewN n7).alloc (.cells #[.int .i64 3, .int .i64 1, .int .i64 2] 3))
  replace b3 := b3.trans (below_drewN n7)
  replace b3 := b3.alloc b3.size (.cells #[.int .i64 3, .int .i64 1, .int .i64 2] 3)
  clear u4 u5 I2
  generalize World.drewN (w6.alloc _) n7 = W7 at *
  have u6 : IntsAt (W7.alloc (.cells #[.int .i64 3, .int .i64 1, .int .i64 2] 3)) (some ⟨W7.heap.size, 0, none⟩) [3, 1, 2] := ints_new (xs := [3, 1, 2]) rfl
  have HI := Lib.hid (ints_yes A3 (some ⟨W7.heap.size, 0, none⟩) c3 3 [3, 1, 2] 3 _ rfl (by omega) I3.out u6)
  clear I3 u6
  go_wp2_with (go_at_call 23; refine HI.out.mono ?_; rintro e w8 ⟨rfl, n8, rfl⟩; replace b3 := b3.trans (below_drewN n8))
  go_ret
  exact ⟨rfl, b3⟩
end Go.Proofs.Ytheblebfeinjjaa
