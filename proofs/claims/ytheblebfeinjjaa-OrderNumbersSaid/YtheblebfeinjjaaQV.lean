/- OrderNumbers, walked; the row. -/
import Derived.Test.YtheblebfeinjjaaQR
import Derived.Test.YtheblebfeinjjaaQO
import Derived.Test.YtheblebfeinjjaaQM
import Derived.Test.YtheblebfeinjjaaPE
import Derived.Test.YtheblebfeinjjaaPC
import Derived.Test.YtheblebfeinjjaaOC
/- OrderNumbers, walked. -/
namespace Go.Proofs.Ytheblebfeinjjaa
open Go.RowKit
set_option maxHeartbeats 1000000
set_option maxRecDepth 100000
theorem cells6' {w : World} {g : Nat} {a b c d e f : Int} (h : Row w g 25 (iv [a, b, c, d, e, f])) : w.cell? ⟨g, 0, none⟩ = some (.int .i64 a) ∧ w.cell? ⟨g, 1, none⟩ = some (.int .i64 b) ∧ w.cell? ⟨g, 2, none⟩ = some (.int .i64 c) ∧ w.cell? ⟨g, 3, none⟩ = some (.int .i64 d) ∧ w.cell? ⟨g, 4, none⟩ = some (.int .i64 e) ∧ w.cell? ⟨g, 5, none⟩ = some (.int .i64 f) :=
  ⟨ivR h (i := 0) (by simp), ivR h (i := 1) (by simp), ivR h (i := 2) (by simp), ivR h (i := 3) (by simp), ivR h (i := 4) (by simp), ivR h (i := 5) (by simp)⟩
theorem OrderNumbers_any (A : Option Addr) (c : Nat) (a : List Int) (w : World) (hx : a.length ≤ c) (hc : c ≤ maxLen) (ha : IntsAt w A a) :
    Calls Try.prog 3 #[.slice A a.length c] w fun e w' => e = .returned (.bool true) ∧ Below w.heap.size w w' := by
  have HT := Lib.hid (list_copy_any A c a w hx hc ha)
  have hO : (a.take 13).length ≤ 13 := by rw [List.length_take]; omega
  clear ha hx hc
  generalize a.take 13 = O at *
  cases hok : okO O
  · have HC0 := Lib.hid (fun A c w hw => refOrder_any A c O w (by omega) hw)
    rw [hok] at HC0
    have HC1 := Lib.hid (fun A c w hw => Numbers_no A c O w (by omega) hok hw)
    have HC2 := Lib.hid (fun A c w hw => Inverse_no A c O w (by omega) hok hw)
    have HC3 := Lib.hid (fun A c w hw => Table_no A c O w (by omega) hok hw)
    have HC4 := Lib.hid (fun A c w hw => Index_no A c O w (by omega) hok hw)
    have hi6 : (Try.prog.info? 25).map (·.size) = some Z6.toArray.size := info25
    go_enter Try.func3, Try.ntmps3
    go_wp2_with (go_at_call 15; fail)
    refine HT.out.mono ?_
    rintro e w1 ⟨v1, n1, rfl, o1, b1⟩
    obtain ⟨A1, c1, rfl, hn0, -, i1⟩ := own_intsI o1
    subst hn0
    have I1 := Lib.hid i1
    clear HT o1 i1
    go_wp2_with (go_at_call 16; fail)
    refine (HC1.out _ _ _ I1.out).mono ?_
    rintro e x3 ⟨rfl, z3⟩
    have q3 : Row (x3.alloc (.cells Z6.toArray 25)) x3.heap.size 25 Z6 := row_new rfl
    have g3 : Below x3.heap.size x3 (x3.alloc (.cells Z6.toArray 25)) := (Below.refl _ _).alloc (Nat.le_refl _) _
    clear HC1
    go_wp2_with (first
      | (with_reducible refine (?_ : wpList _ _ _ (Oper.mk _ (Op.store 25 (.tmp 4) _) _ _ _ _ :: _) _ _); refine wpList_store_row rfl 25 (.tmp 4) (.tmp 17) rfl x3.heap.size Z6.toArray rfl rfl 25 Z6.toArray (row_heap q3) hi6 rfl (by decide) ?_; replace q3 := q3.row Z6; replace g3 := below_row (g := x3.heap.size) g3 (Nat.le_refl _) Z6.toArray; generalize World.setRow (x3.alloc _) _ _ = W3 at *)
      | (go_at_call 17; fail))
    replace I1 := Lib.hid ((I1.out.below z3).below g3)
    replace b1 := b1.trans ((z3.trans (g3.mono z3.size)).mono b1.size)
    have Q3 := Lib.hid q3
    clear z3 g3 q3
    refine (HC2.out _ _ _ I1.out).mono ?_
    rintro e x4 ⟨rfl, z4⟩
    replace I1 := Lib.hid (I1.out.below z4)
    replace Q3 := Lib.hid (Q3.out.below z4)
    replace b1 := b1.trans (z4.mono b1.size)
    clear HC2 z4
    go_wp2_with (go_at_call 18; fail)
    refine (HC3.out _ _ _ I1.out).mono ?_
    rintro e x5 ⟨rfl, z5⟩
    replace I1 := Lib.hid (I1.out.below z5)
    replace Q3 := Lib.hid (Q3.out.below z5)
    replace b1 := b1.trans (z5.mono b1.size)
    clear HC3 z5
    go_wp2_with (go_at_call 19; fail)
    refine (HC4.out _ _ _ I1.out).mono ?_
    rintro e x6 ⟨rfl, z6⟩
    replace I1 := Lib.hid (I1.out.below z6)
    replace Q3 := Lib.hid (Q3.out.below z6)
    replace b1 := b1.trans (z6.mono b1.size)
    clear HC4 z6
    go_wp2_with (go_at_call 20; fail)
    refine (HC0.out _ _ _ I1.out).mono ?_
    rintro e x7 ⟨rfl, z7⟩
    replace Q3 := Q3.out.below z7
    replace b1 := b1.trans (z7.mono b1.size)
    clear HC0 z7 I1
    obtain ⟨d0, d1, d2, d3, d4, d5⟩ := cells6' Q3
    have E25 := eq25 0 0 0 0 0 0
    go_wp2_with (go_at_call 21; fail)
    refine (awake_any _).mono ?_
    rintro e y3 ⟨rfl, b16⟩
    replace b1 := b1.trans (b16.mono b1.size)
    clear b16 d0 d1 d2 d3 d4 d5 Q3 E25
    go_wp2
    go_ret
    exact ⟨rfl, b1⟩
  · have ho := okO_iff.1 hok
    have HYL : Hid ((invL O).length = O.length) := Lib.hid (invL_len O)
    have HTL : Hid ((tabL O).length = O.length) := Lib.hid (tabL_len O)
    have hO12 := ho.le
    have HC0 := Lib.hid (fun A c w hw => refOrder_any A c O w (by omega) hw)
    rw [hok] at HC0
    have HC1 := fun A c w hw => Numbers_yes A c O w ho hw
    have HC2 := fun A c w hw => Inverse_yes A c O w ho hw
    have HC3 := Lib.hid (fun A c w hw => Table_yes A c O w ho hw)
    have HC4 := Lib.hid (fun A c w hw => Index_yes A c O w ho hw)
    have HC5 := fun A c w hw => refNumbers_any A c O w ho hw
    have HC6 := Lib.hid (fun A c w hw => refInverse_any A c O w ho hw)
    have HC7 := Lib.hid (fun A c w hw => refTable_any A c O w (by omega) hw)
    have HC8 := Lib.hid (fun A c w hw => refIndex_any A c O w ho hw)
    rw [HYL.out] at HC2
    obtain ⟨s1, s2, s3, s4, s5, s6, N1⟩ : ∃ s1 s2 s3 s4 s5 s6, nmL O = [s1, s2, s3, s4, s5, s6] := ⟨_, _, _, _, _, _, rfl⟩
    rw [N1] at HC1 HC5
    replace HC1 := Lib.hid HC1
    replace HC2 := Lib.hid HC2
    replace HC5 : Hid (∀ A c w, IntsAt w A O → Calls Try.prog 22 #[.slice A O.length c] w fun e w' => e = .returned (.agg #[.int .i64 s1, .int .i64 s2, .int .i64 s3, .int .i64 s4, .int .i64 s5, .int .i64 s6]) ∧ Below w.heap.size w w') := Lib.hid HC5
    clear N1 hok ho
    generalize invL O = Y at *
    generalize plN (tabN O) O.length O.length = ix at *
    generalize tabL O = T at *
    have hi6 : (Try.prog.info? 25).map (·.size) = some (iv [s1, s2, s3, s4, s5, s6]).toArray.size := info25
    go_enter Try.func3, Try.ntmps3
    go_wp2_with (go_at_call 15; fail)
    refine HT.out.mono ?_
    rintro e w1 ⟨v1, n1, rfl, o1, b1⟩
    obtain ⟨A1, c1, rfl, hn0, -, i1⟩ := own_intsI o1
    subst hn0
    have I1 := Lib.hid i1
    clear HT o1 i1
    go_wp2_with (go_at_call 16; fail)
    refine (HC1.out _ _ _ I1.out).mono ?_
    rintro e x3 ⟨rfl, z3⟩
    have q3 : Row (x3.alloc (.cells Z6.toArray 25)) x3.heap.size 25 Z6 := row_new rfl
    have g3 : Below x3.heap.size x3 (x3.alloc (.cells Z6.toArray 25)) := (Below.refl _ _).alloc (Nat.le_refl _) _
    clear HC1
    go_wp2_with (first
      | (with_reducible refine (?_ : wpList _ _ _ (Oper.mk _ (Op.store 25 (.tmp 4) _) _ _ _ _ :: _) _ _); refine wpList_store_row rfl 25 (.tmp 4) (.tmp 17) rfl x3.heap.size (iv [s1, s2, s3, s4, s5, s6]).toArray rfl rfl 25 Z6.toArray (row_heap q3) hi6 rfl (iv_all _) ?_; replace q3 := q3.row (iv [s1, s2, s3, s4, s5, s6]); replace g3 := below_row (g := x3.heap.size) g3 (Nat.le_refl _) (iv [s1, s2, s3, s4, s5, s6]).toArray; generalize World.setRow (x3.alloc _) _ _ = W3 at *)
      | (go_at_call 17; fail))
    replace I1 := Lib.hid ((I1.out.below z3).below g3)
    replace b1 := b1.trans ((z3.trans (g3.mono z3.size)).mono b1.size)
    have Q3 := Lib.hid q3
    clear z3 g3 q3
    refine (HC2.out _ _ _ I1.out).mono ?_
    rintro e x4 ⟨A4, c4, rfl, o4, z4⟩
    obtain ⟨A4', c4', e4, -, -, i4⟩ := own_intsI o4
    rw [HYL.out] at e4
    injection e4 with e41 e42 e43
    subst e41 e43
    have I4 := Lib.hid i4
    replace I1 := Lib.hid (I1.out.below z4)
    replace Q3 := Lib.hid (Q3.out.below z4)
    replace b1 := b1.trans (z4.mono b1.size)
    clear HC2 z4 o4 i4 e42
    go_wp2_with (go_at_call 18; fail)
    refine (HC3.out _ _ _ I1.out).mono ?_
    rintro e x5 ⟨A5, c5, rfl, o5, z5⟩
    obtain ⟨A5', c5', e5, -, -, i5⟩ := own_intsI o5
    rw [HTL.out] at e5
    injection e5 with e51 e52 e53
    subst e51 e53
    have I5 := Lib.hid i5
    replace I1 := Lib.hid (I1.out.below z5)
    replace I4 := Lib.hid (I4.out.below z5)
    replace Q3 := Lib.hid (Q3.out.below z5)
    replace b1 := b1.trans (z5.mono b1.size)
    clear HC3 z5 o5 i5 e52
    go_wp2_with (go_at_call 19; fail)
    refine (HC4.out _ _ _ I1.out).mono ?_
    rintro e x6 ⟨rfl, z6⟩
    replace I1 := Lib.hid (I1.out.below z6)
    replace I4 := Lib.hid (I4.out.below z6)
    replace I5 := Lib.hid (I5.out.below z6)
    replace Q3 := Lib.hid (Q3.out.below z6)
    replace b1 := b1.trans (z6.mono b1.size)
    clear HC4 z6
    go_wp2_with (go_at_call 20; fail)
    refine (HC0.out _ _ _ I1.out).mono ?_
    rintro e x7 ⟨rfl, z7⟩
    replace I1 := Lib.hid (I1.out.below z7)
    replace I4 := Lib.hid (I4.out.below z7)
    replace I5 := Lib.hid (I5.out.below z7)
    replace Q3 := Q3.out.below z7
    replace b1 := b1.trans (z7.mono b1.size)
    clear HC0 z7
    have HS6 : Hid (∀ V : World, Below x7.heap.size x7 V → V.cell? ⟨x3.heap.size, 0, none⟩ = some (.int .i64 s1) ∧ V.cell? ⟨x3.heap.size, 1, none⟩ = some (.int .i64 s2) ∧ V.cell? ⟨x3.heap.size, 2, none⟩ = some (.int .i64 s3) ∧ V.cell? ⟨x3.heap.size, 3, none⟩ = some (.int .i64 s4) ∧ V.cell? ⟨x3.heap.size, 4, none⟩ = some (.int .i64 s5) ∧ V.cell? ⟨x3.heap.size, 5, none⟩ = some (.int .i64 s6)) := Lib.hid (fun V h => cells6' (Q3.below h))
    have HI1 := Lib.hid (fun (V : World) (h : Below x7.heap.size x7 V) => I1.out.below h)
    have HI4 := Lib.hid (fun (V : World) (h : Below x7.heap.size x7 V) => I4.out.below h)
    have HI5 := Lib.hid (fun (V : World) (h : Below x7.heap.size x7 V) => I5.out.below h)
    have E25 := eq25 s1 s2 s3 s4 s5 s6
    have HX1 := Lib.hid (fun A9 c9 w h1 h2 => ints_yes A4 A9 c4 c9 Y O.length w HYL.out (by omega) h1 h2)
    have HX2 := Lib.hid (fun A9 c9 w h1 h2 => ints_yes A5 A9 c5 c9 T O.length w HTL.out (by omega) h1 h2)
    have y7 : Below x7.heap.size x7 x7.drew := (Below.refl _ _).drew
    have D0 := HS6.out _ y7
    clear Q3 I1 I4 I5
    obtain ⟨d0, d1, d2, d3, d4, d5⟩ := D0
    go_wp2
    go_region_held (fun V => V.cell? ⟨x3.heap.size, 0, none⟩ = some (.int .i64 s1) ∧ V.cell? ⟨x3.heap.size, 1, none⟩ = some (.int .i64 s2) ∧ V.cell? ⟨x3.heap.size, 2, none⟩ = some (.int .i64 s3) ∧ V.cell? ⟨x3.heap.size, 3, none⟩ = some (.int .i64 s4) ∧ V.cell? ⟨x3.heap.size, 4, none⟩ = some (.int .i64 s5) ∧ V.cell? ⟨x3.heap.size, 5, none⟩ = some (.int .i64 s6)) (refine ⟨?_, ?_, ?_, ?_, ?_, ?_⟩ <;> assumption)
      (first
      | (go_at_call 22; with_reducible refine (HC5.out A1 c1 _ (HI1.out _ y7)).mono ?_; rintro e x8 ⟨rfl, z8⟩; have y8 := y7.trans (z8.mono y7.size); obtain ⟨d0, d1, d2, d3, d4, d5⟩ := HS6.out _ y8)
      | (go_at_call 24; with_reducible refine (HC6.out A1 c1 _ (HI1.out _ y8)).mono ?_; rintro e x9 ⟨v9, rfl, o9, z9⟩; obtain ⟨A9, c9, e9, -, -, i9⟩ := own_intsI o9; rw [HYL.out] at e9; subst e9; have I9 := Lib.hid i9; have y9 := y8.trans (z9.mono y8.size); obtain ⟨d0, d1, d2, d3, d4, d5⟩ := HS6.out _ y9)
      | (go_at_call 25; with_reducible refine (HC7.out A1 c1 _ (HI1.out _ y10)).mono ?_; rintro e x11 ⟨v11, rfl, o11, z11⟩; obtain ⟨A11, c11, e11, -, -, i11⟩ := own_intsI o11; rw [HTL.out] at e11; subst e11; have I11 := Lib.hid i11; have y11 := y10.trans (z11.mono y10.size); obtain ⟨d0, d1, d2, d3, d4, d5⟩ := HS6.out _ y11)
      | (go_at_call 23; with_reducible refine (HX1.out A9 c9 _ (HI4.out _ y9) I9.out).mono ?_; rintro e y1 ⟨rfl, n1, rfl⟩; have y10 := y9.trans (below_drewN n1); obtain ⟨d0, d1, d2, d3, d4, d5⟩ := HS6.out _ y10)
      | (go_at_call 23; with_reducible refine (HX2.out A11 c11 _ (HI5.out _ y11) I11.out).mono ?_; rintro e y2 ⟨rfl, n2, rfl⟩; have y12 := y11.trans (below_drewN n2); obtain ⟨d0, d1, d2, d3, d4, d5⟩ := HS6.out _ y12)
      | (go_at_call 26; with_reducible refine (HC8.out A1 c1 _ (HI1.out _ y12)).mono ?_; rintro e x13 ⟨rfl, z13⟩; have y13 := y12.trans (z13.mono y12.size); obtain ⟨d0, d1, d2, d3, d4, d5⟩ := HS6.out _ y13)
      | (go_at_call 21; with_reducible refine (awake_any _).mono ?_; rintro e x14 ⟨rfl, z14⟩; have y14 := y13.trans (z14.mono y13.size); obtain ⟨d0, d1, d2, d3, d4, d5⟩ := HS6.out _ y14))
    clear d0 d1 d2 d3 d4 d5 HX1 HX2 HS6 HI1 HI4 HI5 E25
    go_wp2_with fail
    go_ret
    exact ⟨rfl, b1.trans (y14.mono b1.size)⟩
end Go.Proofs.Ytheblebfeinjjaa
/- OrderNumbers returns true for every input: on an order the six numbers, the inverse, the table and the index answer as a plain reading of their definitions; elsewhere zeros with Bad. No condition. -/
namespace Go.Proofs.Ytheblebfeinjjaa
open Go.ChangeShapes Go.WideShapes Go.ChangeAt Go.RowKit
set_option maxRecDepth 100000
theorem orderNumbers_lifted (os : Os) (started : os.Started) (H : Type) (enc : TypeId × Value → H) :
    ReturnsInHanded {} Try.checked os 3 .any (Rows.orderNumbersSpec.pre6 enc Try.prog Try.f3 Rows.orderNumbersRow.domain false) (Rows.orderNumbersSpec.post enc Try.prog Try.f3 false true false false) := by
  refine returnsInHanded_of_change (C := Try.checked) Try.own started (by kernel_rfl) Try.func3
    (ChangeSpec.witness6 (enc := enc) (C := Try.checked) false ⟨#[], #[.slice none 0 0], []⟩ 8 (by kernel_rfl) (by kernel_rfl) (by kernel_rfl) (by kernel_rfl)) ?_
  intro W base args ds gs before hval0 hW hcnd _
  have hval : ∀ (j : Nat) t v, Try.f3.params[j]? = some t → args[j]? = some v → Value.okWide Try.prog W .any base t v := hval0
  have hW' := hW
  obtain ⟨p, q, hA0, hV, rfl, hfz, hnd⟩ := hW
  have hA : DataW.TrodAll enc Try.prog W 0 (fun _ => true) true Try.f3.params.toList args.toList ds p := hA0
  rw [Try.params3] at hA hval
  obtain ⟨v0, d0, rfl, rfl, h0⟩ := trodAll_one hA
  obtain ⟨rfl, rfl⟩ := trodVars_none hV
  obtain ⟨A0, c0, xs0, rfl, hx0, hc0, ha0⟩ := open_list Try.underlying22 (hval 0 22 v0 rfl rfl) h0
  refine (OrderNumbers_any A0 c0 xs0 W hx0 hc0 ha0).mono fun e W' ⟨he, hg⟩ => ?_
  subst he
  exact ⟨_, rfl, law_post Try.laidOut Try.underlying4 rfl rfl (by rw [Try.params3]; exact of_decide_eq_true (by kernel_rfl)) hW' rfl rfl rfl hg⟩
theorem orderNumbers_holds : Rows.OrderNumbersSaid :=
  OpenClaim.holds_of_wide 3 Try.f3 rfl rfl rfl rfl rfl rfl rfl ⟨rfl, rfl, rfl, rfl, rfl⟩ rfl rfl rfl rfl rfl (by kernel_rfl) Try.func3 (by kernel_rfl)
    (of_decide_eq_true (by kernel_rfl)) (by unfold Func.isWrapper; first | (rw [if_pos (by decide +kernel)]; kernel_rfl) | (rw [if_neg (by decide +kernel)]; exact ⟨rfl, rfl⟩))
    (fun os started H enc _ => orderNumbers_lifted os started H enc)
#print axioms orderNumbers_holds
end Go.Proofs.Ytheblebfeinjjaa
