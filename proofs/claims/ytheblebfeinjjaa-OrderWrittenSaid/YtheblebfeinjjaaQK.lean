/- OrderWritten, walked. -/
import Derived.Test.YtheblebfeinjjaaQJ
import Derived.Test.YtheblebfeinjjaaQB
import Derived.Test.YtheblebfeinjjaaPA
namespace Go.Proofs.Ytheblebfeinjjaa
open Go.RowKit
set_option maxHeartbeats 1000000
set_option maxRecDepth 100000
theorem OrderWritten_any (A : Option Addr) (c : Nat) (a : List Int) (w : World) (hx : a.length ≤ c) (hc : c ≤ maxLen) (ha : IntsAt w A a) :
    Calls Try.prog 8 #[.slice A a.length c] w fun e w' => e = .returned (.bool true) ∧ Below w.heap.size w w' := by
  have HT := Lib.hid (tame_any A c a w hx hc ha)
  have HO : Hid (IsO (tmL a (min a.length 12))) := Lib.hid (tmL_iso a (by omega))
  clear ha hx hc
  generalize tmL a (min a.length 12) = O at *
  generalize min a.length 12 = n0 at *
  go_enter Try.func8, Try.ntmps8
  go_wp2_with (go_at_call 46; fail)
  refine HT.out.mono ?_
  rintro e w1 ⟨v1, rfl, o1, b1⟩
  obtain ⟨A1, c1, rfl, hn0, -, i1⟩ := own_intsI o1
  subst hn0
  have I1 := Lib.hid i1
  clear HT o1 i1
  have hO12 := HO.out.le
  have HSL : Hid ((wr' O).length = O.length) := Lib.hid (wr_len HO.out)
  have HFL : Hid ((cyd O).length = O.length) := Lib.hid (cyd_len O)
  have HYL : Hid ((invL O).length = O.length) := Lib.hid (invL_len O)
  have HC2 := fun A c w hw => Written_yes A c O w HO.out hw
  have HC3 := fun A c w hw => Numbers_yes A c O w HO.out hw
  have HC4 := fun A c w hw => Numbers_yes A c (wr' O) w HO.out.wr hw
  have HC5 := fun A c w hw => Cycled_yes A c (wr' O) w HO.out.wr hw
  have HC6 := fun A c w hw => Cycled_yes A c O w HO.out hw
  have HC7 := fun A c w hw => Written_yes A c (cyd O) w HO.out.cyd hw
  have HC8 := fun A c w hw => Inverse_yes A c O w HO.out hw
  have HC9 := fun A c w hw => Numbers_yes A c (invL O) w HO.out.inv hw
  rw [HSL.out] at HC2 HC4 HC5
  rw [cyd_wr HO.out] at HC5
  rw [wr_cyd HO.out, HFL.out] at HC7
  rw [HFL.out] at HC6
  rw [HYL.out] at HC8 HC9
  have HN1 : ∃ s1 s2 s3 s4 s5 s6, nmL O = [s1, s2, s3, s4, s5, s6] ∧ (∃ u1 u2 u3 u4 u5, nmL (wr' O) = [u1, u2, u3, u4, u5, s5]) ∧ ∃ v1 v2 v3 v4 v6, nmL (invL O) = [v1, v2, v3, v4, s5, v6] := ⟨_, _, _, _, _, _, rfl, ⟨_, _, _, _, _, by unfold nmL; rw [HSL.out, wr_records HO.out]⟩, _, _, _, _, _, by unfold nmL; rw [HYL.out, inv_cycles HO.out]⟩
  obtain ⟨s1, s2, s3, s4, s5, s6, N1, ⟨u1, u2, u3, u4, u5, N2⟩, v1, v2, v3, v4, v6, N3⟩ := HN1
  rw [N1] at HC3
  rw [N2] at HC4
  rw [N3] at HC9
  replace HC2 := Lib.hid HC2
  replace HC3 := Lib.hid HC3
  replace HC4 := Lib.hid HC4
  replace HC5 := Lib.hid HC5
  replace HC6 := Lib.hid HC6
  replace HC7 := Lib.hid HC7
  replace HC8 := Lib.hid HC8
  replace HC9 := Lib.hid HC9
  clear N1 N2 N3 HO
  generalize invL O = Y at *
  generalize wr' O = S at *
  generalize cyd O = F at *
  have hi1 : (Try.prog.info? 25).map (·.size) = some (iv [s1, s2, s3, s4, s5, s6]).toArray.size := info25
  have hi2 : (Try.prog.info? 25).map (·.size) = some (iv [u1, u2, u3, u4, u5, s5]).toArray.size := info25
  have hi3 : (Try.prog.info? 25).map (·.size) = some (iv [v1, v2, v3, v4, s5, v6]).toArray.size := info25
  go_wp2_with (go_at_call 31; fail)
  refine (HC2.out _ _ _ I1.out).mono ?_
  rintro e x2 ⟨A2, c2, rfl, o2, z2⟩
  obtain ⟨A2', c2', e2, -, -, i2⟩ := own_intsI o2
  injection e2 with e21 e22 e23
  subst e21 e23
  have I2 := Lib.hid i2
  replace I1 := Lib.hid (I1.out.below z2)
  replace b1 := b1.trans (z2.mono b1.size)
  clear HC2 o2 i2 e22 z2
  go_wp2_with (go_at_call 16; fail)
  refine (HC3.out _ _ _ I1.out).mono ?_
  rintro e x3 ⟨rfl, z3⟩
  have q3 : Row (x3.alloc (.cells Z6.toArray 25)) x3.heap.size 25 Z6 := row_new rfl
  have g3 : Below x3.heap.size x3 (x3.alloc (.cells Z6.toArray 25)) := (Below.refl _ _).alloc (Nat.le_refl _) _
  clear HC3
  go_wp2_with (first
    | (with_reducible refine (?_ : wpList _ _ _ (Oper.mk _ (Op.store 25 (.tmp 6) _) _ _ _ _ :: _) _ _); refine wpList_store_row rfl 25 (.tmp 6) (.tmp 30) rfl x3.heap.size (iv [s1, s2, s3, s4, s5, s6]).toArray rfl rfl 25 Z6.toArray (row_heap q3) hi1 rfl (iv_all _) ?_; replace q3 := q3.row (iv [s1, s2, s3, s4, s5, s6]); replace g3 := below_row (g := x3.heap.size) g3 (Nat.le_refl _) (iv [s1, s2, s3, s4, s5, s6]).toArray; generalize World.setRow (x3.alloc _) _ _ = W3 at *)
    | (go_at_call 16; fail))
  replace I1 := Lib.hid ((I1.out.below z3).below g3)
  replace I2 := Lib.hid ((I2.out.below z3).below g3)
  replace b1 := b1.trans ((z3.trans (g3.mono z3.size)).mono b1.size)
  have Q3 := Lib.hid q3
  clear z3 g3 q3
  refine (HC4.out _ _ _ I2.out).mono ?_
  rintro e x4 ⟨rfl, z4⟩
  have q4 : Row (x4.alloc (.cells Z6.toArray 25)) x4.heap.size 25 Z6 := row_new rfl
  have g4 : Below x4.heap.size x4 (x4.alloc (.cells Z6.toArray 25)) := (Below.refl _ _).alloc (Nat.le_refl _) _
  clear HC4
  go_wp2_with (first
    | (with_reducible refine (?_ : wpList _ _ _ (Oper.mk _ (Op.store 25 (.tmp 8) _) _ _ _ _ :: _) _ _); refine wpList_store_row rfl 25 (.tmp 8) (.tmp 35) rfl x4.heap.size (iv [u1, u2, u3, u4, u5, s5]).toArray rfl rfl 25 Z6.toArray (row_heap q4) hi2 rfl (iv_all _) ?_; replace q4 := q4.row (iv [u1, u2, u3, u4, u5, s5]); replace g4 := below_row (g := x4.heap.size) g4 (Nat.le_refl _) (iv [u1, u2, u3, u4, u5, s5]).toArray; generalize World.setRow (x4.alloc _) _ _ = W4 at *)
    | (go_at_call 32; fail))
  replace I1 := Lib.hid ((I1.out.below z4).below g4)
  replace I2 := Lib.hid ((I2.out.below z4).below g4)
  replace Q3 := Lib.hid ((Q3.out.below z4).below g4)
  replace b1 := b1.trans ((z4.trans (g4.mono z4.size)).mono b1.size)
  have Q4 := Lib.hid q4
  clear z4 g4 q4
  refine (HC5.out _ _ _ I2.out).mono ?_
  rintro e x5 ⟨A5, c5, rfl, o5, z5⟩
  obtain ⟨A5', c5', e5, -, -, i5⟩ := own_intsI o5
  injection e5 with e51 e52 e53
  subst e51 e53
  have I5 := Lib.hid i5
  replace I1 := Lib.hid (I1.out.below z5)
  replace I2 := Lib.hid (I2.out.below z5)
  replace Q3 := Lib.hid (Q3.out.below z5)
  replace Q4 := Lib.hid (Q4.out.below z5)
  replace b1 := b1.trans (z5.mono b1.size)
  clear HC5 o5 i5 e52 z5
  go_wp2_with (go_at_call 32; fail)
  refine (HC6.out _ _ _ I1.out).mono ?_
  rintro e x6 ⟨A6, c6, rfl, o6, z6⟩
  obtain ⟨A6', c6', e6, -, -, i6⟩ := own_intsI o6
  rw [HFL.out] at e6
  injection e6 with e61 e62 e63
  subst e61 e63
  have I6 := Lib.hid i6
  replace I1 := Lib.hid (I1.out.below z6)
  replace I5 := Lib.hid (I5.out.below z6)
  replace Q3 := Lib.hid (Q3.out.below z6)
  replace Q4 := Lib.hid (Q4.out.below z6)
  replace b1 := b1.trans (z6.mono b1.size)
  clear HC6 o6 i6 e62 z6 I2
  go_wp2_with (go_at_call 31; fail)
  refine (HC7.out _ _ _ I6.out).mono ?_
  rintro e x7 ⟨A7, c7, rfl, o7, z7⟩
  obtain ⟨A7', c7', e7, -, -, i7⟩ := own_intsI o7
  injection e7 with e71 e72 e73
  subst e71 e73
  have I7 := Lib.hid i7
  replace I1 := Lib.hid (I1.out.below z7)
  replace I5 := Lib.hid (I5.out.below z7)
  replace Q3 := Lib.hid (Q3.out.below z7)
  replace Q4 := Lib.hid (Q4.out.below z7)
  replace b1 := b1.trans (z7.mono b1.size)
  clear HC7 o7 i7 e72 z7 I6
  go_wp2_with (go_at_call 17; fail)
  refine (HC8.out _ _ _ I1.out).mono ?_
  rintro e x8 ⟨A8, c8, rfl, o8, z8⟩
  obtain ⟨A8', c8', e8, -, -, i8⟩ := own_intsI o8
  rw [HYL.out] at e8
  injection e8 with e81 e82 e83
  subst e81 e83
  have I8 := Lib.hid i8
  replace I1 := Lib.hid (I1.out.below z8)
  replace I5 := Lib.hid (I5.out.below z8)
  replace I7 := Lib.hid (I7.out.below z8)
  replace Q3 := Lib.hid (Q3.out.below z8)
  replace Q4 := Lib.hid (Q4.out.below z8)
  replace b1 := b1.trans (z8.mono b1.size)
  clear HC8 o8 i8 e82 z8
  go_wp2_with (go_at_call 16; fail)
  have HF3 : Hid (∀ (V : World), Row V x3.heap.size 25 (iv [s1, s2, s3, s4, s5, s6]) → V.cell? ⟨x3.heap.size, 4, none⟩ = some (.int .i64 s5)) := Lib.hid (fun V h => ivR h (i := 4) (by simp))
  have HF4 : Hid (∀ (V : World), Row V x4.heap.size 25 (iv [u1, u2, u3, u4, u5, s5]) → V.cell? ⟨x4.heap.size, 5, none⟩ = some (.int .i64 s5)) := Lib.hid (fun V h => ivR h (i := 5) (by simp))
  refine (HC9.out _ _ _ I8.out).mono ?_
  rintro e x9 ⟨rfl, z9⟩
  have q9 : Row (x9.alloc (.cells Z6.toArray 25)) x9.heap.size 25 Z6 := row_new rfl
  have g9 : Below x9.heap.size x9 (x9.alloc (.cells Z6.toArray 25)) := (Below.refl _ _).alloc (Nat.le_refl _) _
  clear HC9
  go_wp2_with (first
    | (with_reducible refine (?_ : wpList _ _ _ (Oper.mk _ (Op.store 25 (.tmp 18) _) _ _ _ _ :: _) _ _); refine wpList_store_row rfl 25 (.tmp 18) (.tmp 60) rfl x9.heap.size (iv [v1, v2, v3, v4, s5, v6]).toArray rfl rfl 25 Z6.toArray (row_heap q9) hi3 rfl (iv_all _) ?_; replace q9 := q9.row (iv [v1, v2, v3, v4, s5, v6]); replace g9 := below_row (g := x9.heap.size) g9 (Nat.le_refl _) (iv [v1, v2, v3, v4, s5, v6]).toArray; generalize World.setRow (x9.alloc _) _ _ = W9 at *; have d3 := HF3.out W9 ((Q3.out.below z9).below g9); have d4 := HF4.out W9 ((Q4.out.below z9).below g9))
    | (go_at_call 23; fail))
  replace I1 := Lib.hid ((I1.out.below z9).below g9)
  replace I5 := Lib.hid ((I5.out.below z9).below g9)
  replace I7 := Lib.hid ((I7.out.below z9).below g9)
  replace Q3 := Lib.hid ((Q3.out.below z9).below g9)
  replace Q4 := Lib.hid ((Q4.out.below z9).below g9)
  replace b1 := b1.trans ((z9.trans (g9.mono z9.size)).mono b1.size)
  have Q9 := Lib.hid q9
  clear z9 g9 q9 d3 d4
  refine (ints_yes A5 A1 c5 c1 O O.length W9 rfl (by omega) I5.out I1.out).mono ?_
  rintro e y1 ⟨rfl, n1, rfl⟩
  replace I1 := Lib.hid (I1.out.drewN n1)
  replace I7 := Lib.hid (I7.out.drewN n1)
  replace Q3 := Lib.hid (Q3.out.drewN n1)
  replace Q9 := Lib.hid (Q9.out.drewN n1)
  replace b1 := b1.trans (below_drewN n1)
  generalize W9.drewN n1 = W10 at *
  go_wp2_with (go_at_call 23; fail)
  refine (ints_yes A7 A1 c7 c1 O O.length W10 rfl (by omega) I7.out I1.out).mono ?_
  rintro e y2 ⟨rfl, n2, rfl⟩
  have d3 := HF3.out _ (Q3.out.drewN n2)
  have d9 : (W10.drewN n2).cell? ⟨x9.heap.size, 4, none⟩ = some (.int .i64 s5) := ivR (Q9.out.drewN n2) (i := 4) (by simp)
  replace b1 := b1.trans (below_drewN n2)
  clear I1 I7 I5 Q3 Q4 Q9
  generalize W10.drewN n2 = W11 at *
  go_wp2_with (go_at_call 21; refine (awake_any _).mono ?_; rintro e y3 ⟨rfl, b16⟩; replace b1 := b1.trans (b16.mono b1.size); clear b16)
  go_ret
  exact ⟨rfl, b1⟩
end Go.Proofs.Ytheblebfeinjjaa
