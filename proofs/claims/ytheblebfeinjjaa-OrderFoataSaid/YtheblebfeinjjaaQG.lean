/- OrderFoata, walked. -/
import Derived.Test.YtheblebfeinjjaaQE
import Derived.Test.YtheblebfeinjjaaQB
import Derived.Test.YtheblebfeinjjaaQF
import Derived.Test.YtheblebfeinjjaaPE
namespace Go.Proofs.Ytheblebfeinjjaa
open Go.RowKit
set_option maxHeartbeats 1000000
set_option maxRecDepth 100000
theorem OrderFoata_any (A : Option Addr) (c : Nat) (a : List Int) (w : World) (hx : a.length ≤ c) (hc : c ≤ maxLen) (ha : IntsAt w A a) :
    Calls Try.prog 7 #[.slice A a.length c] w fun e w' => e = .returned (.bool true) ∧ Below w.heap.size w w' := by
  have HT := Lib.hid (tame_any A c a w hx hc ha)
  have HO : Hid (IsO (tmL a (min a.length 12))) := Lib.hid (tmL_iso a (by omega))
  clear ha hx hc
  generalize tmL a (min a.length 12) = O at *
  generalize min a.length 12 = n0 at *
  go_enter Try.func7, Try.ntmps7
  go_wp2_with (go_at_call 46; fail)
  refine HT.out.mono ?_
  rintro e w1 ⟨v1, rfl, o1, b1⟩
  obtain ⟨A1, c1, rfl, hn0, -, i1⟩ := own_intsI o1
  subst hn0
  have I1 := Lib.hid i1
  clear HT o1 i1
  have hO12 := HO.out.le
  -- what is known of the orders
  have HSL : Hid ((sec O).length = O.length) := Lib.hid (sec_len O)
  have HXL : Hid ((invL O).length = O.length) := Lib.hid (invL_len O)
  have HYL : Hid ((invL (sec O)).length = O.length) := Lib.hid (by rw [invL_len, sec_len])
  have HFL : Hid ((fst' O).length = O.length) := Lib.hid (fstN_len O _)
  have HC2 := fun A c w hw => Second_yes A c O w HO.out hw
  have HC3 := fun A c w hw => Numbers_yes A c O w HO.out hw
  have HC4 := fun A c w hw => Numbers_yes A c (sec O) w HO.out.sec hw
  have HC5 := fun A c w hw => Inverse_yes A c O w HO.out hw
  have HC6 := fun A c w hw => Inverse_yes A c (sec O) w HO.out.sec hw
  have HC7 := fun A c w hw => First_yes A c (sec O) w HO.out.sec hw
  have HC8 := fun A c w hw => First_yes A c O w HO.out hw
  have HC9 := fun A c w hw => Second_yes A c (fst' O) w HO.out.fst' hw
  have HD1 := fun A c w hw => descents_pos A c (invL O) w (by rw [HXL.out]; omega) hw
  have HD2 := fun A c w hw => descents_pos A c (invL (sec O)) w (by rw [HYL.out]; omega) hw
  rw [HSL.out] at HC2 HC4 HC6 HC7
  rw [fst_sec] at HC7
  rw [sec_fst HO.out, HFL.out] at HC9
  rw [HFL.out] at HC8
  rw [HXL.out] at HC5 HD1
  rw [HYL.out] at HC6 HD2
  rw [show desN (invL (sec O)) O.length = desN (invL O) O.length from desN_ext (fun i hi => sec_desc HO.out i hi)] at HD2
  have HDL := Lib.hid (desN_len (invL O) O.length)
  have HN1 : ∃ s1 s2 s3 s4 s5 s6, nmL O = [s1, s2, s3, s4, s5, s6] ∧ ∃ u2 u3 u4 u5 u6, nmL (sec O) = [s2, u2, u3, u4, u5, u6] := ⟨_, _, _, _, _, _, rfl, _, _, _, _, _, by unfold nmL; rw [HSL.out, sec_inv O]⟩
  obtain ⟨s1, s2, s3, s4, s5, s6, N1, u2, u3, u4, u5, u6, N2⟩ := HN1
  rw [N1] at HC3
  rw [N2] at HC4
  have HLS : Hid (∀ (k : Nat), k + 1 = O.length → geti (sec O) k = geti O k) := Lib.hid (fun k hk => by
    have := sec_last (l := O) (by omega)
    rwa [show O.length - 1 = k by omega] at this)
  replace HC2 := Lib.hid HC2
  replace HC3 := Lib.hid HC3
  replace HC4 := Lib.hid HC4
  replace HC5 := Lib.hid HC5
  replace HC6 := Lib.hid HC6
  replace HC7 := Lib.hid HC7
  replace HC8 := Lib.hid HC8
  replace HC9 := Lib.hid HC9
  replace HD1 := Lib.hid HD1
  replace HD2 := Lib.hid HD2
  clear N1 N2 HO
  generalize desN (invL O) O.length = D at *
  generalize invL (sec O) = Y at *
  generalize invL O = X at *
  generalize sec O = S at *
  generalize fst' O = F at *
  have hi1 : (Try.prog.info? 25).map (·.size) = some (iv [s1, s2, s3, s4, s5, s6]).toArray.size := info25
  have hi2 : (Try.prog.info? 25).map (·.size) = some (iv [s2, u2, u3, u4, u5, u6]).toArray.size := info25
  go_wp2_with (go_at_call 29; fail)
  refine (HC2.out _ _ _ I1.out).mono ?_
  rintro e w2 ⟨A2, c2, rfl, o2, b2⟩
  obtain ⟨A2', c2', e2, -, -, i2⟩ := own_intsI o2
  injection e2 with e21 e22 e23
  subst e21 e23
  have I2 := Lib.hid i2
  replace I1 := Lib.hid (I1.out.below b2)
  replace b2 := b1.trans (b2.mono b1.size)
  clear HC2 o2 i2 e22 b1
  go_wp2_with (go_at_call 16; fail)
  refine (HC3.out _ _ _ I1.out).mono ?_
  rintro e w4 ⟨rfl, b4⟩
  have q1 : Row (w4.alloc (.cells Z6.toArray 25)) w4.heap.size 25 Z6 := row_new rfl
  have g4 : Below w4.heap.size w4 (w4.alloc (.cells Z6.toArray 25)) := (Below.refl _ _).alloc (Nat.le_refl _) _
  clear HC3
  go_wp2_with (first
    | (with_reducible refine (?_ : wpList _ _ _ (Oper.mk _ (Op.store 25 (.tmp 6) _) _ _ _ _ :: _) _ _); refine wpList_store_row rfl 25 (.tmp 6) (.tmp 30) rfl w4.heap.size (iv [s1, s2, s3, s4, s5, s6]).toArray rfl rfl 25 Z6.toArray (row_heap q1) hi1 rfl (iv_all _) ?_; replace q1 := q1.row (iv [s1, s2, s3, s4, s5, s6]); replace g4 := below_row (g := w4.heap.size) g4 (Nat.le_refl _) (iv [s1, s2, s3, s4, s5, s6]).toArray; generalize World.setRow (w4.alloc _) _ _ = W at *)
    | (go_at_call 16; fail))
  replace I1 := Lib.hid ((I1.out.below b4).below g4)
  replace I2 := Lib.hid ((I2.out.below b4).below g4)
  replace b4 := b2.trans ((b4.trans (g4.mono b4.size)).mono b2.size)
  have Q1 := Lib.hid q1
  clear b2 q1 g4
  refine (HC4.out _ _ _ I2.out).mono ?_
  rintro e w5 ⟨rfl, b5⟩
  have q2 : Row (w5.alloc (.cells Z6.toArray 25)) w5.heap.size 25 Z6 := row_new rfl
  have g5 : Below w5.heap.size w5 (w5.alloc (.cells Z6.toArray 25)) := (Below.refl _ _).alloc (Nat.le_refl _) _
  have hz5 := b5.size
  clear HC4
  go_wp2_with (first
    | (with_reducible refine (?_ : wpList _ _ _ (Oper.mk _ (Op.store 25 (.tmp 8) _) _ _ _ _ :: _) _ _); refine wpList_store_row rfl 25 (.tmp 8) (.tmp 35) rfl w5.heap.size (iv [s2, u2, u3, u4, u5, u6]).toArray rfl rfl 25 Z6.toArray (row_heap q2) hi2 rfl (iv_all _) ?_; replace q2 := q2.row (iv [s2, u2, u3, u4, u5, u6]); replace g5 := below_row (g := w5.heap.size) g5 (Nat.le_refl _) (iv [s2, u2, u3, u4, u5, u6]).toArray; generalize World.setRow (w5.alloc _) _ _ = W5 at *)
    | (go_at_call 17; fail))
  replace I1 := Lib.hid ((I1.out.below b5).below g5)
  replace I2 := Lib.hid ((I2.out.below b5).below g5)
  have z5 : Below W.heap.size W W5 := b5.trans (g5.mono b5.size)
  replace b4 := b4.trans (z5.mono b4.size)
  replace Q1 := Lib.hid (Q1.out.below z5)
  have Q2 := Lib.hid q2
  clear b5 g5 z5 hz5 q2 hi1 hi2
  refine (HC5.out _ _ _ I1.out).mono ?_
  rintro e w6 ⟨A5, c5, rfl, o5, b6⟩
  obtain ⟨A5', c5', e5, -, -, i5⟩ := own_intsI o5
  rw [HXL.out] at e5
  injection e5 with e51 e52 e53
  subst e51 e53
  have I5 := Lib.hid i5
  replace I1 := Lib.hid (I1.out.below b6)
  replace I2 := Lib.hid (I2.out.below b6)
  replace Q1 := Lib.hid (Q1.out.below b6)
  replace Q2 := Lib.hid (Q2.out.below b6)
  replace b4 := b4.trans (b6.mono b4.size)
  clear HC5 o5 i5 e52 b6
  go_wp2_with (go_at_call 17; fail)
  refine (HC6.out _ _ _ I2.out).mono ?_
  rintro e w7 ⟨A6, c6, rfl, o6, b7⟩
  obtain ⟨A6', c6', e6, -, -, i6⟩ := own_intsI o6
  rw [HYL.out] at e6
  injection e6 with e61 e62 e63
  subst e61 e63
  have I6 := Lib.hid i6
  replace I1 := Lib.hid (I1.out.below b7)
  replace I2 := Lib.hid (I2.out.below b7)
  replace I5 := Lib.hid (I5.out.below b7)
  replace Q1 := Lib.hid (Q1.out.below b7)
  replace Q2 := Lib.hid (Q2.out.below b7)
  replace b4 := b4.trans (b7.mono b4.size)
  clear HC6 o6 i6 e62 b7
  go_wp2_with (go_at_call 30; fail)
  refine (HC7.out _ _ _ I2.out).mono ?_
  rintro e w8 ⟨A7, c7, rfl, o7, b8⟩
  obtain ⟨A7', c7', e7, -, -, i7⟩ := own_intsI o7
  injection e7 with e71 e72 e73
  subst e71 e73
  have I7 := Lib.hid i7
  replace I1 := Lib.hid (I1.out.below b8)
  replace I2 := Lib.hid (I2.out.below b8)
  replace I5 := Lib.hid (I5.out.below b8)
  replace I6 := Lib.hid (I6.out.below b8)
  replace Q1 := Lib.hid (Q1.out.below b8)
  replace Q2 := Lib.hid (Q2.out.below b8)
  replace b4 := b4.trans (b8.mono b4.size)
  clear HC7 o7 i7 e72 b8
  go_wp2_with (go_at_call 30; fail)
  refine (HC8.out _ _ _ I1.out).mono ?_
  rintro e w9 ⟨A8, c8, rfl, o8, b9⟩
  obtain ⟨A8', c8', e8, -, -, i8⟩ := own_intsI o8
  rw [HFL.out] at e8
  injection e8 with e81 e82 e83
  subst e81 e83
  have I8 := Lib.hid i8
  replace I1 := Lib.hid (I1.out.below b9)
  replace I2 := Lib.hid (I2.out.below b9)
  replace I5 := Lib.hid (I5.out.below b9)
  replace I6 := Lib.hid (I6.out.below b9)
  replace I7 := Lib.hid (I7.out.below b9)
  replace Q1 := Lib.hid (Q1.out.below b9)
  replace Q2 := Lib.hid (Q2.out.below b9)
  replace b4 := b4.trans (b9.mono b4.size)
  clear HC8 o8 i8 e82 b9
  go_wp2_with (go_at_call 29; fail)
  refine (HC9.out _ _ _ I8.out).mono ?_
  rintro e w10 ⟨A9, c9, rfl, o9, b10⟩
  obtain ⟨A9', c9', e9, -, -, i9⟩ := own_intsI o9
  injection e9 with e91 e92 e93
  subst e91 e93
  have I9 := Lib.hid i9
  replace I1 := Lib.hid (I1.out.below b10)
  replace I2 := Lib.hid (I2.out.below b10)
  replace I5 := Lib.hid (I5.out.below b10)
  replace I6 := Lib.hid (I6.out.below b10)
  replace I7 := Lib.hid (I7.out.below b10)
  replace Q1 := Lib.hid (Q1.out.below b10)
  replace Q2 := Lib.hid (Q2.out.below b10)
  replace b4 := b4.trans (b10.mono b4.size)
  clear HC9 o9 i9 e92 b10 I8
  have d1 : w10.cell? ⟨w4.heap.size, 1, none⟩ = some (.int .i64 s2) := ivR Q1.out (i := 1) (by simp)
  have d2 : w10.cell? ⟨w5.heap.size, 0, none⟩ = some (.int .i64 s2) := ivR Q2.out (i := 0) (by simp)
  clear Q1 Q2
  go_wp2_with (go_at_call 47; fail)
  have hxl := HXL.out
  have hyl := HYL.out
  have HJ1 := HD1.out A5 c5 w10 I5.out
  refine HJ1.mono ?_
  rintro e w11 ⟨v11, rfl, o11, b11⟩
  obtain ⟨A11, c11, rfl, -, -, i11⟩ := own_intsI o11
  have I11 := Lib.hid i11
  replace I1 := Lib.hid (I1.out.below b11)
  replace I2 := Lib.hid (I2.out.below b11)
  replace I6 := Lib.hid (I6.out.below b11)
  replace I7 := Lib.hid (I7.out.below b11)
  replace I9 := Lib.hid (I9.out.below b11)
  replace b4 := b4.trans (b11.mono b4.size)
  clear d1 d2 HD1 HJ1 o11 i11 b11 I5
  go_wp2_with (go_at_call 47; fail)
  have HJ2 := HD2.out A6 c6 w11 I6.out
  refine HJ2.mono ?_
  rintro e w12 ⟨v12, rfl, o12, b12⟩
  obtain ⟨A12, c12, rfl, -, -, i12⟩ := own_intsI o12
  have I12 := Lib.hid i12
  replace I1 := Lib.hid (I1.out.below b12)
  replace I2 := Lib.hid (I2.out.below b12)
  replace I7 := Lib.hid (I7.out.below b12)
  replace I9 := Lib.hid (I9.out.below b12)
  replace I11 := Lib.hid (I11.out.below b12)
  replace b4 := b4.trans (b12.mono b4.size)
  clear HD2 HJ2 o12 i12 b12 I6 hxl hyl
  go_wp2_with (go_at_call 23; fail)
  refine (ints_yes A11 A12 c11 c12 D D.length w12 rfl (by have := HDL.out; omega) I11.out I12.out).mono ?_
  rintro e w13 ⟨rfl, n13, rfl⟩
  replace I1 := Lib.hid (I1.out.drewN n13)
  replace I2 := Lib.hid (I2.out.drewN n13)
  replace I7 := Lib.hid (I7.out.drewN n13)
  replace I9 := Lib.hid (I9.out.drewN n13)
  replace b4 := b4.trans (below_drewN n13)
  clear I11 I12
  generalize w12.drewN n13 = W13 at *
  go_wp2_with (go_at_call 23; fail)
  refine (ints_yes A7 A1 c7 c1 O O.length W13 rfl (by omega) I7.out I1.out).mono ?_
  rintro e w14 ⟨rfl, n14, rfl⟩
  replace I1 := Lib.hid (I1.out.drewN n14)
  replace I2 := Lib.hid (I2.out.drewN n14)
  replace I9 := Lib.hid (I9.out.drewN n14)
  replace b4 := b4.trans (below_drewN n14)
  clear I7
  generalize W13.drewN n14 = W14 at *
  go_wp2_with (go_at_call 23; fail)
  refine (ints_yes A9 A1 c9 c1 O O.length W14 rfl (by omega) I9.out I1.out).mono ?_
  rintro e w15 ⟨rfl, n15, rfl⟩
  replace I1 := Lib.hid (I1.out.drewN n15)
  replace I2 := Lib.hid (I2.out.drewN n15)
  replace b4 := b4.trans (below_drewN n15)
  clear I9
  generalize W14.drewN n15 = W15 at *
  by_cases h0 : O.length = 0
  · have g0 : ((O.length : Int) == 0) = true := by rw [beq_iff_eq]; omega
    clear I1 I2 h0
    go_wp2
    refine wp_region_quiet_tail 19 (by kernel_rfl) (by kernel_rfl) ?_
    simp only [List.take_succ_cons, List.take_zero, List.drop_succ_cons, List.drop_zero]
    repeat go_big_quiet_step ((fail))
    refine wpQuiet_nil ?_
    rintro _ ⟨nq, rfl⟩
    replace b4 := b4.trans (below_drewN nq)
    generalize W15.drewN nq = W16 at *
    go_wp2_with (go_at_call 21; refine (awake_any _).mono ?_; rintro e w16 ⟨rfl, b16⟩; replace b4 := b4.trans (b16.mono b4.size); clear b16)
    go_ret
    exact ⟨rfl, b4⟩
  · have g0 : ((O.length : Int) == 0) = false := by rw [beq_eq_false_iff_ne]; omega
    obtain ⟨k, hk⟩ : ∃ k, k + 1 = O.length := ⟨O.length - 1, by omega⟩
    have hki : (O.length : Int) - 1 = (k : Int) := by omega
    obtain ⟨p1, q1, rfl, -, f1⟩ := I1.out (by omega)
    obtain ⟨p2, q2, rfl, -, f2⟩ := I2.out (by rw [HSL.out]; omega)
    have h1 := f1 k (by omega)
    have h2 := f2 k (by rw [HSL.out]; omega)
    rw [HLS.out k hk] at h2
    have hkl : k < O.length := by omega
    clear f1 f2 h0 hk I1 I2
    generalize geti O k = v at *
    go_wp2
    refine wp_region_quiet_tail 19 (by kernel_rfl) (by kernel_rfl) ?_
    simp only [List.take_succ_cons, List.take_zero, List.drop_succ_cons, List.drop_zero]
    repeat go_big_quiet_step ((fail))
    refine wpQuiet_nil ?_
    rintro _ ⟨nq, rfl⟩
    replace b4 := b4.trans (below_drewN nq)
    clear h1 h2
    generalize W15.drewN nq = W16 at *
    go_wp2_with (go_at_call 21; refine (awake_any _).mono ?_; rintro e w16 ⟨rfl, b16⟩; replace b4 := b4.trans (b16.mono b4.size); clear b16)
    go_ret
    exact ⟨rfl, b4⟩
end Go.Proofs.Ytheblebfeinjjaa
