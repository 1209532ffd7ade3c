/- OrderInverse, walked. -/
import Derived.Test.YtheblebfeinjjaaPF
import Derived.Test.YtheblebfeinjjaaPA
import Derived.Test.YtheblebfeinjjaaNY
namespace Go.Proofs.Ytheblebfeinjjaa
open Go.RowKit
set_option maxHeartbeats 1000000
set_option maxRecDepth 100000
theorem OrderInverse_any (A : Option Addr) (c : Nat) (a : List Int) (w : World) (hx : a.length ≤ c) (hc : c ≤ maxLen) (ha : IntsAt w A a) :
    Calls Try.prog 9 #[.slice A a.length c] w fun e w' => e = .returned (.bool true) ∧ Below w.heap.size w w' := by
  have HT := Lib.hid (tame_any A c a w hx hc ha)
  have HO : Hid (IsO (tmL a (min a.length 12))) := Lib.hid (tmL_iso a (by omega))
  clear ha hx hc
  generalize tmL a (min a.length 12) = O at *
  generalize min a.length 12 = n0 at *
  go_enter Try.func9, Try.ntmps9
  go_wp2_with (go_at_call 46; fail)
  refine HT.out.mono ?_
  rintro e w1 ⟨v1, rfl, o1, b1⟩
  obtain ⟨A1, c1, rfl, hn0, -, i1⟩ := own_intsI o1
  subst hn0
  have HI1 := Lib.hid (Inverse_yes A1 c1 O w1 HO.out i1)
  have I1 := Lib.hid i1
  clear HT o1 i1
  go_wp2_with (go_at_call 17; fail)
  refine HI1.out.mono ?_
  rintro e w2 ⟨A2, c2, rfl, o2, b2⟩
  obtain ⟨A2', c2', e2, -, -, i2⟩ := own_intsI o2
  injection e2 with e21 e22 e23
  subst e21 e23
  have hX := invL_len O
  have HJ := Inverse_yes A2 c2 (invL O) w2 HO.out.inv i2
  rw [invL_inv HO.out, hX] at HJ
  have HI2 := Lib.hid HJ
  have I2 := Lib.hid i2
  replace I1 := Lib.hid (I1.out.below b2)
  have HN1 : ∃ s1 s2 s3 s4 s5 s6, nmL O = [s1, s2, s3, s4, s5, s6] ∧ ∃ u2 u3 u4 u5 u6, nmL (invL O) = [s1, u2, u3, u4, u5, u6] := ⟨_, _, _, _, _, _, rfl, _, _, _, _, _, by unfold nmL; rw [hX, invL_sum HO.out]⟩
  obtain ⟨s1, s2, s3, s4, s5, s6, N1, u2, u3, u4, u5, u6, N2⟩ := HN1
  have HM1 := Lib.hid (fun w hw => Numbers_yes A1 c1 O w HO.out hw)
  have HM2 := fun w hw => Numbers_yes A2 c2 (invL O) w HO.out.inv hw
  rw [hX] at HM2
  replace HM2 := Lib.hid HM2
  rw [N1] at HM1
  rw [N2] at HM2
  have HG := Lib.hid (fun k (hk : k < O.length) => (⟨HO.out.lo k hk, HO.out.hi k hk, invL_at HO.out hk⟩ : 1 ≤ geti O k ∧ geti O k ≤ O.length ∧ geti (invL O) ((geti O k).toNat - 1) = k + 1))
  have hO12 := HO.out.le
  rw [hX] at *
  have HXL := Lib.hid (invL_len O)
  clear HI1 o2 i2 e22 HJ N1 N2 HO hX
  generalize invL O = X at *
  replace b2 := b1.trans (b2.mono b1.size)
  go_wp2_with (go_at_call 17; fail)
  refine HI2.out.mono ?_
  rintro e w3 ⟨A3, c3, rfl, o3, b3⟩
  obtain ⟨A3', c3', e3, -, -, i3⟩ := own_intsI o3
  injection e3 with e31 e32 e33
  subst e31 e33
  replace I1 := Lib.hid (I1.out.below b3)
  replace I2 := Lib.hid (I2.out.below b3)
  replace b3 := b2.trans (b3.mono b2.size)
  have I3 := Lib.hid i3
  clear HI2 o3 i3 e32 b2
  have hi1 : (Try.prog.info? 25).map (·.size) = some (iv [s1, s2, s3, s4, s5, s6]).toArray.size := info25
  have hi2 : (Try.prog.info? 25).map (·.size) = some (iv [s1, u2, u3, u4, u5, u6]).toArray.size := info25
  go_wp2_with (first
    | (go_at_call 16; refine (HM1.out _ I1.out).mono ?_; rintro e w4 ⟨rfl, b4⟩; have q1 : Row (w4.alloc (.cells Z6.toArray 25)) w4.heap.size 25 Z6 := row_new rfl; have g4 : Below w4.heap.size w4 (w4.alloc (.cells Z6.toArray 25)) := (Below.refl _ _).alloc (Nat.le_refl _) _; clear HM1)
    | (with_reducible refine (?_ : wpList _ _ _ (Oper.mk _ (Op.store 25 (.tmp 8) _) _ _ _ _ :: _) _ _); refine wpList_store_row rfl 25 (.tmp 8) (.tmp 28) rfl w4.heap.size (iv [s1, s2, s3, s4, s5, s6]).toArray rfl rfl 25 Z6.toArray (row_heap q1) hi1 rfl (iv_all _) ?_; replace q1 := q1.row (iv [s1, s2, s3, s4, s5, s6]); replace g4 := below_row (g := w4.heap.size) g4 (Nat.le_refl _) (iv [s1, s2, s3, s4, s5, s6]).toArray; generalize World.setRow (w4.alloc _) _ _ = W at *)
    | (go_at_call 16; fail))
  replace I1 := Lib.hid ((I1.out.below b4).below g4)
  replace I2 := Lib.hid ((I2.out.below b4).below g4)
  replace I3 := Lib.hid ((I3.out.below b4).below g4)
  replace b4 := b3.trans ((b4.trans (g4.mono b4.size)).mono b3.size)
  have hq1 := q1.lt
  have Q1 := Lib.hid q1
  clear b3 q1 g4
  refine (HM2.out _ I2.out).mono ?_
  rintro e w5 ⟨rfl, b5⟩
  have q2 : Row (w5.alloc (.cells Z6.toArray 25)) w5.heap.size 25 Z6 := row_new rfl
  have g5 : Below w5.heap.size w5 (w5.alloc (.cells Z6.toArray 25)) := (Below.refl _ _).alloc (Nat.le_refl _) _
  have hz5 := b5.size
  clear HM2
  go_wp2_with (first
    | (with_reducible refine (?_ : wpList _ _ _ (Oper.mk _ (Op.store 25 (.tmp 10) _) _ _ _ _ :: _) _ _); refine wpList_store_row rfl 25 (.tmp 10) (.tmp 33) rfl w5.heap.size (iv [s1, u2, u3, u4, u5, u6]).toArray rfl rfl 25 Z6.toArray (row_heap q2) hi2 rfl (iv_all _) ?_; replace q2 := q2.row (iv [s1, u2, u3, u4, u5, u6]); replace g5 := below_row (g := w5.heap.size) g5 (Nat.le_refl _) (iv [s1, u2, u3, u4, u5, u6]).toArray; generalize World.setRow (w5.alloc _) _ _ = W5 at *)
    | (go_at_call 23; fail))
  replace I1 := Lib.hid ((I1.out.below b5).below g5)
  replace I2 := Lib.hid ((I2.out.below b5).below g5)
  replace I3 := Lib.hid ((I3.out.below b5).below g5)
  have z5 : Below W.heap.size W W5 := b5.trans (g5.mono b5.size)
  replace b4 := b4.trans (z5.mono b4.size)
  replace Q1 := Lib.hid (Q1.out.below z5)
  clear b5 g5 z5 hz5 hq1
  refine (ints_yes A3 A1 c3 c1 O O.length W5 rfl (by omega) I3.out I1.out).mono ?_
  rintro e w6 ⟨rfl, n6, rfl⟩
  have d1 : (W5.drewN n6).cell? ⟨w4.heap.size, 0, none⟩ = some (.int .i64 s1) := ivR (Q1.out.drewN n6) (i := 0) (by simp)
  have d2 : (W5.drewN n6).cell? ⟨w5.heap.size, 0, none⟩ = some (.int .i64 s1) := ivR (q2.drewN n6) (i := 0) (by simp)
  replace b4 := b4.trans (below_drewN n6)
  replace I1 := Lib.hid (I1.out.drewN n6)
  replace I2 := Lib.hid (I2.out.drewN n6)
  clear I3 q2 Q1 hi1 hi2
  generalize W5.drewN n6 = W6 at *
  go_wp2
  clear d1 d2
  go_loopw [12] (fun i wr => ∃ k : Nat, k ≤ O.length ∧ i = .int .i64 k ∧ Hid (IntsAt wr A1 O) ∧ Hid (IntsAt wr A2 X) ∧ Below w.heap.size w wr) (fun i _ => O.length - (intOf i).toNat)
  case atStart => exact ⟨0, by omega, rfl, I1, I2, b4⟩
  case round =>
    clear I1 I2 b4
    obtain ⟨k, hk, rfl, I1, I2, b4⟩ := hrel
    by_cases hlt : k < O.length
    · obtain ⟨v1, v2, v3⟩ := HG.out k hlt
      obtain ⟨p1, q1, rfl, -, f1⟩ := I1.out (by omega)
      obtain ⟨p2, q2, rfl, -, f2⟩ := I2.out (by rw [HXL.out]; omega)
      have h1 := f1 k hlt
      have h2 := f2 ((geti O k).toNat - 1) (by rw [HXL.out]; omega)
      rw [v3] at h2
      clear f1 f2 v3
      generalize geti O k = v at *
      go_wp2
      go_roundw
      case rel => exact ⟨k + 1, by omega, by go_num, I1, I2, b4⟩
      case measure => simp [intOf]; omega
    · obtain rfl : k = O.length := by omega
      go_wp2_with (go_at_call 21; refine (awake_any _).mono ?_; rintro e w7 ⟨rfl, b7⟩; replace b4 := b4.trans (b7.mono b4.size); clear b7)
      go_ret
      exact ⟨rfl, b4⟩
end Go.Proofs.Ytheblebfeinjjaa
