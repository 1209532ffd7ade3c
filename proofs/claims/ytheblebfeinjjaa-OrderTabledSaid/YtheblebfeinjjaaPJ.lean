/- OrderTabled, walked. -/
import Derived.Test.YtheblebfeinjjaaPI
import Derived.Test.YtheblebfeinjjaaPA
import Derived.Test.YtheblebfeinjjaaNY
namespace Go.Proofs.Ytheblebfeinjjaa
open Go.RowKit
set_option maxHeartbeats 1000000
set_option maxRecDepth 100000
theorem OrderTabled_any (A : Option Addr) (c : Nat) (a : List Int) (w : World) (hx : a.length ≤ c) (hc : c ≤ maxLen) (ha : IntsAt w A a) :
    Calls Try.prog 10 #[.slice A a.length c] w fun e w' => e = .returned (.bool true) ∧ Below w.heap.size w w' := by
  have HT := Lib.hid (tame_any A c a w hx hc ha)
  have HO : Hid (IsO (tmL a (min a.length 12))) := Lib.hid (tmL_iso a (by omega))
  clear ha hx hc
  generalize tmL a (min a.length 12) = O at *
  generalize min a.length 12 = n0 at *
  go_enter Try.func10, Try.ntmps10
  go_wp2_with (go_at_call 46; fail)
  refine HT.out.mono ?_
  rintro e w1 ⟨v1, rfl, o1, b1⟩
  obtain ⟨A1, c1, rfl, hn0, -, i1⟩ := own_intsI o1
  subst hn0
  have HI1 := Lib.hid (Table_yes A1 c1 O w1 HO.out i1)
  have I1 := Lib.hid i1
  clear HT o1 i1
  go_wp2_with (go_at_call 18; fail)
  refine HI1.out.mono ?_
  rintro e w2 ⟨A2, c2, rfl, o2, b2⟩
  have hX := tabL_len O
  obtain ⟨A2', c2', e2, -, -, i2⟩ := own_intsI o2
  injection e2 with e21 e22 e23
  subst e21 e23
  have HJ := Order_yes A2 c2 (tabL O) w2 (tabL_isT HO.out) i2
  rw [mdL_tab HO.out, hX] at HJ
  have HI2 := Lib.hid HJ
  have I2 := Lib.hid i2
  replace I1 := Lib.hid (I1.out.below b2)
  replace b2 := b1.trans (b2.mono b1.size)
  have HN1 : ∃ s2 s3 s4 s5 s6, nmL O = [sumN (tabL O) O.length, s2, s3, s4, s5, s6] := ⟨_, _, _, _, _, rfl⟩
  obtain ⟨s2, s3, s4, s5, s6, N1⟩ := HN1
  have HM1 := Lib.hid (fun w hw => Numbers_yes A1 c1 O w HO.out hw)
  rw [N1] at HM1
  have HK := Lib.hid (fun w hw => Index_yes A1 c1 O w HO.out hw)
  have hq := (place_max HO.out).2
  have HY := Lib.hid (fun w => Item_yes O.length (plN (tabN O) O.length O.length) w HO.out.le (by omega) (place_Q HO.out))
  rw [place_L, mdL_tab HO.out] at HY
  have HS := Lib.hid (sumN_tab O HO.out.le)
  have hO12 := HO.out.le
  have HXL := Lib.hid hX
  clear HI1 o2 i2 e22 HJ N1 HO hX b1
  generalize plN (tabN O) O.length O.length = q at *
  generalize tabL O = X at *
  obtain ⟨s1, HS1⟩ : ∃ s, Hid (sumN X O.length = s) := ⟨_, Lib.hid rfl⟩
  rw [HS1.out] at HM1
  go_wp2_with (go_at_call 27; fail)
  refine HI2.out.mono ?_
  rintro e w3 ⟨A3, c3, rfl, i3, -, b3⟩
  replace I1 := Lib.hid (I1.out.below b3)
  replace I2 := Lib.hid (I2.out.below b3)
  replace b3 := b2.trans (b3.mono b2.size)
  have I3 := Lib.hid i3
  clear HI2 i3 b2
  have hi1 : (Try.prog.info? 25).map (·.size) = some (iv [s1, s2, s3, s4, s5, s6]).toArray.size := info25
  go_wp2_with (first
    | (go_at_call 16; refine (HM1.out _ I1.out).mono ?_; rintro e w4 ⟨rfl, b4⟩; have q1 : Row (w4.alloc (.cells Z6.toArray 25)) w4.heap.size 25 Z6 := row_new rfl; have g4 : Below w4.heap.size w4 (w4.alloc (.cells Z6.toArray 25)) := (Below.refl _ _).alloc (Nat.le_refl _) _; clear HM1)
    | (with_reducible refine (?_ : wpList _ _ _ (Oper.mk _ (Op.store 25 (.tmp 8) _) _ _ _ _ :: _) _ _); refine wpList_store_row rfl 25 (.tmp 8) (.tmp 31) rfl w4.heap.size (iv [s1, s2, s3, s4, s5, s6]).toArray rfl rfl 25 Z6.toArray (row_heap q1) hi1 rfl (iv_all _) ?_; replace q1 := q1.row (iv [s1, s2, s3, s4, s5, s6]); replace g4 := below_row (g := w4.heap.size) g4 (Nat.le_refl _) (iv [s1, s2, s3, s4, s5, s6]).toArray; generalize World.setRow (w4.alloc _) _ _ = W at *)
    | (go_at_call 19; fail))
  replace I1 := Lib.hid ((I1.out.below b4).below g4)
  replace I2 := Lib.hid ((I2.out.below b4).below g4)
  replace I3 := Lib.hid ((I3.out.below b4).below g4)
  replace b4 := b3.trans ((b4.trans (g4.mono b4.size)).mono b3.size)
  have Q1 := Lib.hid q1
  clear b3 q1 g4
  refine (HK.out _ I1.out).mono ?_
  rintro e w5 ⟨rfl, b5⟩
  replace I1 := Lib.hid (I1.out.below b5)
  replace I2 := Lib.hid (I2.out.below b5)
  replace I3 := Lib.hid (I3.out.below b5)
  replace Q1 := Lib.hid (Q1.out.below b5)
  replace b5 := b4.trans (b5.mono b4.size)
  clear HK b4
  go_wp2_with (go_at_call 40; fail)
  refine (HY.out _).mono ?_
  rintro e w6 ⟨A4, c4, rfl, i4, -, b6⟩
  replace I1 := Lib.hid (I1.out.below b6)
  replace I2 := Lib.hid (I2.out.below b6)
  replace I3 := Lib.hid (I3.out.below b6)
  replace Q1 := Lib.hid (Q1.out.below b6)
  replace b6 := b5.trans (b6.mono b5.size)
  have I4 := Lib.hid i4
  clear HY b5 i4
  go_wp2
  go_loopw [14, 15] (fun s j wr => ∃ k : Nat, k ≤ O.length ∧ j = .int .i64 k ∧ s = .int .i64 (sumN X k) ∧ Below w6.heap.size w6 wr) (fun _ j _ => O.length - (intOf j).toNat)
  case atStart => exact ⟨0, by omega, rfl, rfl, by (repeat (first | exact Below.refl _ _ | assumption | (refine Below.setCell ?_ (by first | exact Nat.le_refl _ | omega | (simp; done) | (simp; omega)) _) | (refine Below.trans ?_ (below_drewN _)) | (refine Below.drew ?_) | (refine Below.alloc ?_ (by first | exact Nat.le_refl _ | omega | (simp; done) | (simp; omega)) _) | (refine below_row ?_ (by first | exact Nat.le_refl _ | omega | (simp; done) | (simp; omega)) _)))⟩
  case round =>
    obtain ⟨k, hk, rfl, rfl, z6⟩ := hrel
    replace I1 := Lib.hid (I1.out.below z6)
    replace I2 := Lib.hid (I2.out.below z6)
    replace I3 := Lib.hid (I3.out.below z6)
    replace I4 := Lib.hid (I4.out.below z6)
    replace Q1 := Lib.hid (Q1.out.below z6)
    by_cases hlt : k < O.length
    · obtain ⟨p2, q2, rfl, -, f2⟩ := I2.out (by rw [HXL.out]; omega)
      have h2 := f2 k (by rw [HXL.out]; omega)
      obtain ⟨y1, y2⟩ := HS.out k hk
      obtain ⟨y3, y4⟩ := HS.out (k + 1) hlt
      have HSS : Hid (sumN X (k + 1) = sumN X k + geti X k) := Lib.hid rfl
      rw [HSS.out] at y3 y4
      clear f2 I1 I3 I4 Q1
      generalize geti X k = v at *
      obtain ⟨s, Hs⟩ : ∃ s, Hid (sumN X k = s) := ⟨_, Lib.hid rfl⟩
      rw [Hs.out] at y1 y2 y3 y4 ⊢
      go_wp2
      go_roundw
      case rel => exact ⟨k + 1, by omega, by go_num, by rw [HSS.out, Hs.out], z6⟩
      case measure => simp [intOf]; omega
    · obtain rfl : k = O.length := by omega
      rw [HS1.out]
      replace b6 := b6.trans (z6.mono b6.size)
      clear z6 I2 HS HS1
      go_wp2_with (go_at_call 23; fail)
      refine (ints_yes A3 A1 c3 c1 O O.length wr rfl (by omega) I3.out I1.out).mono ?_
      rintro e w7 ⟨rfl, n7, rfl⟩
      have d1 : (wr.drewN n7).cell? ⟨w4.heap.size, 0, none⟩ = some (.int .i64 s1) := ivR (Q1.out.drewN n7) (i := 0) (by simp)
      replace b6 := b6.trans (below_drewN n7)
      replace I1 := Lib.hid (I1.out.drewN n7)
      replace I4 := Lib.hid (I4.out.drewN n7)
      clear I3 Q1 hi1
      generalize wr.drewN n7 = W7 at *
      go_wp2_with (go_at_call 23; fail)
      clear d1
      refine (ints_yes A4 A1 c4 c1 O O.length W7 rfl (by omega) I4.out I1.out).mono ?_
      rintro e w8 ⟨rfl, n8, rfl⟩
      replace b6 := b6.trans (below_drewN n8)
      clear I1 I4
      generalize W7.drewN n8 = W8 at *
      go_wp2_with (go_at_call 21; refine (awake_any _).mono ?_; rintro e w9 ⟨rfl, b9⟩; replace b6 := b6.trans (b9.mono b6.size); clear b9)
      go_ret
      exact ⟨rfl, b6⟩
end Go.Proofs.Ytheblebfeinjjaa
