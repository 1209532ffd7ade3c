/- SumsMany, walked. -/
import Derived.Test.YtokjdadgdfmffaaLG
namespace Go.Proofs.Ytokjdadgdfmffaa
open Go.RowKit
set_option maxHeartbeats 2000000
set_option maxRecDepth 100000
abbrev PL : List Value := [.int .i64 2, .int .i64 3, .int .i64 5, .int .i64 7, .int .i64 11, .int .i64 13, .int .i64 31, .int .i64 53, .int .i64 89, .int .i64 97]
theorem prime_at (K : Nat) (h : K < 10) : ∃ q : Nat, PL[K]? = some (.int .i64 q) ∧ prV q = true ∧ 2 ≤ q ∧ q ≤ 97 := by
  obtain rfl | rfl | rfl | rfl | rfl | rfl | rfl | rfl | rfl | rfl : K = 0 ∨ K = 1 ∨ K = 2 ∨ K = 3 ∨ K = 4 ∨ K = 5 ∨ K = 6 ∨ K = 7 ∨ K = 8 ∨ K = 9 := by omega
  · exact ⟨2, rfl, by decide +kernel, by omega, by omega⟩
  · exact ⟨3, rfl, by decide +kernel, by omega, by omega⟩
  · exact ⟨5, rfl, by decide +kernel, by omega, by omega⟩
  · exact ⟨7, rfl, by decide +kernel, by omega, by omega⟩
  · exact ⟨11, rfl, by decide +kernel, by omega, by omega⟩
  · exact ⟨13, rfl, by decide +kernel, by omega, by omega⟩
  · exact ⟨31, rfl, by decide +kernel, by omega, by omega⟩
  · exact ⟨53, rfl, by decide +kernel, by omega, by omega⟩
  · exact ⟨89, rfl, by decide +kernel, by omega, by omega⟩
  · exact ⟨97, rfl, by decide +kernel, by omega, by omega⟩
theorem SumsMany_any (k0 : Int) (A : Option Addr) (c : Nat) (a : List Int) (B : Option Addr) (d : Nat) (b : List Int) (by0 : Int) (w : World) (hx : a.length ≤ c) (hc : c ≤ maxLen) (ha : IntsAt w A a) (hx' : b.length ≤ d) (hc' : d ≤ maxLen) (hb : IntsAt w B b) :
    Calls Try.prog 12 #[.int .i64 k0, .slice A a.length c, .slice B b.length d, .int .i64 by0] w fun e w' => e = .returned (.bool true) ∧ Below w.heap.size w w' := by
  have hK := modI_lt k0 (n := 10) (by omega)
  have HM : Hid (∀ w, Calls Try.prog 44 #[.int .i64 k0, .int .i64 10] w fun e w' => e = .returned (.int .i64 (modI k0 10)) ∧ w = w') := Lib.hid (fun w => mod_any2 k0 10 w (by omega) (by omega))
  have HA := Lib.hid ha
  have HB := Lib.hid hb
  have hal : a.length ≤ 9223372036854775807 := by unfold maxLen at hc; omega
  have hbl : b.length ≤ 9223372036854775807 := by unfold maxLen at hc'; omega
  obtain ⟨q, hq, hpr, q1, q2⟩ := prime_at _ hK
  generalize modI k0 10 = K at *
  have HPR := Lib.hid hpr
  have r0 : Row (w.alloc (.cells PL.toArray 60)) w.heap.size 60 PL := row_new rfl
  have c0 : (w.alloc (.cells PL.toArray 60)).cell? ⟨w.heap.size, K, none⟩ = some (.int .i64 q) := by rw [r0.cell]; exact hq
  have b0 : Below w.heap.size w (w.alloc (.cells PL.toArray 60)) := (Below.refl _ w).alloc (Nat.le_refl _) _
  clear ha hb hx hc hx' hc' hq hpr r0
  go_enter Try.func12, Try.ntmps12
  go_wp2_with (first | (go_at_call 44; with_reducible refine (HM.out _).mono ?_; rintro e w1 ⟨rfl, rfl⟩) | (go_at_call 46; fail))
  refine (set_any q A c a _ ⟨q1, q2⟩ hal (HA.out.below b0)).mono ?_
  rintro e w1 ⟨v1, X, rfl, sX, lX, o1, b1⟩
  obtain ⟨A1, c1, rfl, h1c, h1m, i1⟩ := own_cap o1
  have B1 := b0.trans (b1.mono b0.size)
  clear o1 b1 b0 c0 h1c h1m
  go_wp2_with (go_at_call 46; fail)
  refine (set_any q B d b _ ⟨q1, q2⟩ hbl (HB.out.below B1)).mono ?_
  rintro e w2 ⟨v2, Y, rfl, sY, lY, o2, b2⟩
  obtain ⟨A2, c2, rfl, h2c, h2m, i2⟩ := own_cap o2
  have I1 := Lib.hid (i1.below b2)
  have I2 := Lib.hid i2
  have B2 := B1.trans (b2.mono B1.size)
  have hok : bothOk q X Y = true := by unfold bothOk; rw [HPR.out, sX, sY]; rfl
  have hok2 : bothOk q Y X = true := by unfold bothOk; rw [HPR.out, sX, sY]; rfl
  have hok3 : ∀ D : Int, bothOk q (mvL q D X) Y = true := fun D => by unfold bothOk; rw [HPR.out, mv_st q1 sX, sY]; rfl
  have x0 : 1 ≤ X.length := (of_decide_eq_true sX).1
  have y0 : 1 ≤ Y.length := (of_decide_eq_true sY).1
  have hge := both_ge HPR.out sX sY
  have hle := both_le (q : Int) X Y
  have hD := modI_lt by0 (n := q) (by omega)
  have HD := Lib.hid (fun w => mod_any2 by0 q w (by omega) (by omega))
  generalize modI by0 q = D at *
  have hln := mv_len q1 q2 X Y (D : Int)
  have hin : ∀ x ∈ bothL q X Y, (x + (D : Int)) % (q : Int) ∈ bothL q (mvL q D X) Y := fun x hx => mv_in q1 q2 hx
  have hrg := both_rng q1 (a := X) (b := Y)
  have h97 : (bothL q X Y).length ≤ 97 := colL_len _ _
  have xr := stV_mem sX
  have HG1 := Lib.hid (Both_go q A1 A2 c1 c2 X Y w2 (by omega) (by omega) I1.out I2.out hok)
  have HG2 : Hid (∀ w', IntsAt w' A1 X → IntsAt w' A2 Y → Calls Try.prog 35 #[.int .i64 q, .slice A2 Y.length c2, .slice A1 X.length c1] w' (OwnR w' (bothL q X Y))) := Lib.hid fun w' h1 h2 => by
    have h := Both_go q A2 A1 c2 c1 Y X w' (by omega) (by omega) h2 h1 hok2
    rwa [both_comm] at h
  have hml : (mvL q D X).length = X.length := by unfold mvL; rw [List.length_map]
  have HG3 : Hid (∀ w' A5 c5, IntsAt w' A5 (mvL q D X) → IntsAt w' A2 Y → Calls Try.prog 35 #[.int .i64 q, .slice A5 X.length c5, .slice A2 Y.length c2] w' (OwnR w' (bothL q (mvL q D X) Y))) := Lib.hid fun w' A5 c5 h1 h2 => by
    have h := Both_go q A5 A2 c5 c2 (mvL q D X) Y w' (by omega) (by omega) h1 h2 (hok3 _)
    rwa [hml] at h
  generalize bothL q (mvL q D X) Y = N at *
  generalize bothL q X Y = Lb at *
  have HGE := Lib.hid hge
  have HLE := Lib.hid hle
  have HLN := Lib.hid hln
  have HIN := Lib.hid hin
  have HRG := Lib.hid hrg
  have HXR := Lib.hid xr
  have HML := Lib.hid hml
  have h97b : N.length ≤ 97 := by omega
  clear hge hle hln hin hrg xr hok hok2 hok3 sX sY o2 i2 i1 b2 B1 h2c h2m HA HB hml HPR HM
  go_wp2_with (go_at_call 35; fail)
  refine HG1.out.mono ?_
  rintro e w3 ⟨v3, rfl, o3, b3⟩
  obtain ⟨A3, c3, rfl, -, -, i3⟩ := own_cap o3
  have J1 := Lib.hid (I1.out.below b3)
  have J2 := Lib.hid (I2.out.below b3)
  have J3 := Lib.hid i3
  have B3 := B2.trans (b3.mono B2.size)
  clear HG1 I1 I2 o3 b3 i3 B2
  go_wp2_with (go_at_call 35; fail)
  refine (HG2.out _ J1.out J2.out).mono ?_
  rintro e w4 ⟨v4, rfl, o4, b4⟩
  obtain ⟨A4, c4, rfl, -, -, i4⟩ := own_cap o4
  have I1 := Lib.hid (J1.out.below b4)
  have I2 := Lib.hid (J2.out.below b4)
  have I3 := Lib.hid (J3.out.below b4)
  have I4 := Lib.hid i4
  have B4 := B3.trans (b4.mono B3.size)
  have hbs4 := B4.size
  clear HG2 J1 J2 J3 o4 b4 i4 B3
  have oM : w4.ownsRow w4.heap.size 3 1 (.slice none 0 0) 0 (iv (mvL q D (X.take 0))) := ⟨rfl, .inl ⟨rfl, rfl⟩⟩
  have bM : Below w4.heap.size w4 w4 := Below.refl _ _
  obtain ⟨j0, ji, jz0, jz1, jz2⟩ := info_parts info3
  go_wp2
  go_loopw [17, 18] (fun v i wr => ∃ j : Nat, j ≤ X.length ∧ i = .int .i64 j ∧ wr.ownsRow w4.heap.size 3 1 v j (iv (mvL q D (X.take j))) ∧ Below w4.heap.size w4 wr) (fun _ i _ => X.length - (intOf i).toNat)
  case atStart => exact ⟨0, by omega, rfl, oM, bM⟩
  case round =>
    clear oM bM
    obtain ⟨j, hj, rfl, oM, bM⟩ := hrel
    by_cases hjt : j < X.length
    · obtain ⟨bx, ox, hAe, hbx, hcx⟩ := I1.out (by omega)
      subst hAe
      have cj := hcx j hjt
      obtain ⟨r1, r2⟩ := HXR.out _ (geti_mem hjt)
      have hst : mvL q D (X.take (j + 1)) = mvL q D (X.take j) ++ [(geti X j + D) % (q : Int)] := by
        unfold mvL
        rw [List.take_succ_eq_append_getElem hjt, List.map_append, ← geti_eq hjt]; rfl
      have HST := Lib.hid hst
      have hbm := bM.size
      generalize geti X j = x at *
      have hw0 : IntKind.i64.wrap (x + (D : Int)) = x + D := IntWalk.i64_in _ (by omega)
      have hw1 : (x + (D : Int)).tmod q = (x + D) % (q : Int) := Int.tmod_eq_emod_of_nonneg (by omega)
      have z1 := Int.emod_nonneg (x + (D : Int)) (b := (q : Int)) (by omega)
      have z2 := Int.emod_lt_of_pos (x + (D : Int)) (b := (q : Int)) (by omega)
      generalize (x + (D : Int)) % (q : Int) = z at *
      have hw2 : IntKind.i64.wrap z = z := IntWalk.i64_in _ (by omega)
      generalize hP : mvL q D (X.take j) = P at *
      generalize hP2 : mvL q D (X.take (j + 1)) = P2 at *
      have HP := Lib.hid hP
      have HP2 := Lib.hid hP2
      have KS : Hid (∀ w', Below w4.heap.size w4 w' → (w'.cell? ⟨bx, ox + j, none⟩ = some (.int .i64 x) ∧ Hid (Below w4.heap.size w4 w'))) := Lib.hid fun w' h => ⟨cell_up h hbx cj, Lib.hid h⟩
      have OM := Lib.hid oM
      clear hst hcx hP hP2 oM cj
      go_wp2
      have hS := KS.out _ bM
      have q0 : ¬ q = 0 := by omega
      go_region_held3 (fun w' => w'.cell? ⟨bx, ox + j, none⟩ = some (.int .i64 x) ∧ Hid (Below w4.heap.size w4 w')) (first | assumption | exact KS.out _ bM.drew | exact KS.out _ (bM.alloc bM.size _) | exact KS.out _ ((bM.alloc bM.size _).drew) | exact KS.out _ b9) ((first
        | ((with_reducible refine (HD.out _).mono ?_); rintro e w9 ⟨rfl, rfl⟩)
        | (refine step_append_own_at rfl (.tmp 55) (.tmp 66) 22 rfl w4.heap.size 3 j0 (.int .i64 0) 1 8 Try.underlying22 ji jz0 jz1 jz2 rfl Nat.zero_lt_one _ j _ rfl ((OM.out.alloc _).kept' ((Below.refl _ _).drew)) ⟨wr.heap.size, 0, none⟩ 1 1 [.int .i64 z] rfl rfl ?_ ?_ ?_ ?_ ?_ ?_; exact news_one ((row_new rfl).drew); simp [Value.oneCell']; (unfold maxLen; omega); omega; exact (bM.alloc bM.size _).drew.size; intro v9 w9 o9 hg9; have b9 := (bM.alloc bM.size _).drew.grown hg9 (bM.alloc bM.size _).drew.size (fun g hg => (own_ge OM.out hg).1))))
      go_wp2
      go_roundw
      case rel =>
        refine ⟨j + 1, by omega, by go_num, ?_, b9⟩
        rw [HP2.out, HST.out, iv_snoc]
        exact o9
      case measure => simp [intOf]; omega
    · obtain rfl : j = X.length := by omega
      rw [List.take_length] at oM
      obtain ⟨A5, c5, e5, h5c, h5m, i5⟩ := own_cap oM
      rw [HML.out] at e5
      subst e5
      have K2 := Lib.hid (I2.out.below bM)
      have K3 := Lib.hid (I3.out.below bM)
      have K4 := Lib.hid (I4.out.below bM)
      have K5 := Lib.hid i5
      have B5 := B4.trans (bM.mono hbs4)
      clear I1 I2 I3 I4 i5 oM bM h5c h5m hjt hj B4 hbs4
      go_wp2_with (go_at_call 35; fail)
      refine (HG3.out _ A5 c5 K5.out K2.out).mono ?_
      rintro e w5 ⟨v5, rfl, o5, b5⟩
      obtain ⟨A6, c6, rfl, -, -, i6⟩ := own_cap o5
      have J3 := Lib.hid (K3.out.below b5)
      have J4 := Lib.hid (K4.out.below b5)
      have J6 := Lib.hid i6
      have B6 := B5.trans (b5.mono B5.size)
      clear HG3 K2 K3 K4 K5 o5 b5 i6 B5
      go_wp2_with (go_at_call 23; fail)
      refine (ints_yes _ _ _ _ Lb _ _ rfl (by omega) J3.out J4.out).mono ?_
      rintro e w6 ⟨rfl, n6, rfl⟩
      have hxy : X.length * Y.length ≤ 110 * 110 := Nat.mul_le_mul lX lY
      have hle := HLE.out
      have hge := HGE.out
      have hln := HLN.out
      have m1 : (0 : Int) ≤ (X.length : Int) * Y.length := by rw [← Int.natCast_mul]; omega
      have m2 : (X.length : Int) * Y.length ≤ 12100 := by rw [← Int.natCast_mul]; omega
      have m3 : decide ((X.length : Int) * Y.length < Lb.length) = false := decide_eq_false (by rw [← Int.natCast_mul]; omega)
      have m4 : decide (X.length * Y.length < Lb.length) = false := decide_eq_false (by omega)
      have m5 : ((N.length : Int) != Lb.length) = false := by simp [hln]
      have hw : IntKind.i64.wrap ((X.length : Int) * Y.length) = (X.length : Int) * Y.length := IntWalk.i64_in _ (by omega)
      have hw2 : wrap64 ((X.length : Int) * Y.length) = (X.length : Int) * Y.length := IntWalk.wrap64_in _ ⟨by omega, by omega⟩
      rcases Nat.lt_or_ge q (X.length + Y.length) with hmin | hmin
      · have g1 : decide ((Lb.length : Int) < q) = false := decide_eq_false (by omega)
        have g1' : decide (Lb.length < q) = false := decide_eq_false (by omega)
        have g2 : (q : Int) ≤ (X.length : Int) + Y.length - 1 := by omega
        clear hxy hle hge hln
        go_wp2
        clear g1 g1' g2 m1 m2 m3 m4 m5 hw hw2
        go_loopw [21] (fun i wr => ∃ t nn : Nat, t ≤ Lb.length ∧ i = .int .i64 t ∧ wr = w5.drewN nn) (fun i _ => Lb.length - (intOf i).toNat)
        case atStart => exact ⟨0, n6, by omega, rfl, rfl⟩
        case round =>
          obtain ⟨t, nn, ht, rfl, rfl⟩ := hrel
          by_cases htt : t < Lb.length
          · obtain ⟨bq, oq, hAe, hbq, hcq⟩ := J3.out (by omega)
            have cq := hcq t htt
            have hxm := HIN.out _ (geti_mem htt)
            obtain ⟨r1, r2⟩ := HRG.out _ (geti_mem htt)
            generalize geti Lb t = x at *
            have hw0 : IntKind.i64.wrap (x + (D : Int)) = x + D := IntWalk.i64_in _ (by omega)
            have hw1 : (x + (D : Int)).tmod q = (x + D) % (q : Int) := Int.tmod_eq_emod_of_nonneg (by omega)
            have z1 := Int.emod_nonneg (x + (D : Int)) (b := (q : Int)) (by omega)
            have z2 := Int.emod_lt_of_pos (x + (D : Int)) (b := (q : Int)) (by omega)
            generalize (x + (D : Int)) % (q : Int) = z at *
            have hw2' : IntKind.i64.wrap z = z := IntWalk.i64_in _ (by omega)
            have HXM := Lib.hid hxm
            have f0 : decide (z ∈ N.take 0) = false := by simp
            clear hcq hxm
            subst hAe
            go_wp2
            go_loopw [22, 23] (fun f i wr => ∃ u nn : Nat, u ≤ N.length ∧ i = .int .i64 u ∧ f = .bool (decide (z ∈ N.take u)) ∧ wr = w5.drewN nn) (fun _ i _ => N.length - (intOf i).toNat)
            case atStart => exact ⟨0, nn, by omega, rfl, by simp, rfl⟩
            case round =>
              clear f0
              obtain ⟨u, n2, hu, rfl, rfl, rfl⟩ := hrel
              by_cases hut : u < N.length
              · obtain ⟨bn, on, hNe, hbn, hcn⟩ := J6.out (by omega)
                have cn := hcn u hut
                have hts : N.take (u + 1) = N.take u ++ [geti N u] := by rw [List.take_succ_eq_append_getElem hut, geti_eq hut]
                have HTS := Lib.hid hts
                generalize geti N u = y at *
                clear hcn hts
                subst hNe
                cases hf : decide (z ∈ N.take u)
                · have hz := of_decide_eq_false hf
                  by_cases hyz : y = z
                  · have HY : Hid (decide (z ∈ N.take (u + 1)) = true) := Lib.hid (decide_eq_true (by rw [HTS.out, hyz]; simp))
                    have g5 : (y == z) = true := by simp [hyz]
                    clear hf hz hyz
                    go_wp2
                    refine wp_region_quiet_lit (by kernel_rfl) (by kernel_rfl) ?_
                    repeat go_big_quiet_step ((first | exact quiet_same (HD.out _) | exact quiet_same2 (HD.out _)))
                    refine wpQuiet_nil ?_
                    rintro _ ⟨nq, rfl⟩
                    go_wp2
                    go_roundw
                    case rel => exact ⟨u + 1, n2 + nq, by omega, by go_num, by rw [HY.out], by first | rfl | exact World.drewN_drewN _ _ _⟩
                    case measure => simp [intOf]; omega
                  · have HY : Hid (decide (z ∈ N.take (u + 1)) = false) := Lib.hid (decide_eq_false (by rw [HTS.out, List.mem_append, List.mem_singleton]; rintro (h | h); exact hz h; exact hyz h.symm))
                    have g5 : (y == z) = false := by simp [hyz]
                    clear hf hz hyz
                    go_wp2
                    refine wp_region_quiet_lit (by kernel_rfl) (by kernel_rfl) ?_
                    repeat go_big_quiet_step ((first | exact quiet_same (HD.out _) | exact quiet_same2 (HD.out _)))
                    refine wpQuiet_nil ?_
                    rintro _ ⟨nq, rfl⟩
                    go_wp2
                    go_roundw
                    case rel => exact ⟨u + 1, n2 + nq, by omega, by go_num, by rw [HY.out], by first | rfl | exact World.drewN_drewN _ _ _⟩
                    case measure => simp [intOf]; omega
                · have hz := of_decide_eq_true hf
                  have HY : Hid (decide (z ∈ N.take (u + 1)) = true) := Lib.hid (decide_eq_true (by rw [HTS.out]; exact List.mem_append_left _ hz))
                  clear hf hz
                  go_wp2
                  refine wp_region_quiet_lit (by kernel_rfl) (by kernel_rfl) ?_
                  repeat go_big_quiet_step ((first | exact quiet_same (HD.out _) | exact quiet_same2 (HD.out _)))
                  refine wpQuiet_nil ?_
                  rintro _ ⟨nq, rfl⟩
                  go_wp2
                  go_roundw
                  case rel => exact ⟨u + 1, n2 + nq, by omega, by go_num, by rw [HY.out], by first | rfl | exact World.drewN_drewN _ _ _⟩
                  case measure => simp [intOf]; omega
              · obtain rfl : u = N.length := by omega
                have hf : decide (z ∈ N.take N.length) = true := decide_eq_true (by rw [List.take_length]; exact HXM.out)
                rw [hf]
                clear hf
                go_wp2
                go_roundw
                case rel => exact ⟨t + 1, n2, by omega, by go_num, rfl⟩
                case measure => simp [intOf]; omega
          · obtain rfl : t = Lb.length := by omega
            go_wp2_with (go_at_call 20; fail)
            refine (awake_any _).mono ?_
            rintro e w8 ⟨rfl, b8⟩
            have b7 := B6.trans (below_drewN nn)
            go_wp2
            go_ret
            exact ⟨rfl, b7.trans (b8.mono b7.size)⟩
      · have g2 : ¬ ((q : Int) ≤ (X.length : Int) + Y.length - 1) := by omega
        have g3 : (X.length : Int) + Y.length - 1 < q := by omega
        have g1 : decide ((Lb.length : Int) < (X.length : Int) + Y.length - 1) = false := decide_eq_false (by omega)
        clear hxy hle hge hln
        go_wp2
        clear g1 g2 g3 m1 m2 m3 m4 m5 hw hw2
        go_loopw [21] (fun i wr => ∃ t nn : Nat, t ≤ Lb.length ∧ i = .int .i64 t ∧ wr = w5.drewN nn) (fun i _ => Lb.length - (intOf i).toNat)
        case atStart => exact ⟨0, n6, by omega, rfl, rfl⟩
        case round =>
          obtain ⟨t, nn, ht, rfl, rfl⟩ := hrel
          by_cases htt : t < Lb.length
          · obtain ⟨bq, oq, hAe, hbq, hcq⟩ := J3.out (by omega)
            have cq := hcq t htt
            have hxm := HIN.out _ (geti_mem htt)
            obtain ⟨r1, r2⟩ := HRG.out _ (geti_mem htt)
            generalize geti Lb t = x at *
            have hw0 : IntKind.i64.wrap (x + (D : Int)) = x + D := IntWalk.i64_in _ (by omega)
            have hw1 : (x + (D : Int)).tmod q = (x + D) % (q : Int) := Int.tmod_eq_emod_of_nonneg (by omega)
            have z1 := Int.emod_nonneg (x + (D : Int)) (b := (q : Int)) (by omega)
            have z2 := Int.emod_lt_of_pos (x + (D : Int)) (b := (q : Int)) (by omega)
            generalize (x + (D : Int)) % (q : Int) = z at *
            have hw2' : IntKind.i64.wrap z = z := IntWalk.i64_in _ (by omega)
            have HXM := Lib.hid hxm
            have f0 : decide (z ∈ N.take 0) = false := by simp
            clear hcq hxm
            subst hAe
            go_wp2
            go_loopw [22, 23] (fun f i wr => ∃ u nn : Nat, u ≤ N.length ∧ i = .int .i64 u ∧ f = .bool (decide (z ∈ N.take u)) ∧ wr = w5.drewN nn) (fun _ i _ => N.length - (intOf i).toNat)
            case atStart => exact ⟨0, nn, by omega, rfl, by simp, rfl⟩
            case round =>
              clear f0
              obtain ⟨u, n2, hu, rfl, rfl, rfl⟩ := hrel
              by_cases hut : u < N.length
              · obtain ⟨bn, on, hNe, hbn, hcn⟩ := J6.out (by omega)
                have cn := hcn u hut
                have hts : N.take (u + 1) = N.take u ++ [geti N u] := by rw [List.take_succ_eq_append_getElem hut, geti_eq hut]
                have HTS := Lib.hid hts
                generalize geti N u = y at *
                clear hcn hts
                subst hNe
                cases hf : decide (z ∈ N.take u)
                · have hz := of_decide_eq_false hf
                  by_cases hyz : y = z
                  · have HY : Hid (decide (z ∈ N.take (u + 1)) = true) := Lib.hid (decide_eq_true (by rw [HTS.out, hyz]; simp))
                    have g5 : (y == z) = true := by simp [hyz]
                    clear hf hz hyz
                    go_wp2
                    refine wp_region_quiet_lit (by kernel_rfl) (by kernel_rfl) ?_
                    repeat go_big_quiet_step ((first | exact quiet_same (HD.out _) | exact quiet_same2 (HD.out _)))
                    refine wpQuiet_nil ?_
                    rintro _ ⟨nq, rfl⟩
                    go_wp2
                    go_roundw
                    case rel => exact ⟨u + 1, n2 + nq, by omega, by go_num, by rw [HY.out], by first | rfl | exact World.drewN_drewN _ _ _⟩
                    case measure => simp [intOf]; omega
                  · have HY : Hid (decide (z ∈ N.take (u + 1)) = false) := Lib.hid (decide_eq_false (by rw [HTS.out, List.mem_append, List.mem_singleton]; rintro (h | h); exact hz h; exact hyz h.symm))
                    have g5 : (y == z) = false := by simp [hyz]
                    clear hf hz hyz
                    go_wp2
                    refine wp_region_quiet_lit (by kernel_rfl) (by kernel_rfl) ?_
                    repeat go_big_quiet_step ((first | exact quiet_same (HD.out _) | exact quiet_same2 (HD.out _)))
                    refine wpQuiet_nil ?_
                    rintro _ ⟨nq, rfl⟩
                    go_wp2
                    go_roundw
                    case rel => exact ⟨u + 1, n2 + nq, by omega, by go_num, by rw [HY.out], by first | rfl | exact World.drewN_drewN _ _ _⟩
                    case measure => simp [intOf]; omega
                · have hz := of_decide_eq_true hf
                  have HY : Hid (decide (z ∈ N.take (u + 1)) = true) := Lib.hid (decide_eq_true (by rw [HTS.out]; exact List.mem_append_left _ hz))
                  clear hf hz
                  go_wp2
                  refine wp_region_quiet_lit (by kernel_rfl) (by kernel_rfl) ?_
                  repeat go_big_quiet_step ((first | exact quiet_same (HD.out _) | exact quiet_same2 (HD.out _)))
                  refine wpQuiet_nil ?_
                  rintro _ ⟨nq, rfl⟩
                  go_wp2
                  go_roundw
                  case rel => exact ⟨u + 1, n2 + nq, by omega, by go_num, by rw [HY.out], by first | rfl | exact World.drewN_drewN _ _ _⟩
                  case measure => simp [intOf]; omega
              · obtain rfl : u = N.length := by omega
                have hf : decide (z ∈ N.take N.length) = true := decide_eq_true (by rw [List.take_length]; exact HXM.out)
                rw [hf]
                clear hf
                go_wp2
                go_roundw
                case rel => exact ⟨t + 1, n2, by omega, by go_num, rfl⟩
                case measure => simp [intOf]; omega
          · obtain rfl : t = Lb.length := by omega
            go_wp2_with (go_at_call 20; fail)
            refine (awake_any _).mono ?_
            rintro e w8 ⟨rfl, b8⟩
            have b7 := B6.trans (below_drewN nn)
            go_wp2
            go_ret
            exact ⟨rfl, b7.trans (b8.mono b7.size)⟩
end Go.Proofs.Ytokjdadgdfmffaa
