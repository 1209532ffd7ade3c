/- SealsRounds: the walk. -/
import Derived.Test.YtopeppnajbnfgaaJP
import Derived.Test.YtopeppnajbnfgaaJE
import Derived.Test.YtopeppnajbnfgaaGC
import Derived.Deep.RegionHeldLaw
namespace Go.Proofs.Ytopeppnajbnfgaa
open Go.RowKit
set_option maxHeartbeats 1000000
set_option maxRecDepth 100000
theorem cutR {s : ByteArray} {f step : Nat} {x : List Int} (hx : fewV s f step = some x) {w w' : World} {e : Ending} (h : CutRes s f step w e w') : ∃ A c, e = .returned (.tuple #[.slice A x.length c, .int .i64 0]) ∧ x.length ≤ c ∧ IntsAt w' A x ∧ Below w.heap.size w w' := by
  obtain ⟨v, rfl, b, hv⟩ := h
  rcases hv with ⟨y, h1, h2⟩ | ⟨h1, -⟩
  · rw [hx] at h1; injection h1 with h1; subst h1
    obtain ⟨A, c, rfl, hc, hi, -⟩ := own_sl h2
    exact ⟨A, c, rfl, hc, hi, b⟩
  · rw [hx] at h1; cases h1
theorem SealsRounds_any (str : ByteArray) (by' : Int) (w : World) (hstr : str.size ≤ maxLen) :
    Calls Try.prog 11 #[.string str, .int .i64 by'] w fun e w' => e = .returned (.bool true) ∧ Below w.heap.size w w' := by
  have HEV := Lib.hid (even_any str w hstr)
  have HAW := Lib.hid awake_any
  go_enter Try.func11, Try.ntmps11
  go_wp2_with (go_at_call 37; fail)
  refine HEV.out.mono ?_
  rintro e w1 ⟨s, rfl, ⟨hch, hev⟩, b1⟩
  have hs := chV_size hch
  have hok : ∀ i, i < s.size → okC s i := (of_decide_eq_true hch).2
  have hce : (chV s && evV s) = true := by rw [hch, hev]; rfl
  obtain ⟨x, xk, hx, hxl, hxk, hxA, hxF, -⟩ := ring_some hch hev
  obtain ⟨y, hy, hyk, -, -, -⟩ := few_some hch hev
  have hxy := ring_chain hch hev hx hy
  have hk4 := kin_le s
  have hcv : checkRingV s x = 0 := by
    have hcut : cutV 0 s.size x = true := cut_asc x.length 0 hxA
    unfold checkRingV
    rw [hce, hcut, hxF, decide_eq_true (by omega)]; rfl
  have HRS := Lib.hid (fun w => (Ring_any s w hce).mono fun e w' h => cutR hx h)
  have HLS := Lib.hid (fun w => (Least_any s w hce).mono fun e w' h => cutR hy h)
  have HRU : Hid (∀ k, k ≤ s.size → ∀ w, Calls Try.prog 33 #[.string (s.extract k s.size ++ s.extract 0 k)] w fun e w' => ∃ A c, e = .returned (.tuple #[.slice A x.length c, .int .i64 0]) ∧ Below w.heap.size w w') := Lib.hid fun k hk w => by
    have hrot := rot_of s hk
    have hu : chV (s.extract k s.size ++ s.extract 0 k) = true := decide_eq_true ⟨by rw [hrot.size]; exact hs, okC_app (okC_ext hok (Nat.le_refl _)) (okC_ext hok hk)⟩
    have hue := hrot.ev hev
    obtain ⟨z, zk, hz, -⟩ := ring_some hu hue
    have hl := rot_few hrot hch hu hev hx hz
    refine (Ring_any _ w (by rw [hu, hue]; rfl)).mono fun e w' h => ?_
    obtain ⟨A, c, h1, -, -, h4⟩ := cutR hz h
    rw [← hl] at h1
    exact ⟨A, c, h1, h4⟩
  have HCK : Hid (∀ (A : Option Addr) (c : Nat) w, x.length ≤ c → IntsAt w A x → Calls Try.prog 34 #[.string s, .slice A x.length c] w fun e w' => e = .returned (.int .i64 0) ∧ Below w.heap.size w w') := Lib.hid fun A c w hc hi => by
    have := CheckRing_any s A c x w (by omega) hc hi
    rw [hcv] at this
    exact this
  have HKI := Lib.hid (fun w => Kinds_any s w (by omega) hok)
  rw [show (kin s).length = kinN s 4 from rfl] at hxk hyk hk4
  generalize kinN s 4 = K at *
  clear hcv hxF hxA hx hy hev hce hok
  generalize x.length = X at *
  generalize y.length = Y at *
  have hX2 : X % 2 = 0 := by omega
  have HX := Lib.hid hxl
  have hX4 : X ≤ 4 := by omega
  have hXK : (X : Int) ≤ (((K : Int) + 1) / 2) * 2 := by omega
  have hXY : (X : Int) ≤ Y + (Y : Int) % 2 := by omega
  have hY4 : Y ≤ 4 := by omega
  have g1 : ((X : Int) % 2 == 1) = false := beq_eq_false_iff_ne.2 (by omega)
  have g2 : decide (((K : Int) + 1) / 2 * 2 < (X : Int)) = false := decide_eq_false (by omega)
  have g3 : decide ((X : Int) ≤ (Y : Int) + (Y : Int) % 2) = true := decide_eq_true hXY
  have g4 : (X : Int) % 2 = 0 := by omega
  clear hxl
  go_wp2_with (go_at_call 33; fail)
  refine (HRS.out _).mono ?_
  rintro e w2 ⟨A2, c2, rfl, hc2, i2, b2⟩
  have I2 := Lib.hid i2
  replace b1 := b1.trans (b2.mono b1.size)
  clear i2 b2
  go_wp2_with (go_at_call 16; fail)
  refine (HLS.out _).mono ?_
  rintro e w3 ⟨A3, c3, rfl, hc3, -, b3⟩
  replace I2 := Lib.hid (I2.out.below b3)
  replace b1 := b1.trans (b3.mono b1.size)
  clear b3
  cases hz0 : decide (0 < s.size)
  · go_wp2
    go_region_held_law (fun w' => Hid (Below w3.heap.size w3 w')) (first | assumption | exact Lib.hid (Below.refl _ _) | exact Lib.hid (Below.refl _ _).drew | exact Lib.hid b4) ((first
      | (go_at_call 33; refine (HRS.out _).mono ?_; rintro e w4 ⟨A4, c4, rfl, hc4, i4, b4⟩; replace b4 := (Below.refl _ w3).drew.trans b4; clear i4)))
    replace I2 := Lib.hid (I2.out.below b4)
    replace b1 := b1.trans (b4.mono b1.size)
    clear b4
    go_wp2_with (first
      | (go_at_call 23; with_reducible refine (HKI.out _).mono ?_; rintro e w5 ⟨rfl, b5⟩; replace I2 := Lib.hid (I2.out.below b5); replace b1 := b1.trans (b5.mono b1.size); clear b5)
      | (go_at_call 34; with_reducible refine (HCK.out _ _ _ hc2 I2.out).mono ?_; rintro e w6 ⟨rfl, b6⟩; replace b1 := b1.trans (b6.mono b1.size); clear b6)
      | (go_at_call 20; with_reducible refine (HAW.out _).mono ?_; rintro e w7 ⟨rfl, b7⟩; replace b1 := b1.trans (b7.mono b1.size); clear b7))
    go_ret
    exact ⟨rfl, b1⟩
  · have hpos : 0 < s.size := of_decide_eq_true hz0
    have HMO := Lib.hid (fun w => mod_any by' s.size w hpos (by omega))
    have hkl : modI by' s.size ≤ s.size := Nat.le_of_lt (Nat.mod_lt _ hpos)
    generalize modI by' s.size = k at *
    have HZ := Lib.hid (HRU.out k hkl)
    have z1 : (s.extract k s.size).size = s.size - k := by rw [ByteArray.size_extract]; omega
    have z2 : (s.extract 0 k).size = k := by rw [ByteArray.size_extract]; omega
    go_wp2_with (go_at_call 40; with_reducible refine (HMO.out _).mono ?_; rintro e w8 ⟨rfl, rfl⟩)
    go_region_held_law (fun w' => Hid (Below w3.heap.size w3 w')) (first | assumption | exact Lib.hid (Below.refl _ _) | exact Lib.hid (Below.refl _ _).drew | exact Lib.hid b4) ((first
      | (go_at_call 33; refine (HZ.out _).mono ?_; rintro e w4 ⟨A4, c4, rfl, b4⟩; replace b4 := (Below.refl _ w3).drew.trans b4)))
    replace I2 := Lib.hid (I2.out.below b4)
    replace b1 := b1.trans (b4.mono b1.size)
    clear b4
    go_wp2_with (first
      | (go_at_call 23; with_reducible refine (HKI.out _).mono ?_; rintro e w5 ⟨rfl, b5⟩; replace I2 := Lib.hid (I2.out.below b5); replace b1 := b1.trans (b5.mono b1.size); clear b5)
      | (go_at_call 34; with_reducible refine (HCK.out _ _ _ hc2 I2.out).mono ?_; rintro e w6 ⟨rfl, b6⟩; replace b1 := b1.trans (b6.mono b1.size); clear b6)
      | (go_at_call 20; with_reducible refine (HAW.out _).mono ?_; rintro e w7 ⟨rfl, b7⟩; replace b1 := b1.trans (b7.mono b1.size); clear b7))
    go_ret
    exact ⟨rfl, b1⟩
end Go.Proofs.Ytopeppnajbnfgaa
