/- The reference's ring, and SealsRings' walk. -/
import Derived.Test.YtopeppnajbnfgaaJU
import Derived.Test.YtopeppnajbnfgaaHE
namespace Go.Proofs.Ytopeppnajbnfgaa
open Go.RowKit
set_option maxHeartbeats 1000000
set_option maxRecDepth 100000
def RRes (s : ByteArray) (w : World) (e : Ending) (w' : World) : Prop :=
  ∃ A c xs, e = .returned (.slice A xs.length c) ∧ Below w.heap.size w w' ∧ IntsAt w' A xs ∧ xs = (fewV s 0 2).getD []
theorem fewR_step {s : ByteArray} {r m : Nat} (h : ¬ 4 < m) : fewL s 0 2 (r + 1) m = match (exts s.size m [] 0).find? (fairV s) with | some x => some x | none => fewL s 0 2 r (m + 2) := by
  rw [show fewL s 0 2 (r + 1) m = if 4 < m then none else match (exts s.size m [] 0).find? (fairV s) with | some x => some x | none => fewL s 0 2 r (m + 2) from rfl, if_neg h]
theorem RefRing_any (s : ByteArray) (w : World) (hc : chV s = true) (hev : evV s = true) : Calls Try.prog 35 #[.string s] w (RRes s w) := by
  have hs := chV_size hc
  have ho := (of_decide_eq_true hc).2
  have HS := Lib.hid (fun (m : Nat) (hm : m ≤ 4) (he : m % 2 = 0) w => (ring_any s hs ho hev m hm none 0 [] w ⟨by simp; omega, by simpa using he⟩ (by simp) (.inr ⟨rfl, rfl, rfl⟩) (decide_eq_true fun i hi => absurd hi (by simp)) (fun h => absurd h (by simp)) : Calls Try.prog 46 #[.string s, .slice none 0 0, .int .i64 m, .bool true] w (SRes s m [] 0 w)))
  go_enter Try.func35, Try.ntmps35
  go_wp2
  go_loopw [3] (fun i wr => ∃ m r : Nat, i = .int .i64 m ∧ m ≤ 6 ∧ m % 2 = 0 ∧ 2 * r + m = 12 ∧ Hid (fewV s 0 2 = fewL s 0 2 r m) ∧ Below w.heap.size w wr) (fun i _ => 10 - (intOf i).toNat)
  case atStart => exact ⟨0, 6, rfl, by omega, rfl, rfl, Lib.hid rfl, Below.refl _ _⟩
  case round =>
    obtain ⟨m, r, rfl, hm, hme, hr, HF, b0⟩ := hrel
    have HME := Lib.hid hme
    clear hme
    by_cases h4 : m ≤ 4
    · have g1 : decide ((m : Int) ≤ 4) = true := decide_eq_true (by omega)
      obtain ⟨r, rfl⟩ : ∃ r', r = r' + 1 := ⟨r - 1, by omega⟩
      have HM := Lib.hid (HS.out m h4 HME.out)
      have HT := Lib.hid (fewR_step (s := s) (r := r) (m := m) (by omega))
      have HR := Lib.hid hr
      clear hr
      go_wp2_with (go_at_call 46; fail)
      refine (HM.out _).mono ?_
      rintro e w3 ⟨b3, hr⟩
      rcases hr with ⟨x, B2, d2, hf2, rfl, hix⟩ | ⟨hf2, v, rfl⟩
      · replace hf2 : (exts s.size m [] 0).find? (fairV s) = some x := hf2
        have HV := Lib.hid (show x = (fewV s 0 2).getD [] by rw [HF.out, HT.out, hf2]; rfl)
        clear HM hf2
        go_wp2
        go_ret
        exact ⟨B2, d2, x, rfl, b0.trans (b3.mono b0.size), hix, HV.out⟩
      · replace hf2 : (exts s.size m [] 0).find? (fairV s) = none := hf2
        have HV := Lib.hid (show fewV s 0 2 = fewL s 0 2 r (m + 2) by rw [HF.out, HT.out, hf2])
        clear HM hf2
        go_wp2
        go_roundw
        case rel => exact ⟨m + 2, r, by go_num, by omega, by have := HME.out; omega, by have := HR.out; omega, HV, b0.trans (b3.mono b0.size)⟩
        case measure => simp [intOf]; omega
    · have g1 : decide ((m : Int) ≤ 4) = false := decide_eq_false (by omega)
      have HV := Lib.hid (show ([] : List Int) = (fewV s 0 2).getD [] by rw [HF.out, fewL_over (by omega)]; rfl)
      clear hr
      go_wp2
      go_ret
      exact ⟨none, 0, [], rfl, b0, fun h => absurd h (by simp), HV.out⟩
theorem cutS {s : ByteArray} {f step : Nat} {x : List Int} (hx : fewV s f step = some x) {w w' : World} {e : Ending} (h : CutRes s f step w e w') : ∃ A c, e = .returned (.tuple #[.slice A x.length c, .int .i64 0]) ∧ x.length ≤ c ∧ IntsAt w' A x ∧ Below w.heap.size w w' := by
  obtain ⟨v, rfl, b, hv⟩ := h
  rcases hv with ⟨y, h1, h2⟩ | ⟨h1, -⟩
  · rw [hx] at h1; injection h1 with h1; subst h1
    obtain ⟨A, c, rfl, hc, hi, -⟩ := own_sl h2
    exact ⟨A, c, rfl, hc, hi, b⟩
  · rw [hx] at h1; cases h1
theorem SealsRings_any (str : ByteArray) (A : Option Addr) (c : Nat) (xs : List Int) (w : World) (hstr : str.size ≤ maxLen) (hx : xs.length ≤ c) (hc : c ≤ maxLen) (ha : IntsAt w A xs) :
    Calls Try.prog 6 #[.string str, .slice A xs.length c] w fun e w' => e = .returned (.bool true) ∧ Below w.heap.size w w' := by
  have HLI := Lib.hid (list_copy_any A c xs w hx hc ha)
  have hyl : (xs.take 30).length ≤ 30 := by rw [List.length_take]; omega
  generalize xs.take 30 = ys at *
  have HSH := Lib.hid (short_any str w hstr)
  have hsz := shortS_size str
  generalize shortS str = s at *
  have HCK := Lib.hid (fun A c w (h : ys.length ≤ c) (h2 : IntsAt w A ys) => CheckRing_any s A c ys w (by omega) h h2)
  have HCH := Lib.hid (fun w => Chain_any s w (by omega))
  have HAW := Lib.hid awake_any
  cases hce : (chV s && evV s)
  · have HRB := Lib.hid (fun w => Ring_bad s w hce)
    have HV := Lib.hid (show checkRingV s ys = 2 by unfold checkRingV; rw [hce]; rfl)
    cases hch : chV s
    · go_enter Try.func6, Try.ntmps6
      go_wp2_with (first
        | (go_at_call 14; with_reducible refine HSH.out.mono ?_; rintro e w1 ⟨rfl, rfl⟩)
        | (go_at_call 26; fail))
      refine HLI.out.mono ?_
      rintro e w2 ⟨v2, n2, rfl, o2, b2⟩
      obtain ⟨A2, c2, rfl, hc2, i2, -⟩ := own_sl o2
      clear o2
      go_wp2_with (first
        | (go_at_call 33; with_reducible refine (HRB.out _).mono ?_; rintro e w3 ⟨rfl, b3⟩; replace i2 := i2.below b3; replace b2 := b2.trans (b3.mono b2.size); clear b3)
        | (go_at_call 34; with_reducible refine (HCK.out _ _ _ hc2 i2).mono ?_; rintro e w4 ⟨rfl, b4⟩; rw [HV.out]; replace i2 := i2.below b4; replace b2 := b2.trans (b4.mono b2.size); clear b4)
        | (go_at_call 17; with_reducible refine (HCH.out _).mono ?_; rintro e w5 ⟨rfl, n5, rfl⟩; rw [hch]; replace i2 := i2.drewN n5; replace b2 := b2.trans (below_drewN n5); generalize World.drewN _ n5 = w5 at *)
        | (go_at_call 20; with_reducible refine (HAW.out _).mono ?_; rintro e w6 ⟨rfl, b6⟩; replace b2 := b2.trans (b6.mono b2.size)))
      go_ret
      exact ⟨rfl, b2⟩
    · have hok : ∀ i, i < s.size → okC s i := (of_decide_eq_true hch).2
      have hev : evV s = false := by rw [hch] at hce; exact hce
      have HEV := Lib.hid (fun w => Even_any s w (by omega) hok)
      go_enter Try.func6, Try.ntmps6
      go_wp2_with (first
        | (go_at_call 14; with_reducible refine HSH.out.mono ?_; rintro e w1 ⟨rfl, rfl⟩)
        | (go_at_call 26; fail))
      refine HLI.out.mono ?_
      rintro e w2 ⟨v2, n2, rfl, o2, b2⟩
      obtain ⟨A2, c2, rfl, hc2, i2, -⟩ := own_sl o2
      clear o2
      go_wp2_with (first
        | (go_at_call 33; with_reducible refine (HRB.out _).mono ?_; rintro e w3 ⟨rfl, b3⟩; replace i2 := i2.below b3; replace b2 := b2.trans (b3.mono b2.size); clear b3)
        | (go_at_call 34; with_reducible refine (HCK.out _ _ _ hc2 i2).mono ?_; rintro e w4 ⟨rfl, b4⟩; rw [HV.out]; replace i2 := i2.below b4; replace b2 := b2.trans (b4.mono b2.size); clear b4)
        | (go_at_call 17; with_reducible refine (HCH.out _).mono ?_; rintro e w5 ⟨rfl, n5, rfl⟩; rw [hch]; replace i2 := i2.drewN n5; replace b2 := b2.trans (below_drewN n5); generalize World.drewN _ n5 = w5 at *)
        | (go_at_call 18; with_reducible refine (HEV.out _).mono ?_; rintro e w9 ⟨rfl, b9⟩; rw [hev]; replace i2 := i2.below b9; replace b2 := b2.trans (b9.mono b2.size); clear b9)
        | (go_at_call 20; with_reducible refine (HAW.out _).mono ?_; rintro e w6 ⟨rfl, b6⟩; replace b2 := b2.trans (b6.mono b2.size)))
      go_ret
      exact ⟨rfl, b2⟩
  · obtain ⟨hch, hev⟩ := Bool.and_eq_true_iff.1 hce
    have hs := chV_size hch
    have hok : ∀ i, i < s.size → okC s i := (of_decide_eq_true hch).2
    have HEV := Lib.hid (fun w => Even_any s w (by omega) hok)
    have HCU := Lib.hid (fun A c w (h2 : IntsAt w A ys) => Cuts_any s A c ys 0 w (by omega) (by omega) h2)
    obtain ⟨x, xk, hfx, hxl, hxk, hxA, hxF, -⟩ := ring_some hch hev
    have hk4 := kin_le s
    have hx4 : x.length ≤ 4 := by omega
    have HRG := Lib.hid (fun w => (Ring_any s w hce).mono fun e w' h => cutS hfx h)
    have HRR : Hid (∀ w, Calls Try.prog 35 #[.string s] w fun e w' => ∃ A c, e = .returned (.slice A x.length c) ∧ IntsAt w' A x ∧ Below w.heap.size w w') := Lib.hid (fun w => (RefRing_any s w hch hev).mono fun e w' h => by
      obtain ⟨A, c, y, rfl, b, hi, hy⟩ := h
      rw [hfx] at hy
      have hy : y = x := hy
      subst hy
      exact ⟨A, c, rfl, hi, b⟩)
    have hcx : checkRingV s x = 0 := by
      have hcut : cutV 0 s.size x = true := cut_asc x.length 0 hxA
      unfold checkRingV
      rw [hce, hcut, hxF, decide_eq_true (by omega)]; rfl
    have HCX : Hid (∀ (A : Option Addr) (c : Nat) w, x.length ≤ c → IntsAt w A x → Calls Try.prog 34 #[.string s, .slice A x.length c] w fun e w' => e = .returned (.int .i64 0) ∧ Below w.heap.size w w') := Lib.hid fun A c w hc hi => by
      have := CheckRing_any s A c x w (by omega) hc hi
      rw [hcx] at this
      exact this
    have HIN : Hid (∀ A B c d w, IntsAt w A x → IntsAt w B x → Calls Try.prog 24 #[.slice A x.length c, .slice B x.length d] w fun e w' => e = .returned (.bool true) ∧ ∃ n, w' = w.drewN n) := Lib.hid (fun A B c d w h1 h2 => ints_yes A B c d x x.length w rfl (by omega) h1 h2)
    clear hcx hxF hxA hfx hxl hxk hk4
    generalize x.length = X at *
    cases hpe : decide (ys.length % 2 = 0)
    · have hodd := of_decide_eq_false hpe
      have HV := Lib.hid (show checkRingV s ys = 2 by unfold checkRingV; rw [hpe, hce]; rfl)
      have g1 : ((ys.length : Int) % 2 == 1) = true := beq_iff_eq.2 (by omega)
      have g2 : (ys.length : Int) % 2 = 1 := by omega
      clear hodd hpe
      go_enter Try.func6, Try.ntmps6
      go_wp2_with (first
        | (go_at_call 14; with_reducible refine HSH.out.mono ?_; rintro e w1 ⟨rfl, rfl⟩)
        | (go_at_call 26; fail))
      refine HLI.out.mono ?_
      rintro e w2 ⟨v2, n2, rfl, o2, b2⟩
      obtain ⟨A2, c2, rfl, hc2, i2, -⟩ := own_sl o2
      clear o2
      go_wp2_with (go_at_call 33; fail)
      refine (HRG.out _).mono ?_
      rintro e w3 ⟨A3, c3, rfl, hc3, i3, b3⟩
      replace i2 := i2.below b3
      replace b2 := b2.trans (b3.mono b2.size)
      clear b3
      go_wp2_with (first
        | (go_at_call 34; with_reducible refine (HCK.out _ _ _ hc2 i2).mono ?_; rintro e w4 ⟨rfl, b4⟩; rw [HV.out]; replace i2 := i2.below b4; replace i3 := i3.below b4; replace b2 := b2.trans (b4.mono b2.size); clear b4)
        | (go_at_call 17; with_reducible refine (HCH.out _).mono ?_; rintro e w5 ⟨rfl, n5, rfl⟩; rw [hch]; replace i2 := i2.drewN n5; replace i3 := i3.drewN n5; replace b2 := b2.trans (below_drewN n5); generalize World.drewN _ n5 = w5 at *)
        | (go_at_call 18; with_reducible refine (HEV.out _).mono ?_; rintro e w9 ⟨rfl, b9⟩; rw [hev]; replace i2 := i2.below b9; replace i3 := i3.below b9; replace b2 := b2.trans (b9.mono b2.size); clear b9)
        | (go_at_call 35; fail))
      refine (HRR.out _).mono ?_
      rintro e wd ⟨A4, c4, rfl, i4, bd⟩
      replace i2 := i2.below bd
      replace i3 := i3.below bd
      replace b2 := b2.trans (bd.mono b2.size)
      clear bd
      go_wp2_with (first
        | (go_at_call 24; with_reducible refine (HIN.out _ _ _ _ _ i3 i4).mono ?_; rintro e we ⟨rfl, n6, rfl⟩; replace i2 := i2.drewN n6; replace i3 := i3.drewN n6; replace b2 := b2.trans (below_drewN n6); generalize World.drewN _ n6 = we at *)
        | (go_at_call 34; with_reducible refine (HCX.out _ _ _ hc3 i3).mono ?_; rintro e wf ⟨rfl, bf⟩; replace i2 := i2.below bf; replace b2 := b2.trans (bf.mono b2.size); clear bf i3)
        | (go_at_call 20; with_reducible refine (HAW.out _).mono ?_; rintro e w6 ⟨rfl, b6⟩; replace b2 := b2.trans (b6.mono b2.size)))
      go_ret
      exact ⟨rfl, b2⟩
    · have heven := of_decide_eq_true hpe
      have g1 : ((ys.length : Int) % 2 == 1) = false := beq_eq_false_iff_ne.2 (by omega)
      have g2 : (ys.length : Int) % 2 = 0 := by omega
      cases hcu : cutV 0 s.size ys
      · have HV := Lib.hid (show checkRingV s ys = 2 by unfold checkRingV; rw [hcu, hpe, hce]; rfl)
        clear heven hpe
        go_enter Try.func6, Try.ntmps6
        go_wp2_with (first
          | (go_at_call 14; with_reducible refine HSH.out.mono ?_; rintro e w1 ⟨rfl, rfl⟩)
          | (go_at_call 26; fail))
        refine HLI.out.mono ?_
        rintro e w2 ⟨v2, n2, rfl, o2, b2⟩
        obtain ⟨A2, c2, rfl, hc2, i2, -⟩ := own_sl o2
        clear o2
        go_wp2_with (go_at_call 33; fail)
        refine (HRG.out _).mono ?_
        rintro e w3 ⟨A3, c3, rfl, hc3, i3, b3⟩
        replace i2 := i2.below b3
        replace b2 := b2.trans (b3.mono b2.size)
        clear b3
        go_wp2_with (first
          | (go_at_call 34; with_reducible refine (HCK.out _ _ _ hc2 i2).mono ?_; rintro e w4 ⟨rfl, b4⟩; rw [HV.out]; replace i2 := i2.below b4; replace i3 := i3.below b4; replace b2 := b2.trans (b4.mono b2.size); clear b4)
          | (go_at_call 17; with_reducible refine (HCH.out _).mono ?_; rintro e w5 ⟨rfl, n5, rfl⟩; rw [hch]; replace i2 := i2.drewN n5; replace i3 := i3.drewN n5; replace b2 := b2.trans (below_drewN n5); generalize World.drewN _ n5 = w5 at *)
          | (go_at_call 18; with_reducible refine (HEV.out _).mono ?_; rintro e w9 ⟨rfl, b9⟩; rw [hev]; replace i2 := i2.below b9; replace i3 := i3.below b9; replace b2 := b2.trans (b9.mono b2.size); clear b9)
          | (go_at_call 35; fail))
        refine (HRR.out _).mono ?_
        rintro e wd ⟨A4, c4, rfl, i4, bd⟩
        replace i2 := i2.below bd
        replace i3 := i3.below bd
        replace b2 := b2.trans (bd.mono b2.size)
        clear bd
        go_wp2_with (first
          | (go_at_call 24; with_reducible refine (HIN.out _ _ _ _ _ i3 i4).mono ?_; rintro e we ⟨rfl, n6, rfl⟩; replace i2 := i2.drewN n6; replace i3 := i3.drewN n6; replace b2 := b2.trans (below_drewN n6); generalize World.drewN _ n6 = we at *)
          | (go_at_call 34; with_reducible refine (HCX.out _ _ _ hc3 i3).mono ?_; rintro e wf ⟨rfl, bf⟩; replace i2 := i2.below bf; replace b2 := b2.trans (bf.mono b2.size); clear bf i3)
          | (go_at_call 21; with_reducible refine (HCU.out _ _ _ i2).mono ?_; rintro e wg ⟨rfl, n7, rfl⟩; rw [hcu]; replace i2 := i2.drewN n7; replace b2 := b2.trans (below_drewN n7); generalize World.drewN _ n7 = wg at *)
          | (go_at_call 20; with_reducible refine (HAW.out _).mono ?_; rintro e w6 ⟨rfl, b6⟩; replace b2 := b2.trans (b6.mono b2.size)))
        go_ret
        exact ⟨rfl, b2⟩
      · have HFR := Lib.hid (fun A c w (h2 : IntsAt w A ys) => FairRing_any s A c ys w hs hok hev hcu heven h2)
        cases hfa : fairV s ys
        · have HV := Lib.hid (show checkRingV s ys = 10 by unfold checkRingV; rw [hcu, hpe, hce, hfa]; rfl)
          clear heven hpe
          go_enter Try.func6, Try.ntmps6
          go_wp2_with (first
            | (go_at_call 14; with_reducible refine HSH.out.mono ?_; rintro e w1 ⟨rfl, rfl⟩)
            | (go_at_call 26; fail))
          refine HLI.out.mono ?_
          rintro e w2 ⟨v2, n2, rfl, o2, b2⟩
          obtain ⟨A2, c2, rfl, hc2, i2, -⟩ := own_sl o2
          clear o2
          go_wp2_with (go_at_call 33; fail)
          refine (HRG.out _).mono ?_
          rintro e w3 ⟨A3, c3, rfl, hc3, i3, b3⟩
          replace i2 := i2.below b3
          replace b2 := b2.trans (b3.mono b2.size)
          clear b3
          go_wp2_with (first
            | (go_at_call 34; with_reducible refine (HCK.out _ _ _ hc2 i2).mono ?_; rintro e w4 ⟨rfl, b4⟩; rw [HV.out]; replace i2 := i2.below b4; replace i3 := i3.below b4; replace b2 := b2.trans (b4.mono b2.size); clear b4)
            | (go_at_call 17; with_reducible refine (HCH.out _).mono ?_; rintro e w5 ⟨rfl, n5, rfl⟩; rw [hch]; replace i2 := i2.drewN n5; replace i3 := i3.drewN n5; replace b2 := b2.trans (below_drewN n5); generalize World.drewN _ n5 = w5 at *)
            | (go_at_call 18; with_reducible refine (HEV.out _).mono ?_; rintro e w9 ⟨rfl, b9⟩; rw [hev]; replace i2 := i2.below b9; replace i3 := i3.below b9; replace b2 := b2.trans (b9.mono b2.size); clear b9)
            | (go_at_call 35; fail))
          refine (HRR.out _).mono ?_
          rintro e wd ⟨A4, c4, rfl, i4, bd⟩
          replace i2 := i2.below bd
          replace i3 := i3.below bd
          replace b2 := b2.trans (bd.mono b2.size)
          clear bd
          go_wp2_with (first
            | (go_at_call 24; with_reducible refine (HIN.out _ _ _ _ _ i3 i4).mono ?_; rintro e we ⟨rfl, n6, rfl⟩; replace i2 := i2.drewN n6; replace i3 := i3.drewN n6; replace b2 := b2.trans (below_drewN n6); generalize World.drewN _ n6 = we at *)
            | (go_at_call 34; with_reducible refine (HCX.out _ _ _ hc3 i3).mono ?_; rintro e wf ⟨rfl, bf⟩; replace i2 := i2.below bf; replace b2 := b2.trans (bf.mono b2.size); clear bf i3)
            | (go_at_call 21; with_reducible refine (HCU.out _ _ _ i2).mono ?_; rintro e wg ⟨rfl, n7, rfl⟩; rw [hcu]; replace i2 := i2.drewN n7; replace b2 := b2.trans (below_drewN n7); generalize World.drewN _ n7 = wg at *)
            | (go_at_call 36; with_reducible refine (HFR.out _ _ _ i2).mono ?_; rintro e wh ⟨rfl, bh⟩; rw [hfa]; replace i2 := i2.below bh; replace b2 := b2.trans (bh.mono b2.size); clear bh)
            | (go_at_call 20; with_reducible refine (HAW.out _).mono ?_; rintro e w6 ⟨rfl, b6⟩; replace b2 := b2.trans (b6.mono b2.size)))
          go_ret
          exact ⟨rfl, b2⟩
        · have HV := Lib.hid (show checkRingV s ys = 0 by unfold checkRingV; rw [hcu, hpe, hce, hfa]; rfl)
          clear heven hpe
          go_enter Try.func6, Try.ntmps6
          go_wp2_with (first
            | (go_at_call 14; with_reducible refine HSH.out.mono ?_; rintro e w1 ⟨rfl, rfl⟩)
            | (go_at_call 26; fail))
          refine HLI.out.mono ?_
          rintro e w2 ⟨v2, n2, rfl, o2, b2⟩
          obtain ⟨A2, c2, rfl, hc2, i2, -⟩ := own_sl o2
          clear o2
          go_wp2_with (go_at_call 33; fail)
          refine (HRG.out _).mono ?_
          rintro e w3 ⟨A3, c3, rfl, hc3, i3, b3⟩
          replace i2 := i2.below b3
          replace b2 := b2.trans (b3.mono b2.size)
          clear b3
          go_wp2_with (first
            | (go_at_call 34; with_reducible refine (HCK.out _ _ _ hc2 i2).mono ?_; rintro e w4 ⟨rfl, b4⟩; rw [HV.out]; replace i2 := i2.below b4; replace i3 := i3.below b4; replace b2 := b2.trans (b4.mono b2.size); clear b4)
            | (go_at_call 17; with_reducible refine (HCH.out _).mono ?_; rintro e w5 ⟨rfl, n5, rfl⟩; rw [hch]; replace i2 := i2.drewN n5; replace i3 := i3.drewN n5; replace b2 := b2.trans (below_drewN n5); generalize World.drewN _ n5 = w5 at *)
            | (go_at_call 18; with_reducible refine (HEV.out _).mono ?_; rintro e w9 ⟨rfl, b9⟩; rw [hev]; replace i2 := i2.below b9; replace i3 := i3.below b9; replace b2 := b2.trans (b9.mono b2.size); clear b9)
            | (go_at_call 35; fail))
          refine (HRR.out _).mono ?_
          rintro e wd ⟨A4, c4, rfl, i4, bd⟩
          replace i2 := i2.below bd
          replace i3 := i3.below bd
          replace b2 := b2.trans (bd.mono b2.size)
          clear bd
          go_wp2_with (first
            | (go_at_call 24; with_reducible refine (HIN.out _ _ _ _ _ i3 i4).mono ?_; rintro e we ⟨rfl, n6, rfl⟩; replace i2 := i2.drewN n6; replace i3 := i3.drewN n6; replace b2 := b2.trans (below_drewN n6); generalize World.drewN _ n6 = we at *)
            | (go_at_call 34; with_reducible refine (HCX.out _ _ _ hc3 i3).mono ?_; rintro e wf ⟨rfl, bf⟩; replace i2 := i2.below bf; replace b2 := b2.trans (bf.mono b2.size); clear bf i3)
            | (go_at_call 21; with_reducible refine (HCU.out _ _ _ i2).mono ?_; rintro e wg ⟨rfl, n7, rfl⟩; rw [hcu]; replace i2 := i2.drewN n7; replace b2 := b2.trans (below_drewN n7); generalize World.drewN _ n7 = wg at *)
            | (go_at_call 36; with_reducible refine (HFR.out _ _ _ i2).mono ?_; rintro e wh ⟨rfl, bh⟩; rw [hfa]; replace i2 := i2.below bh; replace b2 := b2.trans (bh.mono b2.size); clear bh)
            | (go_at_call 20; with_reducible refine (HAW.out _).mono ?_; rintro e w6 ⟨rfl, b6⟩; replace b2 := b2.trans (b6.mono b2.size)))
          go_ret
          exact ⟨rfl, b2⟩
end Go.Proofs.Ytopeppnajbnfgaa
