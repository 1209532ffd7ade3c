/- SealsChecks: the walk. -/
import Derived.Test.YtopeppnajbnfgaaFY
namespace Go.Proofs.Ytopeppnajbnfgaa
open Go.RowKit
set_option maxHeartbeats 1000000
set_option maxRecDepth 100000
theorem SealsChecks_any (str : ByteArray) (A : Option Addr) (c : Nat) (xs : List Int) (w : World) (hstr : str.size ≤ maxLen) (hx : xs.length ≤ c) (hc : c ≤ maxLen) (ha : IntsAt w A xs) :
    Calls Try.prog 4 #[.string str, .slice A xs.length c] w fun e w' => e = .returned (.bool true) ∧ Below w.heap.size w w' := by
  have HLI := Lib.hid (list_copy_any A c xs w hx hc ha)
  have hyl : (xs.take 30).length ≤ 30 := by rw [List.length_take]; omega
  generalize xs.take 30 = ys at *
  have HSH := Lib.hid (short_any str w hstr)
  have hsz := shortS_size str
  generalize shortS str = s at *
  have HCK := Lib.hid (fun A c w (h : ys.length ≤ c) (h2 : IntsAt w A ys) => Check_any s A c ys w (by omega) h h2)
  have HSS := Lib.hid (fun A c w (h : ys.length ≤ c) (h1 : SlAt A c ys) (h2 : IntsAt w A ys) => Shares_any s A c ys w (by omega) h h1 h2)
  have HCH := Lib.hid (fun w => Chain_any s w (by omega))
  have HCU := Lib.hid (fun A c w (h2 : IntsAt w A ys) => Cuts_any s A c ys 1 w (by omega) (by omega) h2)
  have HAW := Lib.hid awake_any
  cases hch : chV s
  · have HV := Lib.hid (show checkV s ys = 2 by unfold checkV; rw [hch]; rfl)
    have HW := Lib.hid (show sharesV s ys = .tuple #[.string ⟨#[]⟩, .string ⟨#[]⟩, .int .i64 2] by unfold sharesV; rw [hch]; rfl)
    go_enter Try.func4, Try.ntmps4
    go_wp2_with (first
      | (go_at_call 14; with_reducible refine HSH.out.mono ?_; rintro e w1 ⟨rfl, rfl⟩)
      | (go_at_call 26; fail))
    refine HLI.out.mono ?_
    rintro e w2 ⟨v2, n2, rfl, o2, b2⟩
    obtain ⟨A2, c2, rfl, hc2, i2, sl2⟩ := own_sl o2
    clear o2
    go_wp2_with (first
      | (go_at_call 19; with_reducible refine (HCK.out _ _ _ hc2 i2).mono ?_; rintro e w3 ⟨rfl, b3⟩; rw [HV.out]; replace i2 := i2.below b3; replace b2 := b2.trans (b3.mono b2.size))
      | (go_at_call 27; with_reducible refine (HSS.out _ _ _ hc2 sl2 i2).mono ?_; rintro e w4 ⟨rfl, b4⟩; rw [HW.out]; replace i2 := i2.below b4; replace b2 := b2.trans (b4.mono b2.size))
      | (go_at_call 17; with_reducible refine (HCH.out _).mono ?_; rintro e w5 ⟨rfl, n5, rfl⟩; rw [hch]; replace b2 := b2.trans (below_drewN n5))
      | (go_at_call 20; with_reducible refine (HAW.out _).mono ?_; rintro e w6 ⟨rfl, b6⟩; replace b2 := b2.trans (b6.mono b2.size)))
    go_ret
    exact ⟨rfl, b2⟩
  · have hs := chV_size hch
    have hok : ∀ i, i < s.size → okC s i := (of_decide_eq_true hch).2
    cases hcu : cutV 1 s.size ys
    · have HV := Lib.hid (show checkV s ys = 2 by unfold checkV; rw [hcu, Bool.and_false]; rfl)
      have HW := Lib.hid (show sharesV s ys = .tuple #[.string ⟨#[]⟩, .string ⟨#[]⟩, .int .i64 2] by unfold sharesV; rw [hcu, Bool.and_false]; rfl)
      go_enter Try.func4, Try.ntmps4
      go_wp2_with (first
        | (go_at_call 14; with_reducible refine HSH.out.mono ?_; rintro e w1 ⟨rfl, rfl⟩)
        | (go_at_call 26; fail))
      refine HLI.out.mono ?_
      rintro e w2 ⟨v2, n2, rfl, o2, b2⟩
      obtain ⟨A2, c2, rfl, hc2, i2, sl2⟩ := own_sl o2
      clear o2
      go_wp2_with (first
        | (go_at_call 19; with_reducible refine (HCK.out _ _ _ hc2 i2).mono ?_; rintro e w3 ⟨rfl, b3⟩; rw [HV.out]; replace i2 := i2.below b3; replace b2 := b2.trans (b3.mono b2.size))
        | (go_at_call 27; with_reducible refine (HSS.out _ _ _ hc2 sl2 i2).mono ?_; rintro e w4 ⟨rfl, b4⟩; rw [HW.out]; replace i2 := i2.below b4; replace b2 := b2.trans (b4.mono b2.size))
        | (go_at_call 17; with_reducible refine (HCH.out _).mono ?_; rintro e w5 ⟨rfl, n5, rfl⟩; rw [hch]; replace i2 := i2.drewN n5; replace b2 := b2.trans (below_drewN n5); generalize World.drewN _ n5 = w5 at *)
        | (go_at_call 21; with_reducible refine (HCU.out _ _ _ i2).mono ?_; rintro e w7 ⟨rfl, n7, rfl⟩; rw [hcu]; replace i2 := i2.drewN n7; replace b2 := b2.trans (below_drewN n7); generalize World.drewN _ n7 = w7 at *)
        | (go_at_call 20; with_reducible refine (HAW.out _).mono ?_; rintro e w6 ⟨rfl, b6⟩; replace b2 := b2.trans (b6.mono b2.size)))
      go_ret
      exact ⟨rfl, b2⟩
    · have HW := Lib.hid (show sharesV s ys = .tuple #[.string (shareV s ys 0), .string (shareV s ys 1), .int .i64 0] by unfold sharesV; rw [hch, hcu]; rfl)
      have HRS := Lib.hid (fun A c w (h2 : IntsAt w A ys) => RefShares_any s A c ys w hs hcu h2)
      have HEV := Lib.hid (fun w => Even_any s w (by omega) hok)
      have HFA := Lib.hid (fun A c w (h2 : IntsAt w A ys) => RefFair_any s A c ys w hs hok hcu h2)
      cases hev : evV s
      · have HV := Lib.hid (show checkV s ys = 2 by unfold checkV; rw [hev, Bool.and_false]; rfl)
        generalize shareV s ys 0 = a0 at *
        generalize shareV s ys 1 = a1 at *
        go_enter Try.func4, Try.ntmps4
        go_wp2_with (first
          | (go_at_call 14; with_reducible refine HSH.out.mono ?_; rintro e w1 ⟨rfl, rfl⟩)
          | (go_at_call 26; fail))
        refine HLI.out.mono ?_
        rintro e w2 ⟨v2, n2, rfl, o2, b2⟩
        obtain ⟨A2, c2, rfl, hc2, i2, sl2⟩ := own_sl o2
        clear o2
        go_wp2_with (first
          | (go_at_call 19; with_reducible refine (HCK.out _ _ _ hc2 i2).mono ?_; rintro e w3 ⟨rfl, b3⟩; rw [HV.out]; replace i2 := i2.below b3; replace b2 := b2.trans (b3.mono b2.size))
          | (go_at_call 27; with_reducible refine (HSS.out _ _ _ hc2 sl2 i2).mono ?_; rintro e w4 ⟨rfl, b4⟩; rw [HW.out]; replace i2 := i2.below b4; replace b2 := b2.trans (b4.mono b2.size))
          | (go_at_call 17; with_reducible refine (HCH.out _).mono ?_; rintro e w5 ⟨rfl, n5, rfl⟩; rw [hch]; replace i2 := i2.drewN n5; replace b2 := b2.trans (below_drewN n5); generalize World.drewN _ n5 = w5 at *)
          | (go_at_call 21; with_reducible refine (HCU.out _ _ _ i2).mono ?_; rintro e w7 ⟨rfl, n7, rfl⟩; rw [hcu]; replace i2 := i2.drewN n7; replace b2 := b2.trans (below_drewN n7); generalize World.drewN _ n7 = w7 at *)
          | (go_at_call 28; with_reducible refine (HRS.out _ _ _ i2).mono ?_; rintro e w8 ⟨rfl, b8⟩; replace i2 := i2.below b8; replace b2 := b2.trans (b8.mono b2.size))
          | (go_at_call 18; with_reducible refine (HEV.out _).mono ?_; rintro e w9 ⟨rfl, b9⟩; rw [hev]; replace i2 := i2.below b9; replace b2 := b2.trans (b9.mono b2.size))
          | (go_at_call 20; with_reducible refine (HAW.out _).mono ?_; rintro e w6 ⟨rfl, b6⟩; replace b2 := b2.trans (b6.mono b2.size)))
        go_ret
        exact ⟨rfl, b2⟩
      · have HFR := fair_ref hs hev hcu
        cases hfa : refFair s ys
        · have HV := Lib.hid (show checkV s ys = 10 by unfold checkV; rw [hch, hev, hcu, HFR, hfa]; rfl)
          generalize shareV s ys 0 = a0 at *
          generalize shareV s ys 1 = a1 at *
          go_enter Try.func4, Try.ntmps4
          go_wp2_with (first
            | (go_at_call 14; with_reducible refine HSH.out.mono ?_; rintro e w1 ⟨rfl, rfl⟩)
            | (go_at_call 26; fail))
          refine HLI.out.mono ?_
          rintro e w2 ⟨v2, n2, rfl, o2, b2⟩
          obtain ⟨A2, c2, rfl, hc2, i2, sl2⟩ := own_sl o2
          clear o2
          go_wp2_with (first
            | (go_at_call 19; with_reducible refine (HCK.out _ _ _ hc2 i2).mono ?_; rintro e w3 ⟨rfl, b3⟩; rw [HV.out]; replace i2 := i2.below b3; replace b2 := b2.trans (b3.mono b2.size))
            | (go_at_call 27; with_reducible refine (HSS.out _ _ _ hc2 sl2 i2).mono ?_; rintro e w4 ⟨rfl, b4⟩; rw [HW.out]; replace i2 := i2.below b4; replace b2 := b2.trans (b4.mono b2.size))
            | (go_at_call 17; with_reducible refine (HCH.out _).mono ?_; rintro e w5 ⟨rfl, n5, rfl⟩; rw [hch]; replace i2 := i2.drewN n5; replace b2 := b2.trans (below_drewN n5); generalize World.drewN _ n5 = w5 at *)
            | (go_at_call 21; with_reducible refine (HCU.out _ _ _ i2).mono ?_; rintro e w7 ⟨rfl, n7, rfl⟩; rw [hcu]; replace i2 := i2.drewN n7; replace b2 := b2.trans (below_drewN n7); generalize World.drewN _ n7 = w7 at *)
            | (go_at_call 28; with_reducible refine (HRS.out _ _ _ i2).mono ?_; rintro e w8 ⟨rfl, b8⟩; replace i2 := i2.below b8; replace b2 := b2.trans (b8.mono b2.size))
            | (go_at_call 18; with_reducible refine (HEV.out _).mono ?_; rintro e w9 ⟨rfl, b9⟩; rw [hev]; replace i2 := i2.below b9; replace b2 := b2.trans (b9.mono b2.size))
            | (go_at_call 22; with_reducible refine (HFA.out _ _ _ i2).mono ?_; rintro e wa ⟨rfl, ba⟩; rw [hfa]; replace i2 := i2.below ba; replace b2 := b2.trans (ba.mono b2.size))
            | (go_at_call 20; with_reducible refine (HAW.out _).mono ?_; rintro e w6 ⟨rfl, b6⟩; replace b2 := b2.trans (b6.mono b2.size)))
          go_ret
          exact ⟨rfl, b2⟩
        · have HV := Lib.hid (show checkV s ys = 0 by unfold checkV; rw [hch, hev, hcu, HFR, hfa]; rfl)
          generalize shareV s ys 0 = a0 at *
          generalize shareV s ys 1 = a1 at *
          go_enter Try.func4, Try.ntmps4
          go_wp2_with (first
            | (go_at_call 14; with_reducible refine HSH.out.mono ?_; rintro e w1 ⟨rfl, rfl⟩)
            | (go_at_call 26; fail))
          refine HLI.out.mono ?_
          rintro e w2 ⟨v2, n2, rfl, o2, b2⟩
          obtain ⟨A2, c2, rfl, hc2, i2, sl2⟩ := own_sl o2
          clear o2
          go_wp2_with (first
            | (go_at_call 19; with_reducible refine (HCK.out _ _ _ hc2 i2).mono ?_; rintro e w3 ⟨rfl, b3⟩; rw [HV.out]; replace i2 := i2.below b3; replace b2 := b2.trans (b3.mono b2.size))
            | (go_at_call 27; with_reducible refine (HSS.out _ _ _ hc2 sl2 i2).mono ?_; rintro e w4 ⟨rfl, b4⟩; rw [HW.out]; replace i2 := i2.below b4; replace b2 := b2.trans (b4.mono b2.size))
            | (go_at_call 17; with_reducible refine (HCH.out _).mono ?_; rintro e w5 ⟨rfl, n5, rfl⟩; rw [hch]; replace i2 := i2.drewN n5; replace b2 := b2.trans (below_drewN n5); generalize World.drewN _ n5 = w5 at *)
            | (go_at_call 21; with_reducible refine (HCU.out _ _ _ i2).mono ?_; rintro e w7 ⟨rfl, n7, rfl⟩; rw [hcu]; replace i2 := i2.drewN n7; replace b2 := b2.trans (below_drewN n7); generalize World.drewN _ n7 = w7 at *)
            | (go_at_call 28; with_reducible refine (HRS.out _ _ _ i2).mono ?_; rintro e w8 ⟨rfl, b8⟩; replace i2 := i2.below b8; replace b2 := b2.trans (b8.mono b2.size))
            | (go_at_call 18; with_reducible refine (HEV.out _).mono ?_; rintro e w9 ⟨rfl, b9⟩; rw [hev]; replace i2 := i2.below b9; replace b2 := b2.trans (b9.mono b2.size))
            | (go_at_call 22; with_reducible refine (HFA.out _ _ _ i2).mono ?_; rintro e wa ⟨rfl, ba⟩; rw [hfa]; replace i2 := i2.below ba; replace b2 := b2.trans (ba.mono b2.size))
            | (go_at_call 20; with_reducible refine (HAW.out _).mono ?_; rintro e w6 ⟨rfl, b6⟩; replace b2 := b2.trans (b6.mono b2.size)))
          go_ret
          exact ⟨rfl, b2⟩
end Go.Proofs.Ytopeppnajbnfgaa
