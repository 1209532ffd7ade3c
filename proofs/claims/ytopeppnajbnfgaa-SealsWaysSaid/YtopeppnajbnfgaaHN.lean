/- SealsWays: the walk. -/
import Derived.Test.YtopeppnajbnfgaaHM
namespace Go.Proofs.Ytopeppnajbnfgaa
open Go.RowKit
set_option maxHeartbeats 1000000
set_option maxRecDepth 100000
theorem SealsWays_any (str : ByteArray) (many : Int) (w : World) (hstr : str.size ≤ maxLen) (hw : (Lit.int .i64 many).wf = true) :
    Calls Try.prog 5 #[.string str, .int .i64 many] w fun e w' => e = .returned (.bool true) ∧ Below w.heap.size w w' := by
  have hsz := shortS_size str
  have HSH := Lib.hid (short_any str w hstr)
  generalize shortS str = s at *
  have HCH := Lib.hid (fun w => Chain_any s w (by omega))
  have HAW := Lib.hid awake_any
  cases hch : chV s
  · have HW := Lib.hid (fun w => Ways_bad s w many (.inl (by rw [hch]; rfl)))
    have HB := Lib.hid (fun w => Halves_bad s w hch)
    go_enter Try.func5, Try.ntmps5
    go_wp2_with (first
      | (go_at_call 14; with_reducible refine HSH.out.mono ?_; rintro e w1 ⟨rfl, rfl⟩)
      | (go_at_call 29; with_reducible refine (HW.out _).mono ?_; rintro e w2 ⟨rfl, b2⟩)
      | (go_at_call 30; with_reducible refine (HB.out _).mono ?_; rintro e w3 ⟨rfl, b3⟩; replace b2 := b2.trans (b3.mono b2.size))
      | (go_at_call 17; with_reducible refine (HCH.out _).mono ?_; rintro e w5 ⟨rfl, n5, rfl⟩; rw [hch]; replace b2 := b2.trans (below_drewN n5); generalize World.drewN _ n5 = w5 at *)
      | (go_at_call 20; with_reducible refine (HAW.out _).mono ?_; rintro e w6 ⟨rfl, b6⟩; replace b2 := b2.trans (b6.mono b2.size)))
    go_ret
    exact ⟨rfl, b2⟩
  · have hs := chV_size hch
    have hok : ∀ i, i < s.size → okC s i := (of_decide_eq_true hch).2
    have HEV := Lib.hid (fun w => Even_any s w (by omega) hok)
    have HH := Lib.hid (fun w => Halves_any s w hch)
    have HRH := Lib.hid (fun w => RefHalves_any s w hch)
    have hlen := hlvL_len s (s.size + 1)
    have HIN := Lib.hid (fun A B c d w (h1 : IntsAt w A (hlvL s (s.size + 1))) (h2 : IntsAt w B (hlvL s (s.size + 1))) => ints_yes A B c d (hlvL s (s.size + 1)) (s.size + 1) w hlen (by omega) h1 h2)
    by_cases hgood : evV s = true ∧ 0 ≤ many ∧ many ≤ 4
    · obtain ⟨hev, h0, h4⟩ := hgood
      obtain ⟨m, rfl⟩ := Int.eq_ofNat_of_zero_le h0
      have hce : (chV s && evV s) = true := by rw [hch, hev]; rfl
      have g1 : decide ((m : Int) < 0) = false := decide_eq_false (by omega)
      have g2 : decide ((m : Int) > 4) = false := decide_eq_false (by omega)
      have g3 : decide ((4 : Int) < m) = false := decide_eq_false (by omega)
      have HW := Lib.hid (fun w => Ways_any s w hce m (by omega))
      have HRW := Lib.hid (fun w => RefWays_any s w hch hev m (by omega))
      generalize (wL s m [] 1 : Int) = u at *
      go_enter Try.func5, Try.ntmps5
      go_wp2_with (first
        | (go_at_call 14; with_reducible refine HSH.out.mono ?_; rintro e w1 ⟨rfl, rfl⟩)
        | (go_at_call 29; with_reducible refine (HW.out _).mono ?_; rintro e w2 ⟨rfl, b2⟩)
        | (go_at_call 30; fail))
      refine (HH.out _).mono ?_
      rintro e w3 ⟨g, rfl, -, hr, b3⟩
      replace b2 := b2.trans (b3.mono b2.size)
      clear b3
      go_wp2_with (first
        | (go_at_call 17; with_reducible refine (HCH.out _).mono ?_; rintro e w5 ⟨rfl, n5, rfl⟩; rw [hch]; replace hr := hr.drewN n5; replace b2 := b2.trans (below_drewN n5); generalize World.drewN _ n5 = w5 at *)
        | (go_at_call 31; fail))
      refine (HRH.out _).mono ?_
      rintro e w7 ⟨A7, c7, rfl, b7, i7⟩
      rw [hlen]
      replace hr := hr.below b7
      replace b2 := b2.trans (b7.mono b2.size)
      clear b7
      go_wp2_with (go_at_call 24; fail)
      refine (HIN.out _ _ _ _ _ (iv_ints hr) i7).mono ?_
      rintro e w8 ⟨rfl, n8, rfl⟩
      replace b2 := b2.trans (below_drewN n8)
      clear hr i7
      generalize World.drewN _ n8 = w8 at *
      go_wp2_with (first
        | (go_at_call 18; with_reducible refine (HEV.out _).mono ?_; rintro e w9 ⟨rfl, b9⟩; rw [hev]; replace b2 := b2.trans (b9.mono b2.size))
        | (go_at_call 32; with_reducible refine (HRW.out _).mono ?_; rintro e wa ⟨rfl, ba⟩; replace b2 := b2.trans (ba.mono b2.size))
        | (go_at_call 20; with_reducible refine (HAW.out _).mono ?_; rintro e w6 ⟨rfl, b6⟩; replace b2 := b2.trans (b6.mono b2.size)))
      go_ret
      exact ⟨rfl, b2⟩
    · have HW := Lib.hid (fun w => Ways_bad s w many (by
        by_cases he : evV s = true
        · right; rcases Int.lt_or_le many 0 with h | h
          · exact .inl h
          · exact .inr (by have : ¬ many ≤ 4 := fun h2 => hgood ⟨he, h, h2⟩; omega)
        · left; rw [Bool.and_eq_false_iff]; right; simpa using he))
      cases hev : evV s
      · clear hgood
        go_enter Try.func5, Try.ntmps5
        go_wp2_with (first
          | (go_at_call 14; with_reducible refine HSH.out.mono ?_; rintro e w1 ⟨rfl, rfl⟩)
          | (go_at_call 29; with_reducible refine (HW.out _).mono ?_; rintro e w2 ⟨rfl, b2⟩)
          | (go_at_call 30; fail))
        refine (HH.out _).mono ?_
        rintro e w3 ⟨g, rfl, -, hr, b3⟩
        replace b2 := b2.trans (b3.mono b2.size)
        clear b3
        go_wp2_with (first
          | (go_at_call 17; with_reducible refine (HCH.out _).mono ?_; rintro e w5 ⟨rfl, n5, rfl⟩; rw [hch]; replace hr := hr.drewN n5; replace b2 := b2.trans (below_drewN n5); generalize World.drewN _ n5 = w5 at *)
          | (go_at_call 31; fail))
        refine (HRH.out _).mono ?_
        rintro e w7 ⟨A7, c7, rfl, b7, i7⟩
        rw [hlen]
        replace hr := hr.below b7
        replace b2 := b2.trans (b7.mono b2.size)
        clear b7
        go_wp2_with (go_at_call 24; fail)
        refine (HIN.out _ _ _ _ _ (iv_ints hr) i7).mono ?_
        rintro e w8 ⟨rfl, n8, rfl⟩
        replace b2 := b2.trans (below_drewN n8)
        clear hr i7
        generalize World.drewN _ n8 = w8 at *
        go_wp2_with (first
          | (go_at_call 18; with_reducible refine (HEV.out _).mono ?_; rintro e w9 ⟨rfl, b9⟩; rw [hev]; replace b2 := b2.trans (b9.mono b2.size))
          | (go_at_call 20; with_reducible refine (HAW.out _).mono ?_; rintro e w6 ⟨rfl, b6⟩; replace b2 := b2.trans (b6.mono b2.size)))
        go_ret
        exact ⟨rfl, b2⟩
      · rcases Int.lt_or_le many 0 with h | h
        · have g1 : decide (many < 0) = true := decide_eq_true h
          clear hgood
          go_enter Try.func5, Try.ntmps5
          go_wp2_with (first
            | (go_at_call 14; with_reducible refine HSH.out.mono ?_; rintro e w1 ⟨rfl, rfl⟩)
            | (go_at_call 29; with_reducible refine (HW.out _).mono ?_; rintro e w2 ⟨rfl, b2⟩)
            | (go_at_call 30; fail))
          refine (HH.out _).mono ?_
          rintro e w3 ⟨g, rfl, -, hr, b3⟩
          replace b2 := b2.trans (b3.mono b2.size)
          clear b3
          go_wp2_with (first
            | (go_at_call 17; with_reducible refine (HCH.out _).mono ?_; rintro e w5 ⟨rfl, n5, rfl⟩; rw [hch]; replace hr := hr.drewN n5; replace b2 := b2.trans (below_drewN n5); generalize World.drewN _ n5 = w5 at *)
            | (go_at_call 31; fail))
          refine (HRH.out _).mono ?_
          rintro e w7 ⟨A7, c7, rfl, b7, i7⟩
          rw [hlen]
          replace hr := hr.below b7
          replace b2 := b2.trans (b7.mono b2.size)
          clear b7
          go_wp2_with (go_at_call 24; fail)
          refine (HIN.out _ _ _ _ _ (iv_ints hr) i7).mono ?_
          rintro e w8 ⟨rfl, n8, rfl⟩
          replace b2 := b2.trans (below_drewN n8)
          clear hr i7
          generalize World.drewN _ n8 = w8 at *
          go_wp2_with (first
            | (go_at_call 18; with_reducible refine (HEV.out _).mono ?_; rintro e w9 ⟨rfl, b9⟩; rw [hev]; replace b2 := b2.trans (b9.mono b2.size))
            | (go_at_call 20; with_reducible refine (HAW.out _).mono ?_; rintro e w6 ⟨rfl, b6⟩; replace b2 := b2.trans (b6.mono b2.size)))
          go_ret
          exact ⟨rfl, b2⟩
        · have g1 : decide (many < 0) = false := decide_eq_false (by omega)
          have h5 : 4 < many := by have : ¬ many ≤ 4 := fun h2 => hgood ⟨hev, h, h2⟩; omega
          have g2 : decide (many > 4) = true := decide_eq_true (by omega)
          have g3 : decide (4 < many) = true := decide_eq_true (by omega)
          clear hgood
          go_enter Try.func5, Try.ntmps5
          go_wp2_with (first
            | (go_at_call 14; with_reducible refine HSH.out.mono ?_; rintro e w1 ⟨rfl, rfl⟩)
            | (go_at_call 29; with_reducible refine (HW.out _).mono ?_; rintro e w2 ⟨rfl, b2⟩)
            | (go_at_call 30; fail))
          refine (HH.out _).mono ?_
          rintro e w3 ⟨g, rfl, -, hr, b3⟩
          replace b2 := b2.trans (b3.mono b2.size)
          clear b3
          go_wp2_with (first
            | (go_at_call 17; with_reducible refine (HCH.out _).mono ?_; rintro e w5 ⟨rfl, n5, rfl⟩; rw [hch]; replace hr := hr.drewN n5; replace b2 := b2.trans (below_drewN n5); generalize World.drewN _ n5 = w5 at *)
            | (go_at_call 31; fail))
          refine (HRH.out _).mono ?_
          rintro e w7 ⟨A7, c7, rfl, b7, i7⟩
          rw [hlen]
          replace hr := hr.below b7
          replace b2 := b2.trans (b7.mono b2.size)
          clear b7
          go_wp2_with (go_at_call 24; fail)
          refine (HIN.out _ _ _ _ _ (iv_ints hr) i7).mono ?_
          rintro e w8 ⟨rfl, n8, rfl⟩
          replace b2 := b2.trans (below_drewN n8)
          clear hr i7
          generalize World.drewN _ n8 = w8 at *
          go_wp2_with (first
            | (go_at_call 18; with_reducible refine (HEV.out _).mono ?_; rintro e w9 ⟨rfl, b9⟩; rw [hev]; replace b2 := b2.trans (b9.mono b2.size))
            | (go_at_call 20; with_reducible refine (HAW.out _).mono ?_; rintro e w6 ⟨rfl, b6⟩; replace b2 := b2.trans (b6.mono b2.size)))
          go_ret
          exact ⟨rfl, b2⟩
end Go.Proofs.Ytopeppnajbnfgaa
