/- SealsCuts: the walk. -/
import Derived.Test.YtopeppnajbnfgaaJD
import Derived.Test.YtopeppnajbnfgaaJE
import Derived.Test.YtopeppnajbnfgaaFY
namespace Go.Proofs.Ytopeppnajbnfgaa
open Go.RowKit
set_option maxHeartbeats 1000000
set_option maxRecDepth 100000
theorem kin_len (s : ByteArray) : (kin s).length = kinN s 4 := rfl
theorem nil_at (w : World) : IntsAt w none [] := fun h => absurd h (by simp)
theorem SealsCuts_any (str : ByteArray) (w : World) (hstr : str.size ≤ maxLen) : Calls Try.prog 3 #[.string str] w fun e w' => e = .returned (.bool true) ∧ Below w.heap.size w w' := by
  have HSH := Lib.hid (short_any str w hstr)
  have hsz := shortS_size str
  generalize shortS str = s at *
  have HAW := Lib.hid awake_any
  have HCH := Lib.hid (fun w => Chain_any s w (by omega))
  cases hce : (chV s && evV s)
  · have HFA := Lib.hid (fun w => Fair_bad s w hce)
    have HLE := Lib.hid (fun w => Least_bad s w hce)
    have HV : Hid (checkV s [] = 2) := Lib.hid (by unfold checkV; rw [hce]; rfl)
    have HCK : Hid (∀ w, Calls Try.prog 19 #[.string s, .slice none 0 0] w fun e w' => e = .returned (.int .i64 2) ∧ Below w.heap.size w w') := Lib.hid (fun w => by
      have := Check_any s none 0 [] w (by simp) (Nat.le_refl _) (nil_at w)
      rw [HV.out] at this
      exact this)
    cases hch : chV s
    · go_enter Try.func3, Try.ntmps3
      go_wp2_with (first
        | (go_at_call 14; with_reducible refine HSH.out.mono ?_; rintro e w1 ⟨rfl, rfl⟩)
        | (go_at_call 15; with_reducible refine (HFA.out _).mono ?_; rintro e w2 ⟨rfl, b2⟩)
        | (go_at_call 16; with_reducible refine (HLE.out _).mono ?_; rintro e w3 ⟨rfl, b3⟩; replace b2 := b2.trans (b3.mono b2.size))
        | (go_at_call 17; with_reducible refine (HCH.out _).mono ?_; rintro e w5 ⟨rfl, n5, rfl⟩; rw [hch]; replace b2 := b2.trans (below_drewN n5))
        | (go_at_call 19; with_reducible refine (HCK.out _).mono ?_; rintro e w4 ⟨rfl, b4⟩; replace b2 := b2.trans (b4.mono b2.size))
        | (go_at_call 20; with_reducible refine (HAW.out _).mono ?_; rintro e w6 ⟨rfl, b6⟩; replace b2 := b2.trans (b6.mono b2.size)))
      go_ret
      exact ⟨rfl, b2⟩
    · have hok : ∀ i, i < s.size → okC s i := (of_decide_eq_true hch).2
      have hev : evV s = false := by rw [hch] at hce; exact hce
      have HEV := Lib.hid (fun w => Even_any s w (by omega) hok)
      go_enter Try.func3, Try.ntmps3
      go_wp2_with (first
        | (go_at_call 14; with_reducible refine HSH.out.mono ?_; rintro e w1 ⟨rfl, rfl⟩)
        | (go_at_call 15; with_reducible refine (HFA.out _).mono ?_; rintro e w2 ⟨rfl, b2⟩)
        | (go_at_call 16; with_reducible refine (HLE.out _).mono ?_; rintro e w3 ⟨rfl, b3⟩; replace b2 := b2.trans (b3.mono b2.size))
        | (go_at_call 17; with_reducible refine (HCH.out _).mono ?_; rintro e w5 ⟨rfl, n5, rfl⟩; rw [hch]; replace b2 := b2.trans (below_drewN n5); generalize World.drewN _ n5 = w5 at *)
        | (go_at_call 18; with_reducible refine (HEV.out _).mono ?_; rintro e w9 ⟨rfl, b9⟩; rw [hev]; replace b2 := b2.trans (b9.mono b2.size))
        | (go_at_call 19; with_reducible refine (HCK.out _).mono ?_; rintro e w4 ⟨rfl, b4⟩; replace b2 := b2.trans (b4.mono b2.size))
        | (go_at_call 20; with_reducible refine (HAW.out _).mono ?_; rintro e w6 ⟨rfl, b6⟩; replace b2 := b2.trans (b6.mono b2.size)))
      go_ret
      exact ⟨rfl, b2⟩
  · obtain ⟨hch, hev⟩ := Bool.and_eq_true_iff.1 hce
    have hs := chV_size hch
    have hok : ∀ i, i < s.size → okC s i := (of_decide_eq_true hch).2
    obtain ⟨x, hx, hk, hA, hF, -⟩ := few_some hch hev
    have hcut : cutV 1 s.size x = true := cut_asc x.length 1 hA
    have hxl : x.length ≤ 4 := Nat.le_trans hk (kin_le s)
    have hgd : (fewV s 1 1).getD [] = x := by rw [hx]; rfl
    have HFA : Hid (∀ w, Calls Try.prog 15 #[.string s] w fun e w' => ∃ A c, e = .returned (.tuple #[.slice A x.length c, .int .i64 0]) ∧ x.length ≤ c ∧ IntsAt w' A x ∧ Below w.heap.size w w') := Lib.hid (fun w => (Fair_any s w hce).mono fun e w' h => by
      obtain ⟨v, rfl, b, hv⟩ := h
      rcases hv with ⟨y, h1, h2⟩ | ⟨h1, -⟩
      · rw [hx] at h1; injection h1 with h1; subst h1
        obtain ⟨A, c, rfl, hc, hi, -⟩ := own_sl h2
        exact ⟨A, c, rfl, hc, hi, b⟩
      · rw [hx] at h1; cases h1)
    have HLE : Hid (∀ w, Calls Try.prog 16 #[.string s] w fun e w' => ∃ A c, e = .returned (.tuple #[.slice A x.length c, .int .i64 0]) ∧ x.length ≤ c ∧ IntsAt w' A x ∧ Below w.heap.size w w') := Lib.hid (fun w => (Least_any s w hce).mono fun e w' h => by
      obtain ⟨v, rfl, b, hv⟩ := h
      rcases hv with ⟨y, h1, h2⟩ | ⟨h1, -⟩
      · rw [hx] at h1; injection h1 with h1; subst h1
        obtain ⟨A, c, rfl, hc, hi, -⟩ := own_sl h2
        exact ⟨A, c, rfl, hc, hi, b⟩
      · rw [hx] at h1; cases h1)
    have HRL : Hid (∀ w, Calls Try.prog 25 #[.string s] w fun e w' => ∃ A c, e = .returned (.slice A x.length c) ∧ IntsAt w' A x ∧ Below w.heap.size w w') := Lib.hid (fun w => (RefLeast_any s w hch hev).mono fun e w' h => by
      obtain ⟨A, c, y, rfl, b, hi, hy⟩ := h
      rw [hgd] at hy
      subst hy
      exact ⟨A, c, rfl, hi, b⟩)
    have HV := Lib.hid (show checkV s x = 0 by unfold checkV; rw [hch, hev, hcut, hF]; rfl)
    have HCK : Hid (∀ A c w, x.length ≤ c → IntsAt w A x → Calls Try.prog 19 #[.string s, .slice A x.length c] w fun e w' => e = .returned (.int .i64 0) ∧ Below w.heap.size w w') := Lib.hid (fun A c w hc hi => by
      have := Check_any s A c x w (by omega) hc hi
      rw [HV.out] at this
      exact this)
    have HCU : Hid (∀ A c w, IntsAt w A x → Calls Try.prog 21 #[.string s, .slice A x.length c, .int .i64 1] w fun e w' => e = .returned (.bool true) ∧ ∃ k, w' = w.drewN k) := Lib.hid (fun A c w hi => by
      have := Cuts_any s A c x 1 w (by omega) (by omega) hi
      rw [hcut] at this
      exact this)
    have HRF : Hid (∀ A c w, IntsAt w A x → Calls Try.prog 22 #[.string s, .slice A x.length c] w fun e w' => e = .returned (.bool true) ∧ Below w.heap.size w w') := Lib.hid (fun A c w hi => by
      have := RefFair_any s A c x w hs hok hcut hi
      rw [← fair_ref hs hev hcut, hF] at this
      exact this)
    have HKI := Lib.hid (fun w => Kinds_any s w (by omega) hok)
    have HEV := Lib.hid (fun w => Even_any s w (by omega) hok)
    have HIN : Hid (∀ A B c d w, IntsAt w A x → IntsAt w B x → Calls Try.prog 24 #[.slice A x.length c, .slice B x.length d] w fun e w' => e = .returned (.bool true) ∧ ∃ n, w' = w.drewN n) := Lib.hid (fun A B c d w h1 h2 => ints_yes A B c d x x.length w rfl (by omega) h1 h2)
    rw [kin_len] at hk
    have hk4 := kinN_le s 4
    generalize kinN s 4 = K at *
    have hg : decide ((K : Int) < x.length) = false := decide_eq_false (by omega)
    have HL := Lib.hid (rfl : x.length = x.length)
    generalize hn : x.length = n at *
    clear hA hcut hgd hF hx
    go_enter Try.func3, Try.ntmps3
    go_wp2_with (first
      | (go_at_call 14; with_reducible refine HSH.out.mono ?_; rintro e w1 ⟨rfl, rfl⟩)
      | (go_at_call 15; fail))
    refine (HFA.out _).mono ?_
    rintro e w2 ⟨A2, c2, rfl, hc2, i2, b2⟩
    go_wp2_with (go_at_call 16; fail)
    refine (HLE.out _).mono ?_
    rintro e w3 ⟨A3, c3, rfl, hc3, i3, b3⟩
    replace i2 := i2.below b3
    replace b2 := b2.trans (b3.mono b2.size)
    clear b3
    go_wp2_with (first
      | (go_at_call 17; with_reducible refine (HCH.out _).mono ?_; rintro e w5 ⟨rfl, n5, rfl⟩; rw [hch]; replace i2 := i2.drewN n5; replace i3 := i3.drewN n5; replace b2 := b2.trans (below_drewN n5); generalize World.drewN _ n5 = w5 at *)
      | (go_at_call 18; with_reducible refine (HEV.out _).mono ?_; rintro e w9 ⟨rfl, b9⟩; rw [hev]; replace i2 := i2.below b9; replace i3 := i3.below b9; replace b2 := b2.trans (b9.mono b2.size); clear b9)
      | (go_at_call 21; with_reducible refine (HCU.out _ _ _ i2).mono ?_; rintro e w7 ⟨rfl, n7, rfl⟩; replace i2 := i2.drewN n7; replace i3 := i3.drewN n7; replace b2 := b2.trans (below_drewN n7); generalize World.drewN _ n7 = w7 at *)
      | (go_at_call 22; with_reducible refine (HRF.out _ _ _ i2).mono ?_; rintro e wa ⟨rfl, ba⟩; replace i2 := i2.below ba; replace i3 := i3.below ba; replace b2 := b2.trans (ba.mono b2.size); clear ba)
      | (go_at_call 23; with_reducible refine (HKI.out _).mono ?_; rintro e wb ⟨rfl, bb⟩; replace i2 := i2.below bb; replace i3 := i3.below bb; replace b2 := b2.trans (bb.mono b2.size); clear bb)
      | (go_at_call 19; with_reducible refine (HCK.out _ _ _ hc2 i2).mono ?_; rintro e wc ⟨rfl, bc⟩; replace i2 := i2.below bc; replace i3 := i3.below bc; replace b2 := b2.trans (bc.mono b2.size); clear bc)
      | (go_at_call 25; fail))
    refine (HRL.out _).mono ?_
    rintro e wd ⟨A4, c4, rfl, i4, bd⟩
    replace i3 := i3.below bd
    replace b2 := b2.trans (bd.mono b2.size)
    clear bd i2 hc2
    go_wp2_with (first
      | (go_at_call 24; with_reducible refine (HIN.out _ _ _ _ _ i3 i4).mono ?_; rintro e we ⟨rfl, n6, rfl⟩; replace i3 := i3.drewN n6; replace b2 := b2.trans (below_drewN n6); generalize World.drewN _ n6 = we at *)
      | (go_at_call 19; with_reducible refine (HCK.out _ _ _ hc3 i3).mono ?_; rintro e wf ⟨rfl, bf⟩; replace b2 := b2.trans (bf.mono b2.size); clear bf)
      | (go_at_call 20; with_reducible refine (HAW.out _).mono ?_; rintro e w6 ⟨rfl, b6⟩; replace b2 := b2.trans (b6.mono b2.size)))
    go_ret
    exact ⟨rfl, b2⟩
end Go.Proofs.Ytopeppnajbnfgaa
