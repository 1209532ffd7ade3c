/- ClockSame: the reference's Same, and the law's walk. -/
import Derived.Test.YtignbpipdfjkeaaDoorCZ
import Derived.Test.YtignbpipdfjkeaaDoorCY
import Derived.Test.YtignbpipdfjkeaaDoorBF
namespace Go.Proofs.YtignbpipdfjkeaaDoor
open Go.RowKit Go.PlainAid
set_option maxHeartbeats 4000000
set_option maxRecDepth 100000
theorem smB_rn {L O : List (List Int)} (hL : IsMI L) (hO : IsMI O) (h1 : nS L = nS O) (h2 : L.length = O.length) : smB L O = rn (tabN L) (tabN O) L.length (nS L) 10 [] := by
  unfold smB
  rw [if_pos ⟨h1, h2⟩]
  refine cc_rn hL.n9 (fun b q hb hq => hL.isM.lt b q hb hq) (fun b q hb hq => ?_)
  rw [h1]
  exact hO.isM.lt b q (by omega) (by omega)
theorem refSame_any (L O : List (List Int)) (A B : Option Addr) (c d : Nat) (w : World) (hL : IsMI L) (hO : IsMI O) (ha : RowsAt w A L) (hb : RowsAt w B O) :
    Calls Tryd.prog 43 #[.slice A L.length c, .slice B O.length d] w fun e w' => e = .returned (.bool (smB L O)) ∧ Below w.heap.size w w' := by
  have b0 := Below.refl w.heap.size w
  by_cases h2 : L.length = O.length
  · obtain ⟨bA, oA, hA, hbA, hcA⟩ := id ha hL.k1
    obtain ⟨bB, oB, hB, hbB, hcB⟩ := id hb hO.k1
    obtain ⟨B0, c0, d0, -⟩ := hcA 0 hL.k1
    obtain ⟨B1, c1, d1, -⟩ := hcB 0 hO.k1
    rw [show (getl L 0).length = nS L from rfl, Nat.add_zero] at d0
    rw [show (getl O 0).length = nS O from rfl, Nat.add_zero] at d1
    have g1 : ((L.length : Int) != (O.length : Int)) = false := by rw [bne_eq_false_iff_eq]; omega
    have l1 := hL.k1
    have l2 := hO.k1
    by_cases h1 : nS L = nS O
    · have g2 : ((nS L : Int) != (nS O : Int)) = false := by rw [bne_eq_false_iff_eq]; omega
      have HR : Hid (∀ V, Below w.heap.size w V → Calls Tryd.prog 69 #[.slice A L.length c, .slice B O.length d, .slice none 0 0] V fun e w' => e = .returned (.bool (smB L O)) ∧ Below V.heap.size V w') := Lib.hid (fun V hV => by
        rw [smB_rn hL hO h1 h2, ← h2]
        exact renamed_any L O A B c d L.length (nS L) hL hO rfl h2.symm rfl h1.symm 10 [] none 0 V (ha.below hV) (hb.below hV) (fun h => absurd h (by simp [natI])) (fun _ => ⟨rfl, rfl⟩) (Nat.le_refl _) (fun i hi => absurd hi (by simp)) (by simp) (by have := hL.n9; simp; omega))
      clear hL hO ha hb hcA hcB h1 h2
      subst hA hB
      generalize smB L O = Y at *
      go_enter Tryd.func43, Tryd.ntmps43
      go_wp2
      refine wp_region_quiet_lit (by kernel_rfl) (by kernel_rfl) ?_
      repeat go_big_quiet_step ((fail))
      refine wpQuiet_nil ?_
      rintro _ ⟨nq, rfl⟩
      replace b0 := b0.trans (below_drewN nq)
      go_wp2_with (go_at_call 69; (with_reducible refine (HR.out _ b0).mono ?_); rintro e w1 ⟨rfl, b1⟩; replace b0 := b0.trans (b1.mono b0.size))
      go_ret
      exact ⟨rfl, b0⟩
    · have g2 : ((nS L : Int) != (nS O : Int)) = true := by rw [bne_iff_ne]; omega
      have hs : smB L O = false := by unfold smB; rw [if_neg (fun h => h1 h.1)]
      rw [hs]
      clear hL hO ha hb hcA hcB h1 h2 hs
      subst hA hB
      go_enter Tryd.func43, Tryd.ntmps43
      go_wp2
      refine wp_region_quiet_lit (by kernel_rfl) (by kernel_rfl) ?_
      repeat go_big_quiet_step ((fail))
      refine wpQuiet_nil ?_
      rintro _ ⟨nq, rfl⟩
      replace b0 := b0.trans (below_drewN nq)
      go_wp2
      go_ret
      exact ⟨rfl, b0⟩
  · have g1 : ((L.length : Int) != (O.length : Int)) = true := by rw [bne_iff_ne]; omega
    have hs : smB L O = false := by unfold smB; rw [if_neg (fun h => h2 h.2)]
    rw [hs]
    clear hL hO ha hb h2 hs
    go_enter Tryd.func43, Tryd.ntmps43
    go_wp2
    refine wp_region_quiet_lit (by kernel_rfl) (by kernel_rfl) ?_
    repeat go_big_quiet_step ((fail))
    refine wpQuiet_nil ?_
    rintro _ ⟨nq, rfl⟩
    replace b0 := b0.trans (below_drewN nq)
    go_wp2
    go_ret
    exact ⟨rfl, b0⟩
theorem cs_no (A B : Option Addr) (c d m n : Nat) (w : World) (M O : List (List Int)) (u v : Bool) (huv : u = false ∨ v = false)
    (HT : Hid (∀ V, Below w.heap.size w V → Calls Tryd.prog 16 #[.slice A m c] V (TabM V M)))
    (HT2 : Hid (∀ V, Below w.heap.size w V → Calls Tryd.prog 16 #[.slice B n d] V (TabM V O)))
    (HAW : Hid (∀ V, Below w.heap.size w V → Calls Tryd.prog 22 #[] V fun e w' => e = .returned (.bool true) ∧ Below V.heap.size V w'))
    (HS : Hid (∀ V A c B d, Below w.heap.size w V → RowsAt V A M → RowsAt V B O → Calls Tryd.prog 42 #[.slice A M.length c, .slice B O.length d] V fun e w' => e = .returned (.tuple #[.bool false, .int .i64 2]) ∧ Below V.heap.size V w'))
    (HR1 : Hid (∀ V A c, RowsAt V A M → Calls Tryd.prog 21 #[.slice A M.length c] V fun e w' => e = .returned (.bool u) ∧ V = w'))
    (HR2 : Hid (∀ V A c, RowsAt V A O → Calls Tryd.prog 21 #[.slice A O.length c] V fun e w' => e = .returned (.bool v) ∧ V = w')) :
    Calls Tryd.prog 8 #[.slice A m c, .slice B n d] w fun e w' => e = .returned (.bool true) ∧ Below w.heap.size w w' := by
  have b0 := Below.refl w.heap.size w
  cases u with
  | false =>
    clear huv
    go_enter Tryd.func8, Tryd.ntmps8
    go_wp2_with (first
      | (go_at_call 16; first | ((with_reducible refine (HT.out _ b0).mono ?_); rintro e w1 ⟨A1, c1, rfl, ra, b1⟩; replace b0 := b0.trans (b1.mono b0.size)) | ((with_reducible refine (HT2.out _ b0).mono ?_); rintro e w2 ⟨A2, c2, rfl, rb, b2⟩; replace ra := ra.below b2; replace b0 := b0.trans (b2.mono b0.size)))
      | (go_at_call 42; (with_reducible refine (HS.out _ _ _ _ _ b0 ra rb).mono ?_); rintro e w3 ⟨rfl, b3⟩; replace ra := ra.below b3; replace rb := rb.below b3; replace b0 := b0.trans (b3.mono b0.size))
      | (go_at_call 21; (with_reducible refine (HR1.out _ _ _ ra).mono ?_); rintro e w4 ⟨rfl, rfl⟩)
      | (go_at_call 22; (with_reducible refine (HAW.out _ b0).mono ?_); rintro e w5 ⟨rfl, b5⟩; replace b0 := b0.trans (b5.mono b0.size)))
    go_ret
    exact ⟨rfl, b0⟩
  | true =>
    cases v with
    | true => rcases huv with h | h <;> cases h
    | false =>
      clear huv
      go_enter Tryd.func8, Tryd.ntmps8
      go_wp2_with (first
        | (go_at_call 16; first | ((with_reducible refine (HT.out _ b0).mono ?_); rintro e w1 ⟨A1, c1, rfl, ra, b1⟩; replace b0 := b0.trans (b1.mono b0.size)) | ((with_reducible refine (HT2.out _ b0).mono ?_); rintro e w2 ⟨A2, c2, rfl, rb, b2⟩; replace ra := ra.below b2; replace b0 := b0.trans (b2.mono b0.size)))
        | (go_at_call 42; (with_reducible refine (HS.out _ _ _ _ _ b0 ra rb).mono ?_); rintro e w3 ⟨rfl, b3⟩; replace ra := ra.below b3; replace rb := rb.below b3; replace b0 := b0.trans (b3.mono b0.size))
        | (go_at_call 21; first | ((with_reducible refine (HR1.out _ _ _ ra).mono ?_); rintro e w4 ⟨rfl, rfl⟩) | ((with_reducible refine (HR2.out _ _ _ rb).mono ?_); rintro e w4 ⟨rfl, rfl⟩))
        | (go_at_call 22; (with_reducible refine (HAW.out _ b0).mono ?_); rintro e w5 ⟨rfl, b5⟩; replace b0 := b0.trans (b5.mono b0.size)))
      go_ret
      exact ⟨rfl, b0⟩
theorem cs_yes (A B : Option Addr) (c d m n : Nat) (w : World) (M O : List (List Int)) (Y : Bool)
    (HT : Hid (∀ V, Below w.heap.size w V → Calls Tryd.prog 16 #[.slice A m c] V (TabM V M)))
    (HT2 : Hid (∀ V, Below w.heap.size w V → Calls Tryd.prog 16 #[.slice B n d] V (TabM V O)))
    (HAW : Hid (∀ V, Below w.heap.size w V → Calls Tryd.prog 22 #[] V fun e w' => e = .returned (.bool true) ∧ Below V.heap.size V w'))
    (HS : Hid (∀ V A c B d, Below w.heap.size w V → RowsAt V A M → RowsAt V B O → Calls Tryd.prog 42 #[.slice A M.length c, .slice B O.length d] V fun e w' => e = .returned (.tuple #[.bool Y, .int .i64 0]) ∧ Below V.heap.size V w'))
    (HF : Hid (∀ V A c B d, Below w.heap.size w V → RowsAt V A M → RowsAt V B O → Calls Tryd.prog 43 #[.slice A M.length c, .slice B O.length d] V fun e w' => e = .returned (.bool Y) ∧ Below V.heap.size V w'))
    (HR1 : Hid (∀ V A c, RowsAt V A M → Calls Tryd.prog 21 #[.slice A M.length c] V fun e w' => e = .returned (.bool true) ∧ V = w'))
    (HR2 : Hid (∀ V A c, RowsAt V A O → Calls Tryd.prog 21 #[.slice A O.length c] V fun e w' => e = .returned (.bool true) ∧ V = w')) :
    Calls Tryd.prog 8 #[.slice A m c, .slice B n d] w fun e w' => e = .returned (.bool true) ∧ Below w.heap.size w w' := by
  have b0 := Below.refl w.heap.size w
  have g1 : (Y == Y) = true := by cases Y <;> rfl
  go_enter Tryd.func8, Tryd.ntmps8
  go_wp2_with (first
    | (go_at_call 16; first | ((with_reducible refine (HT.out _ b0).mono ?_); rintro e w1 ⟨A1, c1, rfl, ra, b1⟩; replace b0 := b0.trans (b1.mono b0.size)) | ((with_reducible refine (HT2.out _ b0).mono ?_); rintro e w2 ⟨A2, c2, rfl, rb, b2⟩; replace ra := ra.below b2; replace b0 := b0.trans (b2.mono b0.size)))
    | (go_at_call 42; (with_reducible refine (HS.out _ _ _ _ _ b0 ra rb).mono ?_); rintro e w3 ⟨rfl, b3⟩; replace ra := ra.below b3; replace rb := rb.below b3; replace b0 := b0.trans (b3.mono b0.size))
    | (go_at_call 43; (with_reducible refine (HF.out _ _ _ _ _ b0 ra rb).mono ?_); rintro e w3 ⟨rfl, b3⟩; replace b0 := b0.trans (b3.mono b0.size))
    | (go_at_call 21; first | ((with_reducible refine (HR1.out _ _ _ ra).mono ?_); rintro e w4 ⟨rfl, rfl⟩) | ((with_reducible refine (HR2.out _ _ _ rb).mono ?_); rintro e w4 ⟨rfl, rfl⟩))
    | (go_at_call 22; (with_reducible refine (HAW.out _ b0).mono ?_); rintro e w5 ⟨rfl, b5⟩; replace b0 := b0.trans (b5.mono b0.size)))
  go_ret
  exact ⟨rfl, b0⟩
theorem clockSame_any (A : Option Addr) (c : Nat) (L : List (List Int)) (B : Option Addr) (d : Nat) (K : List (List Int)) (w : World) (ht : TabW w) (hx : L.length ≤ c) (hc : c ≤ maxLen) (ha : RowsIn w A L) (hx2 : K.length ≤ d) (hd : d ≤ maxLen) (hb : RowsIn w B K) :
    Calls Tryd.prog 8 #[.slice A L.length c, .slice B K.length d] w fun e w' => e = .returned (.bool true) ∧ Below w.heap.size w w' := by
  obtain ⟨M, hl, hT⟩ := tabM_any A c L w hx hc ha
  obtain ⟨O, hl2, hT2⟩ := tabM_any B d K w hx2 hd hb
  have HT := Lib.hid hT
  have HT2 := Lib.hid hT2
  have HAW := Lib.hid (fun (V : World) (hV : Below w.heap.size w V) => awake_any V (ht.below hV ht.lt))
  have HR1 := Lib.hid (fun (V : World) A c ha => refMachine_any A c M V hl ha)
  have HR2 := Lib.hid (fun (V : World) A c ha => refMachine_any A c O V hl2 ha)
  by_cases h : okM M = true ∧ okM O = true
  · rw [h.1] at HR1
    rw [h.2] at HR2
    have h1 := okM_iff.1 h.1
    have h2 := okM_iff.1 h.2
    exact cs_yes A B c d _ _ w M O (smB M O) HT HT2 HAW (Lib.hid (fun V A c B d hV ha hb => Same_yes A B c d M O V h1 h2 ha hb (ht.below hV ht.lt))) (Lib.hid (fun V A c B d _ ha hb => refSame_any M O A B c d V h1 h2 ha hb)) HR1 HR2
  · have h' : okM M = false ∨ okM O = false := by
      cases e : okM M
      · exact .inl rfl
      · cases e2 : okM O
        · exact .inr rfl
        · exact absurd ⟨e, e2⟩ h
    exact cs_no A B c d _ _ w M O _ _ h' HT HT2 HAW (Lib.hid (fun V A c B d _ ha hb => Same_no A B c d M O V h' ha hb)) HR1 HR2
end Go.Proofs.YtignbpipdfjkeaaDoor
