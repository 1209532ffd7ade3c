/- SumsTold: the walk. -/
import Derived.Test.YtokjdadgdfmffaaPC
import Derived.Test.YtokjdadgdfmffaaNE
namespace Go.Proofs.Ytokjdadgdfmffaa
open Go.RowKit Ols
set_option maxHeartbeats 4000000
set_option maxRecDepth 100000
theorem zr_zero (m n : Nat) (L : List (List Int)) : zrL m n L ((0 / n : Nat) : Int) ((0 % n : Nat) : Int) = zrL m n L 0 0 := by rw [Nat.zero_div, Nat.zero_mod]; rfl
theorem code_nz {n c : Nat} (h : c ≠ 0) : ¬ (((c / n : Nat) : Int) = 0 ∧ ((c % n : Nat) : Int) = 0) := fun ⟨h1, h2⟩ => by
  have h3 := Nat.div_add_mod c n
  rw [show c / n = 0 by omega, show c % n = 0 by omega] at h3
  omega
theorem SumsTold_any (A0 : Option Addr) (c0 : Nat) (gs : List Int) (A1 : Option Addr) (c1 : Nat) (L : List (List Int)) (w : World)
    (hx0 : gs.length ≤ c0) (hc0 : c0 ≤ maxLen) (ha0 : IntsAt w A0 gs) (hx1 : L.length ≤ c1) (hc1 : c1 ≤ maxLen) (ha1 : RowsIn w A1 L) :
    Calls Try.prog 8 #[.slice A0 gs.length c0, .slice A1 L.length c1] w fun e w' => e = .returned (.bool true) ∧ Below w.heap.size w w' := by
  have hal : gs.length ≤ 9223372036854775807 := by unfold maxLen at hc0; omega
  have hbl : L.length ≤ 9223372036854775807 := by unfold maxLen at hc1; omega
  have HGR := Lib.hid (group_any A0 c0 gs w hal ha0)
  have HB := Lib.hid ha1
  have HAW := Lib.hid awake_any
  clear ha0 ha1 hx0 hc0 hx1 hc1
  go_enter Try.func8, Try.ntmps8
  go_wp2_with (go_at_call 39; fail)
  refine HGR.out.mono ?_
  rintro e w1 ⟨v1, g, m, n, rfl, hG, o1, b1⟩
  obtain ⟨Ag, cg, rfl, -, -, ig⟩ := own_cap o1
  clear HGR o1
  have HEL := Lib.hid (elements_any Ag A1 cg c1 g L 12 m n w1 hG ⟨by omega, by omega⟩ hbl (HB.out.below b1).at.2 ig (HB.out.below b1).at.1)
  have HIG := Lib.hid ig
  have HG := Lib.hid hG
  clear hG ig HB
  go_wp2_with (go_at_call 40; fail)
  refine HEL.out.mono ?_
  rintro e w2 ⟨A3, c3, cs, L', rfl, hL1, hE, o3, r3, b3⟩
  have hl60 : L'.length ≤ 60 := by rw [hL1]; simp; omega
  have hv := els_rl hE hl60
  have HR := Lib.hid (rows_at r3 o3)
  have HIG2 := Lib.hid (HIG.out.below b3)
  replace b1 := b1.trans (b3.mono b1.size)
  have hrl2 : ∀ i, i < L'.length → (getl L' i).length ≤ 1000000 := fun i hi => by have := (hE i hi).2; omega
  clear HEL HIG hL1 o3 r3 b3
  have HSM := Lib.hid (Sums_any Ag A3 cg c3 m n g L' w2 HG.out hrl2 HIG2.out HR.out hv)
  obtain ⟨M, hM⟩ : ∃ M, m * n = M := ⟨_, rfl⟩
  have hmn : m * n ≤ 144 := HG.out.2.2.2.1
  have hmn1 : 0 < m * n := Nat.mul_pos (by have := HG.out.1.1; omega) (by have := HG.out.1.2.2.1; omega)
  have hN2 := isG_len HG.out
  have hdl := fun c => dcL_len (isG_good HG.out).2.2 n c
  have HSZ : Hid (∀ w, IntsAt w Ag g → Calls Try.prog 42 #[.slice Ag g.length cg] w fun e w' => e = .returned (.int .i64 (M : Int)) ∧ w = w') := Lib.hid fun w h => by rw [← hM]; exact RefSize_any Ag cg m n g w HG.out h
  have HDE : Hid (∀ (c : Nat) w, c < M → IntsAt w Ag g → Calls Try.prog 43 #[.slice Ag g.length cg, .int .i64 c] w fun e w' => ∃ gd, e = .returned (.slice (some ⟨gd, 0, none⟩) g.length g.length) ∧ IntsAt w' (some ⟨gd, 0, none⟩) (dcL g n c) ∧ Below w.heap.size w w') := Lib.hid fun c w hc h =>
    (RefDecoded_any Ag cg m n c g w HG.out (by rw [hM]; exact hc) h).mono fun e w' ⟨gd, k1, k2, k3, k4⟩ => ⟨gd, by rw [k1, hdl], row_intsL k3, k4⟩
  have HP0 : Hid (∀ (c : Nat), c < M → c = 0 → ∀ gd w, IntsAt w Ag g → RowsAt w A3 L' → IntsAt w (some ⟨gd, 0, none⟩) (dcL g n c) → Calls Try.prog 17 #[.slice Ag g.length cg, .slice A3 L'.length c3, .slice (some ⟨gd, 0, none⟩) g.length g.length] w (NoneR w 0)) := Lib.hid fun c hc h0 gd w h1 h2 h3 => by
    obtain ⟨e1, e2, e3⟩ := elAB_dcL (c := c) HG.out (by rw [hM]; exact hc)
    have := Part_zero Ag A3 (some ⟨gd, 0, none⟩) cg c3 g.length m n g (dcL g n c) L' w HG.out hrl2 (by rw [hdl]; omega) h1 h2 h3 hv e1 (by rw [e2, e3, h0, Nat.zero_div, Nat.zero_mod]; exact ⟨rfl, rfl⟩)
    rwa [hdl] at this
  have HPN : Hid (∀ (c : Nat), c < M → c ≠ 0 → zrL m n L' ((c / n : Nat) : Int) ((c % n : Nat) : Int) = [] → ∀ gd w, IntsAt w Ag g → RowsAt w A3 L' → IntsAt w (some ⟨gd, 0, none⟩) (dcL g n c) → Calls Try.prog 17 #[.slice Ag g.length cg, .slice A3 L'.length c3, .slice (some ⟨gd, 0, none⟩) g.length g.length] w (NoneR w 6)) := Lib.hid fun c hc h0 hz gd w h1 h2 h3 => by
    obtain ⟨e1, e2, e3⟩ := elAB_dcL (c := c) HG.out (by rw [hM]; exact hc)
    have := Part_go Ag A3 (some ⟨gd, 0, none⟩) cg c3 g.length m n g (dcL g n c) L' w HG.out hrl2 (by rw [hdl]; omega) h1 h2 h3 hv e1 (by rw [e2, e3]; exact code_nz h0)
    rw [hdl, e2, e3] at this
    exact this.mono fun e w' h => h.1 hz
  have HPS : Hid (∀ (c : Nat) (Z : List Nat), c < M → c ≠ 0 → zrL m n L' ((c / n : Nat) : Int) ((c % n : Nat) : Int) = Z.map (fun x : Nat => (x : Int)) → 1 ≤ Z.length → ∀ gd w, IntsAt w Ag g → RowsAt w A3 L' → IntsAt w (some ⟨gd, 0, none⟩) (dcL g n c) → Calls Try.prog 17 #[.slice Ag g.length cg, .slice A3 L'.length c3, .slice (some ⟨gd, 0, none⟩) g.length g.length] w fun e w' => ∃ b o cz, e = .returned (.tuple #[.slice (some ⟨b, o, none⟩) Z.length cz, .int .i64 0]) ∧ IntsAt w' (some ⟨b, o, none⟩) (Z.map fun x : Nat => (x : Int)) ∧ Below w.heap.size w w') := Lib.hid fun c Z hc h0 hz hZ gd w h1 h2 h3 => by
    obtain ⟨e1, e2, e3⟩ := elAB_dcL (c := c) HG.out (by rw [hM]; exact hc)
    have := Part_go Ag A3 (some ⟨gd, 0, none⟩) cg c3 g.length m n g (dcL g n c) L' w HG.out hrl2 (by rw [hdl]; omega) h1 h2 h3 hv e1 (by rw [e2, e3]; exact code_nz h0)
    rw [hdl, e2, e3, hz] at this
    exact this.mono fun e w' h => by
      obtain ⟨b, o, cz, k1, k2, k3⟩ := h.2 (by rw [List.length_map]; omega)
      exact ⟨b, o, cz, by rw [k1, List.length_map], k2, k3⟩
  have HTO : Hid (∀ (Z : List Nat) (xs : List Int), Z.length ≤ 60 → Z.Pairwise (· < ·) → (∀ x ∈ Z, x < L'.length) → fL g.length (tF g L' Z) = xs → ∀ Ap cp w, IntsAt w Ag g → RowsAt w A3 L' → IntsAt w Ap (Z.map fun x : Nat => (x : Int)) → Calls Try.prog 41 #[.slice Ag g.length cg, .slice A3 L'.length c3, .slice Ap Z.length cp] w fun e w' => ∃ gO, e = .returned (.tuple #[.slice (some ⟨gO, 0, none⟩) g.length g.length, .bool true]) ∧ IntsAt w' (some ⟨gO, 0, none⟩) xs ∧ Below w.heap.size w w') := Lib.hid fun Z xs z1 z2 z3 z4 Ap cp w h1 h2 h3 =>
    (total_any Ag A3 Ap cg c3 cp g.length g L' Z w rfl hN2 (fun j hj => by
      obtain ⟨q, hq, q1, q2⟩ := isG_rng HG.out hj
      rw [hq]; omega) (by omega) (fun x hx => ⟨el_len HG.out (hE x hx).1, fun j hj => by
      have := el_rng HG.out (hE x hx).1 j hj
      obtain ⟨q, hq, q1, q2⟩ := isG_rng HG.out hj
      omega⟩) (by omega) z2 z3 h1 h2 h3).mono fun e w' ⟨gO, k1, k2, k3, k4⟩ => ⟨gO, k1, by rw [← z4]; exact row_intsL k3, k4⟩
  have HIN : Hid (∀ A B c d (xs : List Int) w, xs.length = g.length → IntsAt w A xs → IntsAt w B xs → Calls Try.prog 23 #[.slice A g.length c, .slice B g.length d] w fun e w' => e = .returned (.bool true) ∧ ∃ n, w' = w.drewN n) := Lib.hid fun A B c d xs w hl h1 h2 => ints_yes A B c d xs g.length w hl (by omega) h1 h2
  have HXX := Lib.hid hdl
  have HZS := Lib.hid (fun (c : Nat) (hc : c < M) => told_some (c := c) HG.out hv (by rw [hM]; exact hc))
  have HTN := Lib.hid (tot_nil HG.out hv hmn1)
  have HKY := Lib.hid (fun (c : Nat) (hc : c < M) => cdK_at (g := g) (L := L') (c := c) (by rw [hM]; exact hc))
  have HKE := Lib.hid (cdK_end g m n L')
  rw [hM] at HKE
  have HZ6 : Hid (zrL m n L' 0 0 = [] → ∀ w, IntsAt w Ag g → RowsAt w A3 L' → Calls Try.prog 16 #[.slice Ag g.length cg, .slice A3 L'.length c3] w fun e w' => ∃ (Az : Option Addr) (lz cz : Nat), e = .returned (.tuple #[.slice Az lz cz, .int .i64 6]) ∧ Below w.heap.size w w') := Lib.hid fun hz w h1 h2 =>
    (Zero_none Ag A3 cg c3 m n g L' w HG.out hrl2 h1 h2 hv hz).mono fun e w' ⟨k1, k2⟩ => ⟨none, 0, 0, k1, k2⟩
  have HZ0 : Hid (zrL m n L' 0 0 ≠ [] → ∀ w, IntsAt w Ag g → RowsAt w A3 L' → Calls Try.prog 16 #[.slice Ag g.length cg, .slice A3 L'.length c3] w fun e w' => ∃ (Az : Option Addr) (lz cz : Nat), e = .returned (.tuple #[.slice Az lz cz, .int .i64 0]) ∧ Below w.heap.size w w') := Lib.hid fun hz w h1 h2 =>
    (Zero_some Ag A3 cg c3 m n g L' w HG.out hrl2 h1 h2 hv (List.length_pos_iff.2 hz)).mono fun e w' ⟨b, o, c, k1, k2, k3⟩ => ⟨some ⟨b, o, none⟩, _, c, k1, k3⟩
  rw [hM] at hmn
  clear hrl2 hE hv hN2 hmn1
  unfold SumsQ at HSM
  generalize sumLL g m n L' = LL at *
  obtain ⟨S1, hS1⟩ : ∃ S1, LL.length = S1 := ⟨_, rfl⟩
  have HSL := Lib.hid hS1
  rw [hS1] at HSM HKE
  have hS2 : S1 ≤ M := by rw [HKE.out]; unfold cdK; exact Nat.le_trans (List.length_filter_le _ _) (by simp)
  clear hM hdl
  have HN0 := Lib.hid hS1
  clear hS1
  generalize hN : g.length = N at *
  clear hN
  go_wp2_with (go_at_call 27; fail)
  refine HSM.out.mono ?_
  rintro e w3 ⟨G, rfl, hG3, hrn, b4⟩
  have HS := Lib.hid hrn.at
  replace HR := Lib.hid (HR.out.below b4)
  replace HIG2 := Lib.hid (HIG2.out.below b4)
  replace b1 := b1.trans (b4.mono b1.size)
  clear b4 hrn hG3 HSM
  by_cases hz0 : zrL m n L' 0 0 = []
  · skip
    have HZC := Lib.hid (HZ6.out hz0 _ HIG2.out HR.out)
    have HZ0' := Lib.hid hz0
    clear HZ6 HZ0 hz0
    go_wp2_with (go_at_call 16; fail)
    refine HZC.out.mono ?_
    rintro e W ⟨Az, lz, cz0, rfl, b4⟩
    replace HR := Lib.hid (HR.out.below b4)
    replace HIG2 := Lib.hid (HIG2.out.below b4)
    replace HS := Lib.hid (HS.out.below b4)
    replace b1 := b1.trans (b4.mono b1.size)
    clear b4 HZC
    have HB1 := Lib.hid b1
    have hbW := b1.size
    clear b1
    go_wp2
    go_loopw [11, 12] (fun kv iv wr => ∃ c : Nat, c ≤ M ∧ iv = .int .i64 c ∧ kv = .int .i64 (cdK m n L' c : Nat) ∧ Below W.heap.size W wr) (fun _ iv _ => M - (intOf iv).toNat)
    case atStart => exact ⟨0, by omega, rfl, rfl, Below.refl _ _⟩
    case round =>
      obtain ⟨c, hc, rfl, rfl, bl⟩ := hrel
      have HIGr := Lib.hid (HIG2.out.below bl)
      have HRr := Lib.hid (HR.out.below bl)
      have HSr := Lib.hid (HS.out.below bl)
      by_cases hlt : c < M
      · have g1 : decide ((c : Int) < (M : Int)) = true := decide_eq_true (by omega)
        have HCM := Lib.hid hlt
        have HDEc := Lib.hid (fun w h => HDE.out c w hlt h)
        have HXL := Lib.hid (HXX.out c)
        by_cases hz : zrL m n L' ((c / n : Nat) : Int) ((c % n : Nat) : Int) = []
        · have HKN := Lib.hid (cdK_no hz)
          by_cases h0 : c = 0
          · have gC : ((c : Int) == 0) = true := by rw [h0]; rfl
            have HPc := Lib.hid (HP0.out c hlt h0)
            have HTc := Lib.hid (HTO.out [] (dcL g n c) (by simp) List.Pairwise.nil (by simp) (by rw [h0]; exact HTN.out))
            clear h0 hz hlt hc
            generalize cdK m n L' c = k at *
            generalize dcL g n c = xs at *
            go_wp2_with (go_at_call 42; fail)
            refine (HSZ.out _ HIGr.out).mono ?_
            rintro e wq ⟨rfl, rfl⟩
            go_wp2_with (go_at_call 43; fail)
            refine (HDEc.out _ HIGr.out).mono ?_
            rintro e w5 ⟨gd, rfl, id, b5⟩
            replace HIGr := Lib.hid (HIGr.out.below b5)
            replace HRr := Lib.hid (HRr.out.below b5)
            replace HSr := Lib.hid (HSr.out.below b5)
            replace bl := bl.trans (b5.mono bl.size)
            have HID := Lib.hid id
            clear id b5 HDEc
            go_wp2_with (go_at_call 17; fail)
            refine (HPc.out _ _ HIGr.out HRr.out HID.out).mono ?_
            rintro e w6 ⟨rfl, b6⟩
            replace HIGr := Lib.hid (HIGr.out.below b6)
            replace HRr := Lib.hid (HRr.out.below b6)
            replace HSr := Lib.hid (HSr.out.below b6)
            replace HID := Lib.hid (HID.out.below b6)
            replace bl := bl.trans (b6.mono bl.size)
            clear b6 HPc
            go_wp2_with (go_at_call 41; fail)
            refine (HTc.out _ _ _ HIGr.out HRr.out (fun hp => absurd hp (by simp))).mono ?_
            rintro e w7 ⟨gO, rfl, io, b7⟩
            replace HIGr := Lib.hid (HIGr.out.below b7)
            replace HRr := Lib.hid (HRr.out.below b7)
            replace HSr := Lib.hid (HSr.out.below b7)
            replace HID := Lib.hid (HID.out.below b7)
            replace bl := bl.trans (b7.mono bl.size)
            have HIO := Lib.hid io
            clear b7 io HTc
            go_wp2_with (go_at_call 23; fail)
            refine (HIN.out _ _ _ _ xs _ HXL.out HIO.out HID.out).mono ?_
            rintro e w8 ⟨rfl, n8, rfl⟩
            replace HIGr := Lib.hid (HIGr.out.below (below_drewN n8))
            replace HRr := Lib.hid (HRr.out.below (below_drewN n8))
            replace HSr := Lib.hid (HSr.out.below (below_drewN n8))
            replace HID := Lib.hid (HID.out.below (below_drewN n8))
            replace bl := bl.trans (below_drewN n8)
            generalize World.drewN _ n8 = va at *
            go_wp2
            go_roundw
            case rel => exact ⟨c + 1, by have := HCM.out; omega, by go_num, by rw [HKN.out], bl⟩
            case measure => have := HCM.out; simp [intOf]; omega
          · have gC : ((c : Int) == 0) = false := by simpa using h0
            have HPc := Lib.hid (HPN.out c hlt h0 hz)
            clear h0 hz hlt hc
            generalize cdK m n L' c = k at *
            generalize dcL g n c = xs at *
            go_wp2_with (go_at_call 42; fail)
            refine (HSZ.out _ HIGr.out).mono ?_
            rintro e wq ⟨rfl, rfl⟩
            go_wp2_with (go_at_call 43; fail)
            refine (HDEc.out _ HIGr.out).mono ?_
            rintro e w5 ⟨gd, rfl, id, b5⟩
            replace HIGr := Lib.hid (HIGr.out.below b5)
            replace HRr := Lib.hid (HRr.out.below b5)
            replace HSr := Lib.hid (HSr.out.below b5)
            replace bl := bl.trans (b5.mono bl.size)
            have HID := Lib.hid id
            clear id b5 HDEc
            go_wp2_with (go_at_call 17; fail)
            refine (HPc.out _ _ HIGr.out HRr.out HID.out).mono ?_
            rintro e w6 ⟨rfl, b6⟩
            replace HIGr := Lib.hid (HIGr.out.below b6)
            replace HRr := Lib.hid (HRr.out.below b6)
            replace HSr := Lib.hid (HSr.out.below b6)
            replace HID := Lib.hid (HID.out.below b6)
            replace bl := bl.trans (b6.mono bl.size)
            clear b6 HPc
            go_wp2
            go_roundw
            case rel => exact ⟨c + 1, by have := HCM.out; omega, by go_num, by rw [HKN.out], bl⟩
            case measure => have := HCM.out; simp [intOf]; omega
        · have HKN := Lib.hid (cdK_yes hz)
          obtain ⟨hK1, hK2⟩ := HKY.out c hlt hz
          rw [HSL.out] at hK1
          have HKA := Lib.hid hK2
          clear hK2
          by_cases h0 : c = 0
          · rw [h0, zr_zero] at hz
            exact absurd HZ0'.out hz
          · have gC : ((c : Int) == 0) = false := by simpa using h0
            obtain ⟨Z, z1, z2, z3, z4, z5, z6⟩ := HZS.out c hlt hz
            have HPc := Lib.hid (HPS.out c Z hlt h0 z1 z2)
            have HTc := Lib.hid (HTO.out Z (dcL g n c) z3 z4 z5 z6)
            clear h0 hz hlt hc z1 z4 z5 z6
            generalize cdK m n L' c = k at *
            generalize dcL g n c = xs at *
            have gk : decide ((S1 : Int) ≤ (k : Int)) = false := decide_eq_false (by omega)
            have gk2 : decide (S1 ≤ k) = false := decide_eq_false (by omega)
            have gk3 : decide ((k : Int) < (S1 : Int)) = true := decide_eq_true (by omega)
            obtain ⟨KZ, hKZ⟩ : ∃ KZ, Z.length = KZ := ⟨_, rfl⟩
            rw [hKZ] at HPc HTc z2 z3
            clear hKZ
            have gz : decide ((0 : Int) < (KZ : Int)) = true := decide_eq_true (by omega)
            have gz2 : decide (0 < KZ) = true := decide_eq_true (by omega)
            go_wp2_with (go_at_call 42; fail)
            refine (HSZ.out _ HIGr.out).mono ?_
            rintro e wq ⟨rfl, rfl⟩
            go_wp2_with (go_at_call 43; fail)
            refine (HDEc.out _ HIGr.out).mono ?_
            rintro e w5 ⟨gd, rfl, id, b5⟩
            replace HIGr := Lib.hid (HIGr.out.below b5)
            replace HRr := Lib.hid (HRr.out.below b5)
            replace HSr := Lib.hid (HSr.out.below b5)
            replace bl := bl.trans (b5.mono bl.size)
            have HID := Lib.hid id
            clear id b5 HDEc
            go_wp2_with (go_at_call 17; fail)
            refine (HPc.out _ _ HIGr.out HRr.out HID.out).mono ?_
            rintro e w6 ⟨bz, oz, cz, rfl, iz, b6⟩
            replace HIGr := Lib.hid (HIGr.out.below b6)
            replace HRr := Lib.hid (HRr.out.below b6)
            replace HSr := Lib.hid (HSr.out.below b6)
            replace HID := Lib.hid (HID.out.below b6)
            replace bl := bl.trans (b6.mono bl.size)
            have HIZ := Lib.hid iz
            clear b6 iz HPc
            go_wp2_with (go_at_call 41; fail)
            refine (HTc.out _ _ _ HIGr.out HRr.out HIZ.out).mono ?_
            rintro e w7 ⟨gO, rfl, io, b7⟩
            replace HIGr := Lib.hid (HIGr.out.below b7)
            replace HRr := Lib.hid (HRr.out.below b7)
            replace HSr := Lib.hid (HSr.out.below b7)
            replace HID := Lib.hid (HID.out.below b7)
            replace bl := bl.trans (b7.mono bl.size)
            have HIO := Lib.hid io
            clear b7 io HTc
            go_wp2_with (go_at_call 23; fail)
            refine (HIN.out _ _ _ _ xs _ HXL.out HIO.out HID.out).mono ?_
            rintro e w8 ⟨rfl, n8, rfl⟩
            replace HIGr := Lib.hid (HIGr.out.below (below_drewN n8))
            replace HRr := Lib.hid (HRr.out.below (below_drewN n8))
            replace HSr := Lib.hid (HSr.out.below (below_drewN n8))
            replace HID := Lib.hid (HID.out.below (below_drewN n8))
            replace bl := bl.trans (below_drewN n8)
            generalize World.drewN _ n8 = va at *
            obtain ⟨bs, os, hes, hbs, hcs⟩ := HSr.out (by rw [HSL.out]; omega)
            injection hes with hes
            injection hes with hes1 hes2
            subst hes1 hes2
            obtain ⟨Bs, ccs, cls, ixs⟩ := hcs k (by rw [HSL.out]; omega)
            rw [HKA.out] at cls ixs
            rw [HXL.out, Nat.zero_add] at cls
            have HIX := Lib.hid ixs
            clear hcs ixs hbs
            go_wp2_with (go_at_call 23; fail)
            refine (HIN.out _ _ _ _ xs _ HXL.out HIX.out HID.out).mono ?_
            rintro e w8 ⟨rfl, n8, rfl⟩
            replace HIGr := Lib.hid (HIGr.out.below (below_drewN n8))
            replace HRr := Lib.hid (HRr.out.below (below_drewN n8))
            replace HSr := Lib.hid (HSr.out.below (below_drewN n8))
            replace HID := Lib.hid (HID.out.below (below_drewN n8))
            replace bl := bl.trans (below_drewN n8)
            generalize World.drewN _ n8 = vc at *
            go_wp2
            go_roundw
            case rel => exact ⟨c + 1, by have := HCM.out; omega, by go_num, by rw [HKN.out]; go_num, bl⟩
            case measure => have := HCM.out; simp [intOf]; omega
      · obtain rfl : c = M := by omega
        have g1 : decide ((c : Int) < (c : Int)) = false := decide_eq_false (by omega)
        rw [← HKE.out]
        have b9 := HB1.out.trans (bl.mono hbW)
        go_wp2_with (go_at_call 42; fail)
        refine (HSZ.out _ HIGr.out).mono ?_
        rintro e wq ⟨rfl, rfl⟩
        go_wp2_with (go_at_call 20; with_reducible refine (HAW.out _).mono ?_; rintro e wy ⟨rfl, bY⟩; replace b9 := b9.trans (bY.mono b9.size))
        go_ret
        exact ⟨rfl, b9⟩
  · skip
    have HZC := Lib.hid (HZ0.out hz0 _ HIG2.out HR.out)
    have HZ0' := Lib.hid hz0
    clear HZ6 HZ0 hz0
    go_wp2_with (go_at_call 16; fail)
    refine HZC.out.mono ?_
    rintro e W ⟨Az, lz, cz0, rfl, b4⟩
    replace HR := Lib.hid (HR.out.below b4)
    replace HIG2 := Lib.hid (HIG2.out.below b4)
    replace HS := Lib.hid (HS.out.below b4)
    replace b1 := b1.trans (b4.mono b1.size)
    clear b4 HZC
    have HB1 := Lib.hid b1
    have hbW := b1.size
    clear b1
    go_wp2
    go_loopw [11, 12] (fun kv iv wr => ∃ c : Nat, c ≤ M ∧ iv = .int .i64 c ∧ kv = .int .i64 (cdK m n L' c : Nat) ∧ Below W.heap.size W wr) (fun _ iv _ => M - (intOf iv).toNat)
    case atStart => exact ⟨0, by omega, rfl, rfl, Below.refl _ _⟩
    case round =>
      obtain ⟨c, hc, rfl, rfl, bl⟩ := hrel
      have HIGr := Lib.hid (HIG2.out.below bl)
      have HRr := Lib.hid (HR.out.below bl)
      have HSr := Lib.hid (HS.out.below bl)
      by_cases hlt : c < M
      · have g1 : decide ((c : Int) < (M : Int)) = true := decide_eq_true (by omega)
        have HCM := Lib.hid hlt
        have HDEc := Lib.hid (fun w h => HDE.out c w hlt h)
        have HXL := Lib.hid (HXX.out c)
        by_cases hz : zrL m n L' ((c / n : Nat) : Int) ((c % n : Nat) : Int) = []
        · have HKN := Lib.hid (cdK_no hz)
          by_cases h0 : c = 0
          · rw [h0, zr_zero] at hz
            exact absurd hz HZ0'.out
          · have gC : ((c : Int) == 0) = false := by simpa using h0
            have HPc := Lib.hid (HPN.out c hlt h0 hz)
            clear h0 hz hlt hc
            generalize cdK m n L' c = k at *
            generalize dcL g n c = xs at *
            go_wp2_with (go_at_call 42; fail)
            refine (HSZ.out _ HIGr.out).mono ?_
            rintro e wq ⟨rfl, rfl⟩
            go_wp2_with (go_at_call 43; fail)
            refine (HDEc.out _ HIGr.out).mono ?_
            rintro e w5 ⟨gd, rfl, id, b5⟩
            replace HIGr := Lib.hid (HIGr.out.below b5)
            replace HRr := Lib.hid (HRr.out.below b5)
            replace HSr := Lib.hid (HSr.out.below b5)
            replace bl := bl.trans (b5.mono bl.size)
            have HID := Lib.hid id
            clear id b5 HDEc
            go_wp2_with (go_at_call 17; fail)
            refine (HPc.out _ _ HIGr.out HRr.out HID.out).mono ?_
            rintro e w6 ⟨rfl, b6⟩
            replace HIGr := Lib.hid (HIGr.out.below b6)
            replace HRr := Lib.hid (HRr.out.below b6)
            replace HSr := Lib.hid (HSr.out.below b6)
            replace HID := Lib.hid (HID.out.below b6)
            replace bl := bl.trans (b6.mono bl.size)
            clear b6 HPc
            go_wp2
            go_roundw
            case rel => exact ⟨c + 1, by have := HCM.out; omega, by go_num, by rw [HKN.out], bl⟩
            case measure => have := HCM.out; simp [intOf]; omega
        · have HKN := Lib.hid (cdK_yes hz)
          obtain ⟨hK1, hK2⟩ := HKY.out c hlt hz
          rw [HSL.out] at hK1
          have HKA := Lib.hid hK2
          clear hK2
          by_cases h0 : c = 0
          · have gC : ((c : Int) == 0) = true := by rw [h0]; rfl
            have HPc := Lib.hid (HP0.out c hlt h0)
            have HTc := Lib.hid (HTO.out [] (dcL g n c) (by simp) List.Pairwise.nil (by simp) (by rw [h0]; exact HTN.out))
            clear h0 hz hlt hc
            generalize cdK m n L' c = k at *
            generalize dcL g n c = xs at *
            have gk : decide ((S1 : Int) ≤ (k : Int)) = false := decide_eq_false (by omega)
            have gk2 : decide (S1 ≤ k) = false := decide_eq_false (by omega)
            have gk3 : decide ((k : Int) < (S1 : Int)) = true := decide_eq_true (by omega)
            go_wp2_with (go_at_call 42; fail)
            refine (HSZ.out _ HIGr.out).mono ?_
            rintro e wq ⟨rfl, rfl⟩
            go_wp2_with (go_at_call 43; fail)
            refine (HDEc.out _ HIGr.out).mono ?_
            rintro e w5 ⟨gd, rfl, id, b5⟩
            replace HIGr := Lib.hid (HIGr.out.below b5)
            replace HRr := Lib.hid (HRr.out.below b5)
            replace HSr := Lib.hid (HSr.out.below b5)
            replace bl := bl.trans (b5.mono bl.size)
            have HID := Lib.hid id
            clear id b5 HDEc
            go_wp2_with (go_at_call 17; fail)
            refine (HPc.out _ _ HIGr.out HRr.out HID.out).mono ?_
            rintro e w6 ⟨rfl, b6⟩
            replace HIGr := Lib.hid (HIGr.out.below b6)
            replace HRr := Lib.hid (HRr.out.below b6)
            replace HSr := Lib.hid (HSr.out.below b6)
            replace HID := Lib.hid (HID.out.below b6)
            replace bl := bl.trans (b6.mono bl.size)
            clear b6 HPc
            go_wp2_with (go_at_call 41; fail)
            refine (HTc.out _ _ _ HIGr.out HRr.out (fun hp => absurd hp (by simp))).mono ?_
            rintro e w7 ⟨gO, rfl, io, b7⟩
            replace HIGr := Lib.hid (HIGr.out.below b7)
            replace HRr := Lib.hid (HRr.out.below b7)
            replace HSr := Lib.hid (HSr.out.below b7)
            replace HID := Lib.hid (HID.out.below b7)
            replace bl := bl.trans (b7.mono bl.size)
            have HIO := Lib.hid io
            clear b7 io HTc
            go_wp2_with (go_at_call 23; fail)
            refine (HIN.out _ _ _ _ xs _ HXL.out HIO.out HID.out).mono ?_
            rintro e w8 ⟨rfl, n8, rfl⟩
            replace HIGr := Lib.hid (HIGr.out.below (below_drewN n8))
            replace HRr := Lib.hid (HRr.out.below (below_drewN n8))
            replace HSr := Lib.hid (HSr.out.below (below_drewN n8))
            replace HID := Lib.hid (HID.out.below (below_drewN n8))
            replace bl := bl.trans (below_drewN n8)
            generalize World.drewN _ n8 = va at *
            obtain ⟨bs, os, hes, hbs, hcs⟩ := HSr.out (by rw [HSL.out]; omega)
            injection hes with hes
            injection hes with hes1 hes2
            subst hes1 hes2
            obtain ⟨Bs, ccs, cls, ixs⟩ := hcs k (by rw [HSL.out]; omega)
            rw [HKA.out] at cls ixs
            rw [HXL.out, Nat.zero_add] at cls
            have HIX := Lib.hid ixs
            clear hcs ixs hbs
            go_wp2_with (go_at_call 23; fail)
            refine (HIN.out _ _ _ _ xs _ HXL.out HIX.out HID.out).mono ?_
            rintro e w8 ⟨rfl, n8, rfl⟩
            replace HIGr := Lib.hid (HIGr.out.below (below_drewN n8))
            replace HRr := Lib.hid (HRr.out.below (below_drewN n8))
            replace HSr := Lib.hid (HSr.out.below (below_drewN n8))
            replace HID := Lib.hid (HID.out.below (below_drewN n8))
            replace bl := bl.trans (below_drewN n8)
            generalize World.drewN _ n8 = vc at *
            go_wp2
            go_roundw
            case rel => exact ⟨c + 1, by have := HCM.out; omega, by go_num, by rw [HKN.out]; go_num, bl⟩
            case measure => have := HCM.out; simp [intOf]; omega
          · have gC : ((c : Int) == 0) = false := by simpa using h0
            obtain ⟨Z, z1, z2, z3, z4, z5, z6⟩ := HZS.out c hlt hz
            have HPc := Lib.hid (HPS.out c Z hlt h0 z1 z2)
            have HTc := Lib.hid (HTO.out Z (dcL g n c) z3 z4 z5 z6)
            clear h0 hz hlt hc z1 z4 z5 z6
            generalize cdK m n L' c = k at *
            generalize dcL g n c = xs at *
            have gk : decide ((S1 : Int) ≤ (k : Int)) = false := decide_eq_false (by omega)
            have gk2 : decide (S1 ≤ k) = false := decide_eq_false (by omega)
            have gk3 : decide ((k : Int) < (S1 : Int)) = true := decide_eq_true (by omega)
            obtain ⟨KZ, hKZ⟩ : ∃ KZ, Z.length = KZ := ⟨_, rfl⟩
            rw [hKZ] at HPc HTc z2 z3
            clear hKZ
            have gz : decide ((0 : Int) < (KZ : Int)) = true := decide_eq_true (by omega)
            have gz2 : decide (0 < KZ) = true := decide_eq_true (by omega)
            go_wp2_with (go_at_call 42; fail)
            refine (HSZ.out _ HIGr.out).mono ?_
            rintro e wq ⟨rfl, rfl⟩
            go_wp2_with (go_at_call 43; fail)
            refine (HDEc.out _ HIGr.out).mono ?_
            rintro e w5 ⟨gd, rfl, id, b5⟩
            replace HIGr := Lib.hid (HIGr.out.below b5)
            replace HRr := Lib.hid (HRr.out.below b5)
            replace HSr := Lib.hid (HSr.out.below b5)
            replace bl := bl.trans (b5.mono bl.size)
            have HID := Lib.hid id
            clear id b5 HDEc
            go_wp2_with (go_at_call 17; fail)
            refine (HPc.out _ _ HIGr.out HRr.out HID.out).mono ?_
            rintro e w6 ⟨bz, oz, cz, rfl, iz, b6⟩
            replace HIGr := Lib.hid (HIGr.out.below b6)
            replace HRr := Lib.hid (HRr.out.below b6)
            replace HSr := Lib.hid (HSr.out.below b6)
            replace HID := Lib.hid (HID.out.below b6)
            replace bl := bl.trans (b6.mono bl.size)
            have HIZ := Lib.hid iz
            clear b6 iz HPc
            go_wp2_with (go_at_call 41; fail)
            refine (HTc.out _ _ _ HIGr.out HRr.out HIZ.out).mono ?_
            rintro e w7 ⟨gO, rfl, io, b7⟩
            replace HIGr := Lib.hid (HIGr.out.below b7)
            replace HRr := Lib.hid (HRr.out.below b7)
            replace HSr := Lib.hid (HSr.out.below b7)
            replace HID := Lib.hid (HID.out.below b7)
            replace bl := bl.trans (b7.mono bl.size)
            have HIO := Lib.hid io
            clear b7 io HTc
            go_wp2_with (go_at_call 23; fail)
            refine (HIN.out _ _ _ _ xs _ HXL.out HIO.out HID.out).mono ?_
            rintro e w8 ⟨rfl, n8, rfl⟩
            replace HIGr := Lib.hid (HIGr.out.below (below_drewN n8))
            replace HRr := Lib.hid (HRr.out.below (below_drewN n8))
            replace HSr := Lib.hid (HSr.out.below (below_drewN n8))
            replace HID := Lib.hid (HID.out.below (below_drewN n8))
            replace bl := bl.trans (below_drewN n8)
            generalize World.drewN _ n8 = va at *
            obtain ⟨bs, os, hes, hbs, hcs⟩ := HSr.out (by rw [HSL.out]; omega)
            injection hes with hes
            injection hes with hes1 hes2
            subst hes1 hes2
            obtain ⟨Bs, ccs, cls, ixs⟩ := hcs k (by rw [HSL.out]; omega)
            rw [HKA.out] at cls ixs
            rw [HXL.out, Nat.zero_add] at cls
            have HIX := Lib.hid ixs
            clear hcs ixs hbs
            go_wp2_with (go_at_call 23; fail)
            refine (HIN.out _ _ _ _ xs _ HXL.out HIX.out HID.out).mono ?_
            rintro e w8 ⟨rfl, n8, rfl⟩
            replace HIGr := Lib.hid (HIGr.out.below (below_drewN n8))
            replace HRr := Lib.hid (HRr.out.below (below_drewN n8))
            replace HSr := Lib.hid (HSr.out.below (below_drewN n8))
            replace HID := Lib.hid (HID.out.below (below_drewN n8))
            replace bl := bl.trans (below_drewN n8)
            generalize World.drewN _ n8 = vc at *
            go_wp2
            go_roundw
            case rel => exact ⟨c + 1, by have := HCM.out; omega, by go_num, by rw [HKN.out]; go_num, bl⟩
            case measure => have := HCM.out; simp [intOf]; omega
      · obtain rfl : c = M := by omega
        have g1 : decide ((c : Int) < (c : Int)) = false := decide_eq_false (by omega)
        rw [← HKE.out]
        have b9 := HB1.out.trans (bl.mono hbW)
        go_wp2_with (go_at_call 42; fail)
        refine (HSZ.out _ HIGr.out).mono ?_
        rintro e wq ⟨rfl, rfl⟩
        go_wp2_with (go_at_call 20; with_reducible refine (HAW.out _).mono ?_; rintro e wy ⟨rfl, bY⟩; replace b9 := b9.trans (bY.mono b9.size))
        go_ret
        exact ⟨rfl, b9⟩
end Go.Proofs.Ytokjdadgdfmffaa
