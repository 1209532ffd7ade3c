/- SumsFree: the walk. -/
import Derived.Test.YtokjdadgdfmffaaPG
namespace Go.Proofs.Ytokjdadgdfmffaa
open Go.RowKit Ols
set_option maxHeartbeats 4000000
set_option maxRecDepth 100000
theorem SumsFree_any (A0 : Option Addr) (c0 : Nat) (gs : List Int) (A1 : Option Addr) (c1 : Nat) (L : List (List Int)) (A2 : Option Addr) (c2 : Nat) (ms : List Int) (w : World)
    (hx0 : gs.length ≤ c0) (hc0 : c0 ≤ maxLen) (ha0 : IntsAt w A0 gs) (hx1 : L.length ≤ c1) (hc1 : c1 ≤ maxLen) (ha1 : RowsIn w A1 L) (hx2 : ms.length ≤ c2) (hc2 : c2 ≤ maxLen) (ha2 : IntsAt w A2 ms) :
    Calls Try.prog 9 #[.slice A0 gs.length c0, .slice A1 L.length c1, .slice A2 ms.length c2] w fun e w' => e = .returned (.bool true) ∧ Below w.heap.size w w' := by
  have hal : gs.length ≤ 9223372036854775807 := by unfold maxLen at hc0; omega
  have hbl : L.length ≤ 9223372036854775807 := by unfold maxLen at hc1; omega
  have hml : ms.length ≤ 9223372036854775807 := by unfold maxLen at hc2; omega
  have HGR := Lib.hid (group_any A0 c0 gs w hal ha0)
  have HB := Lib.hid ha1
  have HM := Lib.hid ha2
  have HAW := Lib.hid awake_any
  obtain ⟨k0, ki, kz0, kz1, kz2⟩ := info_parts info22
  clear ha0 ha1 ha2 hx0 hc0 hx1 hc1 hx2 hc2
  go_enter Try.func9, Try.ntmps9
  go_wp2_with (go_at_call 39; fail)
  refine HGR.out.mono ?_
  rintro e w1 ⟨v1, g, m, n, rfl, hG, o1, b1⟩
  obtain ⟨Ag, cg, rfl, -, -, ig⟩ := own_cap o1
  clear HGR o1
  have HEL := Lib.hid (elements_any Ag A1 cg c1 g L 20 m n w1 hG ⟨by omega, by omega⟩ hbl (HB.out.below b1).at.2 ig (HB.out.below b1).at.1)
  have HIG := Lib.hid ig
  have HG := Lib.hid hG
  replace HM := Lib.hid (HM.out.below b1)
  clear hG ig HB
  go_wp2_with (go_at_call 40; fail)
  refine HEL.out.mono ?_
  rintro e w2 ⟨A3, c3, cs, L', rfl, hL1, hE, o3, r3, b3⟩
  have hl60 : L'.length ≤ 60 := by rw [hL1]; simp; omega
  have hv := els_rl hE hl60
  have HR := Lib.hid (rows_at r3 o3)
  have HIG2 := Lib.hid (HIG.out.below b3)
  replace HM := Lib.hid (HM.out.below b3)
  replace b1 := b1.trans (b3.mono b1.size)
  have hrl2 : ∀ i, i < L'.length → (getl L' i).length ≤ 1000000 := fun i hi => by have := (hE i hi).2; omega
  have hA3 : 0 < L'.length → ∃ g9, A3 = some ⟨g9, 0, none⟩ ∧ L'.length ≤ c3 ∧ c3 ≤ maxLen := fun hp => by
    rcases o3.2 with ⟨h3, h0⟩ | ⟨g9, cap, cur, h3, hb, hg, hc1, hc2, hc3, hc4⟩
    · omega
    · injection h3 with h3 h4 h5
      subst h5
      exact ⟨g9, h3, hc1, hc2⟩
  have HSM := Lib.hid (fun W h1 h2 => Sums_any Ag A3 cg c3 m n g L' W HG.out hrl2 h1 h2 hv)
  have HFR := Lib.hid (fun W h1 => Free_yes Ag cg m n g W HG.out h1)
  have hfr := free_rl HG.out
  have hfl : (freeL m n).length = (freeLL m n).length := by unfold freeLL; rw [List.length_map]
  have hf46 : (freeLL m n).length ≤ 46 := by have := freeL_len HG.out.1; have := HG.out.1.2.1; have := HG.out.1.2.2.2; omega
  have hfx : ∀ i, i < (freeLL m n).length → (getl (freeLL m n) i).length ≤ 1000000 := fun i hi => by
    have := el_len HG.out ((of_decide_eq_true hfr : (freeLL m n).length ≤ 60 ∧ ∀ i, i < (freeLL m n).length → elV m n (getl (freeLL m n) i) = true).2 i hi)
    have := isG_len HG.out
    omega
  have HLI := Lib.hid (fun A c W h1 h2 => RefList_any Ag A cg c m n g (freeLL m n) W HG.out (by omega) hfx h1 h2)
  rw [hfr] at HLI
  have HZF := Lib.hid (fun A c W h1 h2 => Zero_none Ag A cg c m n g (freeLL m n) W HG.out hfx h1 h2 hfr (free_none HG.out))
  have HTB := Lib.hid (fun A c W h => table_free HG.out A c W h)
  have HZM : Hid (∀ (L2 : List (List Int)), Els m n L2 → L2.length = 1 → ∀ A c W, IntsAt W Ag g → RowsAt W A (freeLL m n ++ L2) → Calls Try.prog 16 #[.slice Ag g.length cg, .slice A ((freeLL m n).length + 1) c] W fun e w' => ∃ b o k c', e = .returned (.tuple #[.slice (some ⟨b, o, none⟩) k c', .int .i64 0]) ∧ Below W.heap.size W w') := Lib.hid fun L2 hE2 hl2 A c W h1 h2 => by
    have hv2 := els_one HG.out hE2 hl2
    have hx2 : ∀ i, i < (freeLL m n ++ L2).length → (getl (freeLL m n ++ L2) i).length ≤ 1000000 := fun i hi => by
      have := el_len HG.out ((of_decide_eq_true hv2 : (freeLL m n ++ L2).length ≤ 60 ∧ ∀ i, i < (freeLL m n ++ L2).length → elV m n (getl (freeLL m n ++ L2) i) = true).2 i hi)
      have := isG_len HG.out
      omega
    have := Zero_some Ag A cg c m n g (freeLL m n ++ L2) W HG.out hx2 h1 h2 hv2 (List.length_pos_iff.2 (more_some HG.out hl2 hv2))
    rw [List.length_append, hl2] at this
    exact this.mono fun e w' ⟨b, o, c', k1, k2, k3⟩ => ⟨b, o, _, c', k1, k3⟩
  have HEM := Lib.hid (fun X W (h1 : IntsAt W Ag g) (h2 : RowsAt W (some ⟨X, 0, none⟩) [ms]) => elements_any Ag (some ⟨X, 0, none⟩) cg 1 g [ms] 1 m n W HG.out ⟨by omega, by omega⟩ (by simp) (fun i hi => by
    have : i = 0 := by simp at hi; omega
    subst this; exact hml) h1 h2)
  unfold FreeQ SumsQ at *
  rw [hfl] at HFR
  change Hid (∀ W, IntsAt W Ag g → Calls Try.prog 26 #[.slice Ag g.length cg] W fun e w' => ∃ G, e = .returned (.tuple #[.slice (some ⟨G, 0, none⟩) (freeLL m n).length (freeLL m n).length, .int .i64 0]) ∧ W.heap.size ≤ G ∧ RowsM W.heap.size w' G (freeLL m n) ∧ Below W.heap.size W w') at HFR
  clear hfl hfr hfx HEL HIG hL1 o3 r3 b3
  by_cases hz : zrL m n L' 0 0 = []
  · have hms := many_sums HG.out hv hz
    have HZ1 := Lib.hid (Zero_none Ag A3 cg c3 m n g L' w2 HG.out hrl2 HIG2.out HR.out hv hz)
    have HZT : Hid (0 < L'.length → ∀ g9, A3 = some ⟨g9, 0, none⟩ → L'.length ≤ c3 → ∀ W, IntsAt W Ag g → RowsAt W A3 L' → Calls Try.prog 16 #[.slice Ag g.length cg, .slice (if c3 = 1 then some ⟨g9, 0, none⟩ else some ⟨g9, 1, none⟩) (L'.length - 1) (c3 - 1)] W (NoneR W 6)) := Lib.hid (fun hp g9 h9 hc W h1 h2 => zero_tail HG.out L' hl60 hE hrl2 hz hp Ag cg g9 c3 hc W h1 (h9 ▸ h2))
    generalize sumLL g m n L' = LL at *
    have gS : decide ((LL.length : Int) < (L'.length : Int)) = false := decide_eq_false (by omega)
    have gS2 : decide (LL.length < L'.length) = false := decide_eq_false (by omega)
    clear hrl2 hE hv hz hms
    go_wp2_with (go_at_call 16; fail)
    refine HZ1.out.mono ?_
    rintro e w3 ⟨rfl, b4⟩
    replace HR := Lib.hid (HR.out.below b4)
    replace HIG2 := Lib.hid (HIG2.out.below b4)
    replace HM := Lib.hid (HM.out.below b4)
    replace b1 := b1.trans (b4.mono b1.size)
    clear b4 HZ1
    go_wp2_with (go_at_call 27; fail)
    refine (HSM.out _ HIG2.out HR.out).mono ?_
    rintro e w4 ⟨GS, rfl, -, -, b4⟩
    replace HR := Lib.hid (HR.out.below b4)
    replace HIG2 := Lib.hid (HIG2.out.below b4)
    replace HM := Lib.hid (HM.out.below b4)
    replace b1 := b1.trans (b4.mono b1.size)
    clear b4 HSM
    by_cases hp : 0 < L'.length
    · have gL : decide (0 < (L'.length : Int)) = true := decide_eq_true (by omega)
      have gL2 : decide (0 < L'.length) = true := decide_eq_true hp
      obtain ⟨g9, h9, hc3, hc3m⟩ := hA3 hp
      have HZ2 := Lib.hid (HZT.out hp g9 h9 hc3)
      subst h9
      have hc3z : (1 : Int) ≤ c3 := by omega
      clear HZT hA3
      go_wp2_with (go_at_call 16; fail)
      · rw [if_pos h, show c3 - 1 = 0 by omega] at HZ2
        clear h hc3z
        refine (HZ2.out _ HIG2.out HR.out).mono ?_
        rintro e w5 ⟨rfl, b5⟩
        replace HIG2 := Lib.hid (HIG2.out.below b5)
        replace HM := Lib.hid (HM.out.below b5)
        replace b1 := b1.trans (b5.mono b1.size)
        clear b5 HZ2 HR
        go_wp2_with (go_at_call 26; fail)
        refine (HFR.out _ HIG2.out).mono ?_
        rintro e w6 ⟨GF, rfl, hGF, hrn, b6⟩
        have HFI := Lib.hid hrn.in
        replace HIG2 := Lib.hid (HIG2.out.below b6)
        replace HM := Lib.hid (HM.out.below b6)
        replace b1 := b1.trans (b6.mono b1.size)
        clear b6 hrn hGF HFR
        go_wp2_with (go_at_call 19; fail)
        refine (HLI.out _ _ _ HIG2.out HFI.out.at.1).mono ?_
        rintro e w7 ⟨rfl, b7⟩
        replace HIG2 := Lib.hid (HIG2.out.below b7)
        replace HM := Lib.hid (HM.out.below b7)
        replace HFI := Lib.hid (HFI.out.below b7)
        replace b1 := b1.trans (b7.mono b1.size)
        clear b7 HLI
        go_wp2_with (go_at_call 40; fail)
        have HRX : Hid (RowsAt (w7.alloc (.cells #[.slice A2 ms.length c2] 22)) (some ⟨w7.heap.size, 0, none⟩) [ms]) := Lib.hid fun _ => ⟨w7.heap.size, 0, rfl, by simp, fun i hi => by
          have : i = 0 := by simp at hi; omega
          subst this
          exact ⟨A2, c2, (row_new rfl : Row (w7.alloc (.cells #[.slice A2 ms.length c2] 22)) w7.heap.size 22 [.slice A2 ms.length c2]).cells1.1, HM.out.alloc _⟩⟩
        have b1a := b1.alloc b1.size (.cells #[.slice A2 ms.length c2] 22)
        refine (HEM.out _ _ (HIG2.out.alloc _) HRX.out).mono ?_
        rintro e w8 ⟨A5, c5, cs5, L2, rfl, hl2, hE2, o5, r5, b8⟩
        have hl21 : L2.length = 1 := by rw [hl2]; rfl
        rw [hl21] at o5
        rw [hl21]
        have HIG3 := Lib.hid ((HIG2.out.alloc (.cells #[.slice A2 ms.length c2] 22)).below b8)
        have HFI2 := Lib.hid ((HFI.out.below ((Below.refl _ _).alloc (Nat.le_refl _) (.cells #[.slice A2 ms.length c2] 22))).below b8)
        replace b1 := b1a.trans (b8.mono b1a.size)
        clear b8 b1a HRX HEM HIG2 HFI HM
        go_wp2_with (go_at_call 16; fail)
        refine (HZF.out _ _ _ HIG3.out HFI2.out.at.1).mono ?_
        rintro e w9 ⟨rfl, b9⟩
        replace HIG3 := Lib.hid (HIG3.out.below b9)
        replace HFI2 := Lib.hid (HFI2.out.below b9)
        replace b1 := b1.trans (b9.mono b1.size)
        replace o5 := o5.kept' b9
        replace r5 := r5.below b9
        clear b9 HZF
        have hs9 := b1.size
        go_wp2_with (go_at_call 15; fail)
        refine (HTB.out _ _ _ HFI2.out).mono ?_
        rintro e wa ⟨A8, c8, cs8, rfl, o8, r8, ba⟩
        replace b1 := b1.trans (ba.mono b1.size)
        replace o5 := o5.kept' ba
        replace r5 := r5.below ba
        have hba := ba.size
        clear HTB HFI2
        obtain ⟨g5, v5, rfl, rfl, hnw, hoc⟩ := news_row o5 r5 hl21
        have HNW := Lib.hid hnw
        have R8 := Lib.hid r8
        have R5 := Lib.hid r5
        have BA := Lib.hid ba
        clear hnw r8 r5 o5 ba
        go_wp2_with (at_builtin; refine wpList_append_own_at _ rfl (.tmp 94) (.tmp 95) 23 rfl w9.heap.size 22 k0 (.slice none 0 0) 1 24 Try.underlying23 ki kz0 kz1 kz2 rfl (by decide) _ _ _ rfl o8 ⟨g5, 0, none⟩ 1 c5 [v5] rfl rfl HNW.out (by simp [hoc]) (by unfold maxLen; omega) (by omega) hba ?_; intro vb wb ob hgb _ _)
        have bb : Below w9.heap.size wa wb := (Below.refl w9.heap.size _).grown hgb hba (fun g hg => (own_ge o8 hg).1)
        have rc := ((R8.out.grownR o8 hgb).rc).app ((R5.out.grownR o8 hgb).rc)
        obtain ⟨A9, c9, rfl, -⟩ := own_wr ob
        have hra := rowsC_at rc ob
        have hig9 := HIG3.out.below (BA.out.trans bb)
        have hZ := HZM.out L2 hE2 hl21 A9 c9 wb hig9 hra
        replace b1 := b1.trans (bb.mono hs9)
        have HZX := Lib.hid hZ
        clear rc hra hig9 ob hgb bb o8 hZ
        refine HZX.out.mono ?_
        rintro e wz ⟨bz9, oz9, kz9, cz9, rfl, bz⟩
        replace b1 := b1.trans (bz.mono b1.size)
        go_wp2_with (go_at_call 20; with_reducible refine (HAW.out _).mono ?_; rintro e wy ⟨rfl, bY⟩; replace b1 := b1.trans (bY.mono b1.size))
        go_ret
        exact ⟨rfl, b1⟩
      · rw [if_neg h] at HZ2
        clear h hc3z
        refine (HZ2.out _ HIG2.out HR.out).mono ?_
        rintro e w5 ⟨rfl, b5⟩
        replace HIG2 := Lib.hid (HIG2.out.below b5)
        replace HM := Lib.hid (HM.out.below b5)
        replace b1 := b1.trans (b5.mono b1.size)
        clear b5 HZ2 HR
        go_wp2_with (go_at_call 26; fail)
        refine (HFR.out _ HIG2.out).mono ?_
        rintro e w6 ⟨GF, rfl, hGF, hrn, b6⟩
        have HFI := Lib.hid hrn.in
        replace HIG2 := Lib.hid (HIG2.out.below b6)
        replace HM := Lib.hid (HM.out.below b6)
        replace b1 := b1.trans (b6.mono b1.size)
        clear b6 hrn hGF HFR
        go_wp2_with (go_at_call 19; fail)
        refine (HLI.out _ _ _ HIG2.out HFI.out.at.1).mono ?_
        rintro e w7 ⟨rfl, b7⟩
        replace HIG2 := Lib.hid (HIG2.out.below b7)
        replace HM := Lib.hid (HM.out.below b7)
        replace HFI := Lib.hid (HFI.out.below b7)
        replace b1 := b1.trans (b7.mono b1.size)
        clear b7 HLI
        go_wp2_with (go_at_call 40; fail)
        have HRX : Hid (RowsAt (w7.alloc (.cells #[.slice A2 ms.length c2] 22)) (some ⟨w7.heap.size, 0, none⟩) [ms]) := Lib.hid fun _ => ⟨w7.heap.size, 0, rfl, by simp, fun i hi => by
          have : i = 0 := by simp at hi; omega
          subst this
          exact ⟨A2, c2, (row_new rfl : Row (w7.alloc (.cells #[.slice A2 ms.length c2] 22)) w7.heap.size 22 [.slice A2 ms.length c2]).cells1.1, HM.out.alloc _⟩⟩
        have b1a := b1.alloc b1.size (.cells #[.slice A2 ms.length c2] 22)
        refine (HEM.out _ _ (HIG2.out.alloc _) HRX.out).mono ?_
        rintro e w8 ⟨A5, c5, cs5, L2, rfl, hl2, hE2, o5, r5, b8⟩
        have hl21 : L2.length = 1 := by rw [hl2]; rfl
        rw [hl21] at o5
        rw [hl21]
        have HIG3 := Lib.hid ((HIG2.out.alloc (.cells #[.slice A2 ms.length c2] 22)).below b8)
        have HFI2 := Lib.hid ((HFI.out.below ((Below.refl _ _).alloc (Nat.le_refl _) (.cells #[.slice A2 ms.length c2] 22))).below b8)
        replace b1 := b1a.trans (b8.mono b1a.size)
        clear b8 b1a HRX HEM HIG2 HFI HM
        go_wp2_with (go_at_call 16; fail)
        refine (HZF.out _ _ _ HIG3.out HFI2.out.at.1).mono ?_
        rintro e w9 ⟨rfl, b9⟩
        replace HIG3 := Lib.hid (HIG3.out.below b9)
        replace HFI2 := Lib.hid (HFI2.out.below b9)
        replace b1 := b1.trans (b9.mono b1.size)
        replace o5 := o5.kept' b9
        replace r5 := r5.below b9
        clear b9 HZF
        have hs9 := b1.size
        go_wp2_with (go_at_call 15; fail)
        refine (HTB.out _ _ _ HFI2.out).mono ?_
        rintro e wa ⟨A8, c8, cs8, rfl, o8, r8, ba⟩
        replace b1 := b1.trans (ba.mono b1.size)
        replace o5 := o5.kept' ba
        replace r5 := r5.below ba
        have hba := ba.size
        clear HTB HFI2
        obtain ⟨g5, v5, rfl, rfl, hnw, hoc⟩ := news_row o5 r5 hl21
        have HNW := Lib.hid hnw
        have R8 := Lib.hid r8
        have R5 := Lib.hid r5
        have BA := Lib.hid ba
        clear hnw r8 r5 o5 ba
        go_wp2_with (at_builtin; refine wpList_append_own_at _ rfl (.tmp 94) (.tmp 95) 23 rfl w9.heap.size 22 k0 (.slice none 0 0) 1 24 Try.underlying23 ki kz0 kz1 kz2 rfl (by decide) _ _ _ rfl o8 ⟨g5, 0, none⟩ 1 c5 [v5] rfl rfl HNW.out (by simp [hoc]) (by unfold maxLen; omega) (by omega) hba ?_; intro vb wb ob hgb _ _)
        have bb : Below w9.heap.size wa wb := (Below.refl w9.heap.size _).grown hgb hba (fun g hg => (own_ge o8 hg).1)
        have rc := ((R8.out.grownR o8 hgb).rc).app ((R5.out.grownR o8 hgb).rc)
        obtain ⟨A9, c9, rfl, -⟩ := own_wr ob
        have hra := rowsC_at rc ob
        have hig9 := HIG3.out.below (BA.out.trans bb)
        have hZ := HZM.out L2 hE2 hl21 A9 c9 wb hig9 hra
        replace b1 := b1.trans (bb.mono hs9)
        have HZX := Lib.hid hZ
        clear rc hra hig9 ob hgb bb o8 hZ
        refine HZX.out.mono ?_
        rintro e wz ⟨bz9, oz9, kz9, cz9, rfl, bz⟩
        replace b1 := b1.trans (bz.mono b1.size)
        go_wp2_with (go_at_call 20; with_reducible refine (HAW.out _).mono ?_; rintro e wy ⟨rfl, bY⟩; replace b1 := b1.trans (bY.mono b1.size))
        go_ret
        exact ⟨rfl, b1⟩
    · have gL : decide (0 < (L'.length : Int)) = false := decide_eq_false (by omega)
      have gL2 : decide (0 < L'.length) = false := decide_eq_false hp
      clear HZT hA3 HR
      go_wp2_with (go_at_call 26; fail)
      refine (HFR.out _ HIG2.out).mono ?_
      rintro e w6 ⟨GF, rfl, hGF, hrn, b6⟩
      have HFI := Lib.hid hrn.in
      replace HIG2 := Lib.hid (HIG2.out.below b6)
      replace HM := Lib.hid (HM.out.below b6)
      replace b1 := b1.trans (b6.mono b1.size)
      clear b6 hrn hGF HFR
      go_wp2_with (go_at_call 19; fail)
      refine (HLI.out _ _ _ HIG2.out HFI.out.at.1).mono ?_
      rintro e w7 ⟨rfl, b7⟩
      replace HIG2 := Lib.hid (HIG2.out.below b7)
      replace HM := Lib.hid (HM.out.below b7)
      replace HFI := Lib.hid (HFI.out.below b7)
      replace b1 := b1.trans (b7.mono b1.size)
      clear b7 HLI
      go_wp2_with (go_at_call 40; fail)
      have HRX : Hid (RowsAt (w7.alloc (.cells #[.slice A2 ms.length c2] 22)) (some ⟨w7.heap.size, 0, none⟩) [ms]) := Lib.hid fun _ => ⟨w7.heap.size, 0, rfl, by simp, fun i hi => by
        have : i = 0 := by simp at hi; omega
        subst this
        exact ⟨A2, c2, (row_new rfl : Row (w7.alloc (.cells #[.slice A2 ms.length c2] 22)) w7.heap.size 22 [.slice A2 ms.length c2]).cells1.1, HM.out.alloc _⟩⟩
      have b1a := b1.alloc b1.size (.cells #[.slice A2 ms.length c2] 22)
      refine (HEM.out _ _ (HIG2.out.alloc _) HRX.out).mono ?_
      rintro e w8 ⟨A5, c5, cs5, L2, rfl, hl2, hE2, o5, r5, b8⟩
      have hl21 : L2.length = 1 := by rw [hl2]; rfl
      rw [hl21] at o5
      rw [hl21]
      have HIG3 := Lib.hid ((HIG2.out.alloc (.cells #[.slice A2 ms.length c2] 22)).below b8)
      have HFI2 := Lib.hid ((HFI.out.below ((Below.refl _ _).alloc (Nat.le_refl _) (.cells #[.slice A2 ms.length c2] 22))).below b8)
      replace b1 := b1a.trans (b8.mono b1a.size)
      clear b8 b1a HRX HEM HIG2 HFI HM
      go_wp2_with (go_at_call 16; fail)
      refine (HZF.out _ _ _ HIG3.out HFI2.out.at.1).mono ?_
      rintro e w9 ⟨rfl, b9⟩
      replace HIG3 := Lib.hid (HIG3.out.below b9)
      replace HFI2 := Lib.hid (HFI2.out.below b9)
      replace b1 := b1.trans (b9.mono b1.size)
      replace o5 := o5.kept' b9
      replace r5 := r5.below b9
      clear b9 HZF
      have hs9 := b1.size
      go_wp2_with (go_at_call 15; fail)
      refine (HTB.out _ _ _ HFI2.out).mono ?_
      rintro e wa ⟨A8, c8, cs8, rfl, o8, r8, ba⟩
      replace b1 := b1.trans (ba.mono b1.size)
      replace o5 := o5.kept' ba
      replace r5 := r5.below ba
      have hba := ba.size
      clear HTB HFI2
      obtain ⟨g5, v5, rfl, rfl, hnw, hoc⟩ := news_row o5 r5 hl21
      have HNW := Lib.hid hnw
      have R8 := Lib.hid r8
      have R5 := Lib.hid r5
      have BA := Lib.hid ba
      clear hnw r8 r5 o5 ba
      go_wp2_with (at_builtin; refine wpList_append_own_at _ rfl (.tmp 94) (.tmp 95) 23 rfl w9.heap.size 22 k0 (.slice none 0 0) 1 24 Try.underlying23 ki kz0 kz1 kz2 rfl (by decide) _ _ _ rfl o8 ⟨g5, 0, none⟩ 1 c5 [v5] rfl rfl HNW.out (by simp [hoc]) (by unfold maxLen; omega) (by omega) hba ?_; intro vb wb ob hgb _ _)
      have bb : Below w9.heap.size wa wb := (Below.refl w9.heap.size _).grown hgb hba (fun g hg => (own_ge o8 hg).1)
      have rc := ((R8.out.grownR o8 hgb).rc).app ((R5.out.grownR o8 hgb).rc)
      obtain ⟨A9, c9, rfl, -⟩ := own_wr ob
      have hra := rowsC_at rc ob
      have hig9 := HIG3.out.below (BA.out.trans bb)
      have hZ := HZM.out L2 hE2 hl21 A9 c9 wb hig9 hra
      replace b1 := b1.trans (bb.mono hs9)
      have HZX := Lib.hid hZ
      clear rc hra hig9 ob hgb bb o8 hZ
      refine HZX.out.mono ?_
      rintro e wz ⟨bz9, oz9, kz9, cz9, rfl, bz⟩
      replace b1 := b1.trans (bz.mono b1.size)
      go_wp2_with (go_at_call 20; with_reducible refine (HAW.out _).mono ?_; rintro e wy ⟨rfl, bY⟩; replace b1 := b1.trans (bY.mono b1.size))
      go_ret
      exact ⟨rfl, b1⟩
  · have hp := nz_pos hz
    have HZ1 := Lib.hid (Zero_some Ag A3 cg c3 m n g L' w2 HG.out hrl2 HIG2.out HR.out hv (List.length_pos_iff.2 hz))
    have gL : decide (0 < (L'.length : Int)) = true := decide_eq_true (by omega)
    have gL2 : decide (0 < L'.length) = true := decide_eq_true hp
    generalize sumLL g m n L' = LL at *
    clear hrl2 hE hv hz hA3
    go_wp2_with (go_at_call 16; fail)
    refine HZ1.out.mono ?_
    rintro e w3 ⟨bz, oz, cz, rfl, -, b4⟩
    replace HR := Lib.hid (HR.out.below b4)
    replace HIG2 := Lib.hid (HIG2.out.below b4)
    replace HM := Lib.hid (HM.out.below b4)
    replace b1 := b1.trans (b4.mono b1.size)
    clear b4 HZ1
    go_wp2_with (go_at_call 27; fail)
    refine (HSM.out _ HIG2.out HR.out).mono ?_
    rintro e w4 ⟨GS, rfl, -, -, b4⟩
    replace HIG2 := Lib.hid (HIG2.out.below b4)
    replace HM := Lib.hid (HM.out.below b4)
    replace b1 := b1.trans (b4.mono b1.size)
    clear b4 HSM HR
    go_wp2_with (go_at_call 26; fail)
    refine (HFR.out _ HIG2.out).mono ?_
    rintro e w6 ⟨GF, rfl, hGF, hrn, b6⟩
    have HFI := Lib.hid hrn.in
    replace HIG2 := Lib.hid (HIG2.out.below b6)
    replace HM := Lib.hid (HM.out.below b6)
    replace b1 := b1.trans (b6.mono b1.size)
    clear b6 hrn hGF HFR
    go_wp2_with (go_at_call 19; fail)
    refine (HLI.out _ _ _ HIG2.out HFI.out.at.1).mono ?_
    rintro e w7 ⟨rfl, b7⟩
    replace HIG2 := Lib.hid (HIG2.out.below b7)
    replace HM := Lib.hid (HM.out.below b7)
    replace HFI := Lib.hid (HFI.out.below b7)
    replace b1 := b1.trans (b7.mono b1.size)
    clear b7 HLI
    go_wp2_with (go_at_call 40; fail)
    have HRX : Hid (RowsAt (w7.alloc (.cells #[.slice A2 ms.length c2] 22)) (some ⟨w7.heap.size, 0, none⟩) [ms]) := Lib.hid fun _ => ⟨w7.heap.size, 0, rfl, by simp, fun i hi => by
      have : i = 0 := by simp at hi; omega
      subst this
      exact ⟨A2, c2, (row_new rfl : Row (w7.alloc (.cells #[.slice A2 ms.length c2] 22)) w7.heap.size 22 [.slice A2 ms.length c2]).cells1.1, HM.out.alloc _⟩⟩
    have b1a := b1.alloc b1.size (.cells #[.slice A2 ms.length c2] 22)
    refine (HEM.out _ _ (HIG2.out.alloc _) HRX.out).mono ?_
    rintro e w8 ⟨A5, c5, cs5, L2, rfl, hl2, hE2, o5, r5, b8⟩
    have hl21 : L2.length = 1 := by rw [hl2]; rfl
    rw [hl21] at o5
    rw [hl21]
    have HIG3 := Lib.hid ((HIG2.out.alloc (.cells #[.slice A2 ms.length c2] 22)).below b8)
    have HFI2 := Lib.hid ((HFI.out.below ((Below.refl _ _).alloc (Nat.le_refl _) (.cells #[.slice A2 ms.length c2] 22))).below b8)
    replace b1 := b1a.trans (b8.mono b1a.size)
    clear b8 b1a HRX HEM HIG2 HFI HM
    go_wp2_with (go_at_call 16; fail)
    refine (HZF.out _ _ _ HIG3.out HFI2.out.at.1).mono ?_
    rintro e w9 ⟨rfl, b9⟩
    replace HIG3 := Lib.hid (HIG3.out.below b9)
    replace HFI2 := Lib.hid (HFI2.out.below b9)
    replace b1 := b1.trans (b9.mono b1.size)
    replace o5 := o5.kept' b9
    replace r5 := r5.below b9
    clear b9 HZF
    have hs9 := b1.size
    go_wp2_with (go_at_call 15; fail)
    refine (HTB.out _ _ _ HFI2.out).mono ?_
    rintro e wa ⟨A8, c8, cs8, rfl, o8, r8, ba⟩
    replace b1 := b1.trans (ba.mono b1.size)
    replace o5 := o5.kept' ba
    replace r5 := r5.below ba
    have hba := ba.size
    clear HTB HFI2
    obtain ⟨g5, v5, rfl, rfl, hnw, hoc⟩ := news_row o5 r5 hl21
    have HNW := Lib.hid hnw
    have R8 := Lib.hid r8
    have R5 := Lib.hid r5
    have BA := Lib.hid ba
    clear hnw r8 r5 o5 ba
    go_wp2_with (at_builtin; refine wpList_append_own_at _ rfl (.tmp 94) (.tmp 95) 23 rfl w9.heap.size 22 k0 (.slice none 0 0) 1 24 Try.underlying23 ki kz0 kz1 kz2 rfl (by decide) _ _ _ rfl o8 ⟨g5, 0, none⟩ 1 c5 [v5] rfl rfl HNW.out (by simp [hoc]) (by unfold maxLen; omega) (by omega) hba ?_; intro vb wb ob hgb _ _)
    have bb : Below w9.heap.size wa wb := (Below.refl w9.heap.size _).grown hgb hba (fun g hg => (own_ge o8 hg).1)
    have rc := ((R8.out.grownR o8 hgb).rc).app ((R5.out.grownR o8 hgb).rc)
    obtain ⟨A9, c9, rfl, -⟩ := own_wr ob
    have hra := rowsC_at rc ob
    have hig9 := HIG3.out.below (BA.out.trans bb)
    have hZ := HZM.out L2 hE2 hl21 A9 c9 wb hig9 hra
    replace b1 := b1.trans (bb.mono hs9)
    have HZX := Lib.hid hZ
    clear rc hra hig9 ob hgb bb o8 hZ
    refine HZX.out.mono ?_
    rintro e wz ⟨bz9, oz9, kz9, cz9, rfl, bz⟩
    replace b1 := b1.trans (bz.mono b1.size)
    go_wp2_with (go_at_call 20; with_reducible refine (HAW.out _).mono ?_; rintro e wy ⟨rfl, bY⟩; replace b1 := b1.trans (bY.mono b1.size))
    go_ret
    exact ⟨rfl, b1⟩
end Go.Proofs.Ytokjdadgdfmffaa
