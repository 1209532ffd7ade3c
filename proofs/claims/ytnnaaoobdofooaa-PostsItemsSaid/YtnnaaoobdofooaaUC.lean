/- PostsItems, walked. -/
import Derived.Test.YtnnaaoobdofooaaUB
import Derived.Test.YtnnaaoobdofooaaTP
import Derived.Test.YtnnaaoobdofooaaSE
namespace Go.Proofs.Ytnnaaoobdofooaa
open Go.RowKit
set_option maxHeartbeats 1000000
set_option maxRecDepth 100000
/-- What the last list is. -/
def LastAt (T : List (List Int)) (n : Nat) (W : World) (v : Value) (k : Nat) : Prop :=
  (k = 0 → v = .slice none 0 0) ∧ ∀ q, k = q + 1 → ∃ A c, v = .slice A n c ∧ IntsAt W A (itm T T.length (sAll T.length) (q : Int))
theorem PostsItems_any (n0 : Int) (A : Option Addr) (c : Nat) (L : List (List Int)) (w : World) (_hx : L.length ≤ c) (_hc : c ≤ maxLen) (ha : RowsIn w A L) :
    Calls Try.prog 13 #[.int .i64 n0, .slice A L.length c] w fun e w' => e = .returned (.bool true) ∧ Below w.heap.size w w' := by
  have hmm := modI_lt n0 (n := 6) (by omega)
  have HM1 : Hid (∀ W : World, Calls Try.prog 43 #[.int .i64 n0, .int .i64 6] W fun e w' => e = .returned (.int .i64 (modI n0 6)) ∧ W = w') := Lib.hid (fun W => mod_any n0 6 W (by omega) (by omega))
  generalize modI n0 6 = n at *
  have hT := tmL_isT L (n := n) (mo := 9) (by omega) (by omega)
  have HTM : Hid (Calls Try.prog 44 #[.slice A L.length c, .int .i64 n, .int .i64 9] w fun e w' => ∃ A' c' cs, e = .returned (.slice A' n c') ∧ w'.ownsRow w.heap.size 27 1 (.slice A' n c') n cs ∧ RowsOwn w' w.heap.size cs (tmL L n 9) ∧ Below w.heap.size w w') := Lib.hid (tame_any A c L n 9 w (by omega) (by omega) ha)
  have hTl : (tmL L n 9).length = n := tmP_len L n 9 n
  generalize tmL L n 9 = T at *
  have hrow : ∀ i, i < n → (getl T i).length = n := fun i hi => by have := hT.row i (by omega); rwa [hTl] at this
  have hm0 : 0 ≤ chN T (sAll T.length) := chN_nonneg hT (by unfold sAll; have : 2 ^ T.length ≤ 2 ^ 10 := Nat.pow_le_pow_right (by omega) (by omega); have := Nat.two_pow_pos T.length; omega)
  have hm1 := chN_120 hT (by omega)
  have HTB : Hid (∀ (V : World) A c, RowsIn V A T → Calls Try.prog 17 #[.slice A n c] V fun e w' => ∃ A' c' cs, e = .returned (.slice A' n c') ∧ w'.ownsRow V.heap.size 27 1 (.slice A' n c') n cs ∧ RowsOwn w' V.heap.size cs T ∧ Apt cs ∧ Below V.heap.size V w') := Lib.hid (fun V A c hV => by
    have := table_apt A c T V (by unfold maxLen; omega) hV
    rw [tbR_all hT, hTl, show min n 11 = n by omega] at this
    exact this)
  have HPM : Hid (∀ (V : World) A c, RowsAt V A (onesL T) → Calls Try.prog 18 #[.slice A n c] V fun e w' => e = .returned (.tuple #[.int .i64 (chN T (sAll T.length)), .int .i64 0]) ∧ Below V.heap.size V w') := Lib.hid (fun V A c hV => by
    have := Permanent_yes A c (onesL T) V hT.ones hV
    rw [onesL_len, hTl] at this
    have e : perm (onesL T) = chN T (sAll T.length) := by unfold perm; rw [onesL_len]
    rw [e] at this
    exact this)
  have hlen : ∀ k : Int, 0 ≤ k → k < chN T (sAll T.length) → (itm T T.length (sAll T.length) k).length = n := fun k h0 h1 => by have := (itm_poss hT h0 h1).2; omega
  have HCH : Hid (∀ (V : World) A c, RowsAt V A T → Calls Try.prog 31 #[.slice A n c] V fun e w' => ∃ A1 c1 k1 A2 c2 k2, e = .returned (.tuple #[.slice A1 k1 c1, .slice A2 k2 c2, .int .i64 0]) ∧ (0 < chN T (sAll T.length) → k1 = n ∧ IntsAt w' A1 (itm T T.length (sAll T.length) 0)) ∧ Below V.heap.size V w') := Lib.hid (fun V A c hV => by
    by_cases hk : 0 < chN T (sAll T.length)
    · have := Choose_yes A c T V hT hk hV
      rw [hTl] at this
      refine this.mono ?_
      rintro e w' ⟨A1, c1, rfl, o, b⟩
      obtain ⟨A9, c9, e9, -, -, i9⟩ := own_intsI o
      injection e9 with e91 e92 e93
      subst e91
      have hl := hlen 0 (Int.le_refl 0) hk
      rw [hTl] at hl
      exact ⟨A1, c1, _, none, 0, 0, rfl, fun _ => ⟨hl, by first | exact i9 | (rw [hTl]; exact i9)⟩, b⟩
    · have := Choose_none A c T V hT (by omega) hV
      rw [hTl] at this
      refine this.mono ?_
      rintro e w' ⟨A2, c2, rfl, -, b⟩
      exact ⟨none, 0, 0, A2, c2, _, rfl, fun h => absurd h hk, b⟩)
  have HIT : Hid (∀ (V : World) A c (k : Int), 0 ≤ k → k < chN T (sAll T.length) → RowsAt V A T → Calls Try.prog 19 #[.slice A n c, .int .i64 k] V fun e w' => ∃ A1 c1, e = .returned (.tuple #[.slice A1 n c1, .int .i64 0]) ∧ IntsAt w' A1 (itm T T.length (sAll T.length) k) ∧ Below V.heap.size V w') := Lib.hid (fun V A c k h0 h1 hV => by
    have := Item_yes A c T k V hT h0 h1 hV
    rw [hlen k h0 h1, hTl] at this
    refine this.mono ?_
    rintro e w' ⟨A1, c1, rfl, o, b⟩
    obtain ⟨A9, c9, e9, -, -, i9⟩ := own_intsI o
    injection e9 with e91 e92 e93
    subst e91
    exact ⟨A1, c1, rfl, by rw [hTl]; exact i9, b⟩)
  have HIB : Hid (∀ (V : World) A c, RowsAt V A T → Calls Try.prog 19 #[.slice A n c, .int .i64 (chN T (sAll T.length))] V fun e w' => e = .returned (.tuple #[.slice none 0 0, .int .i64 2]) ∧ Below V.heap.size V w') := Lib.hid (fun V A c hV => by
    have := Item_big A c T (chN T (sAll T.length)) V hT hm0 (Int.le_refl _) hV
    rw [hTl] at this ⊢
    exact this)
  have HPO : Hid (∀ (V : World) A c B d (k : Int), 0 ≤ k → k < chN T (sAll T.length) → RowsAt V A T → IntsAt V B (itm T T.length (sAll T.length) k) → Calls Try.prog 35 #[.slice A n c, .slice B n d] V fun e w' => e = .returned (.bool true) ∧ Below V.heap.size V w') := Lib.hid (fun V A c B d k h0 h1 hV hB => by
    have h2 := hlen k h0 h1
    have := refPossible_any A B c d T (itm T T.length (sAll T.length) k) V hT (by omega) hV hB
    rw [(itm_poss hT h0 h1).1, h2, hTl] at this
    exact this)
  have HIN : Hid (∀ (V : World) B d C f, 0 < chN T (sAll T.length) → IntsAt V B (itm T T.length (sAll T.length) 0) → IntsAt V C (itm T T.length (sAll T.length) 0) → Calls Try.prog 24 #[.slice B n d, .slice C n f] V fun e w' => e = .returned (.bool true) ∧ ∃ n, w' = V.drewN n) := Lib.hid (fun V B d C f hk h1 h2 =>
    ints_yes B C d f (itm T T.length (sAll T.length) 0) n V (hlen 0 (Int.le_refl 0) hk) (by omega) h1 h2)
  have HBF : Hid (∀ (V : World) B d C f (q : Nat), ((q + 1 : Nat) : Int) < chN T (sAll T.length) → IntsAt V B (itm T T.length (sAll T.length) (q : Int)) → IntsAt V C (itm T T.length (sAll T.length) ((q + 1 : Nat) : Int)) → Calls Try.prog 46 #[.slice B n d, .slice C n f] V fun e w' => e = .returned (.bool true) ∧ ∃ n, w' = V.drewN n) := Lib.hid (fun V B d C f q hk h1 h2 => by
    have l1 := hlen (q : Int) (by omega) (by omega)
    have l2 := hlen ((q + 1 : Nat) : Int) (by omega) hk
    have := before_yes B C d f _ _ V (by omega) (by omega) (itm_bfr hT (j := (q : Int)) (k := ((q + 1 : Nat) : Int)) (by omega) (by omega) hk) h1 h2
    rw [l1, l2] at this
    exact this)
  have HOE : Hid (∀ K, OnAt T K n n 0 → K = onesL T) := Lib.hid (fun K h => h.all hTl hrow)
  have HO0 : Hid (OnAt T T n 0 0) := Lib.hid (OnAt.start hTl hrow)
  have HON := Lib.hid (fun K i k (h : OnAt T K n i k) (hi : i < n) (hk : k < n) => h.next hi hk)
  have HOC := Lib.hid (fun K i k (h : OnAt T K n i k) (hi : i < n) (hk : k < n) => h.cell hi hk)
  have HBD : Hid (∀ i k, 0 ≤ gat T i k ∧ gat T i k ≤ 9) := Lib.hid (fun i k => ⟨(hT.bd i k).1, (hT.bd i k).2⟩)
  have HTL := Lib.hid hTl
  have HL : Hid (∀ (W V : World) v k, LastAt T n W v k → Below W.heap.size W V → LastAt T n V v k) := Lib.hid (fun W V v k h b => ⟨h.1, fun q hq => by
    obtain ⟨A, c, h1, h2⟩ := h.2 q hq
    exact ⟨A, c, h1, h2.below b⟩⟩)
  have HL0 : Hid (∀ W : World, LastAt T n W (.slice none 0 0) 0) := Lib.hid (fun W => ⟨fun _ => rfl, fun q hq => absurd hq (by omega)⟩)
  have HLS : Hid (∀ (W : World) (k : Nat) A c, IntsAt W A (itm T T.length (sAll T.length) (k : Int)) → LastAt T n W (.slice A n c) (k + 1)) := Lib.hid (fun W k A c h => ⟨fun h0 => absurd h0 (by omega), fun q hq => ⟨A, c, rfl, by rw [show q = k by omega]; exact h⟩⟩)
  clear hlen hT ha hrow hTl
  generalize chN T (sAll T.length) = many at *
  have b0 := Below.refl w.heap.size w
  go_enter Try.func13, Try.ntmps13
  go_wp2_with (first | (go_at_call 43; refine (HM1.out _).mono ?_; rintro e w1 ⟨rfl, rfl⟩) | (go_at_call 44; fail))
  refine HTM.out.mono ?_
  rintro e w2 ⟨A2, c2, cs2, rfl, o2, R2, b2⟩
  have I2 := Lib.hid (rows_in R2 o2)
  have C2 := Lib.hid (rows_at R2 o2)
  have z2 := Below.refl w2.heap.size w2
  clear HTM R2 o2 HM1 b0
  go_wp2_with (go_at_call 17; fail)
  refine (HTB.out _ A2 c2 I2.out).mono ?_
  rintro e w3 ⟨A3, c3, cs3, rfl, o3, R3, P3, b3⟩
  have HP3 := Lib.hid P3
  have HO3 := Lib.hid o3
  have HR3 := Lib.hid R3
  have hw23 := b3.size
  clear HTB I2 o3 R3 P3
  go_wp2
  go_loopw [7] (fun v wr => ∃ (i : Nat) (K : List (List Int)), i ≤ n ∧ v = .int .i64 i ∧ Hid (OnAt T K n i 0) ∧ Hid (RowsOwn wr w2.heap.size cs3 K) ∧ Hid (wr.ownsRow w2.heap.size 27 1 (.slice A3 n c3) n cs3) ∧ Below w2.heap.size w2 wr) (fun v _ => n - (intOf v).toNat)
  case atStart => exact ⟨0, T, by omega, rfl, HO0, HR3, HO3, b3⟩
  case round =>
    clear HO0 HR3 HO3 b3 hw23
    obtain ⟨i, K, hi, rfl, HK, HR3, HO3, b3⟩ := hrel
    by_cases hlt : i < n
    · have g1 : decide ((i : Int) < (n : Int)) = true := decide_eq_true (by omega)
      obtain ⟨W, hW⟩ : ∃ W, W = wr := ⟨_, rfl⟩
      subst hW
      obtain ⟨g, cg, cur, hcs, hgB, -, -, -, -⟩ := HR3.out.put HP3.out (r := i) (k := 0) (by have := HK.out.len; omega) (by rw [HK.out.row i hlt]; omega)
      rw [HK.out.row i hlt] at hcs
      obtain ⟨gm, cm, e10, hgm, hgl, hcm⟩ := own_form HO3.out (by omega)
      injection e10 with e11 e12 e13
      subst e11 e13
      have er := hcm i _ hcs
      have HCS := Lib.hid hcs
      clear hcs hcm e12
      go_wp2
      go_loopw [9] (fun v wr => ∃ (k : Nat) (K2 : List (List Int)), k ≤ n ∧ v = .int .i64 k ∧ Hid (OnAt T K2 n i k) ∧ Hid (RowsOwn wr w2.heap.size cs3 K2) ∧ Hid (wr.ownsRow w2.heap.size 27 1 (.slice (some ⟨gm, 0, none⟩) n c3) n cs3) ∧ Below w2.heap.size w2 wr) (fun v _ => n - (intOf v).toNat)
      case atStart => exact ⟨0, K, by omega, rfl, HK, HR3, HO3, b3⟩
      case round =>
        clear HR3 HO3 b3 HK er hgl cur
        obtain ⟨k, K2, hk, rfl, HK, HR3, HO3, b3⟩ := hrel
        by_cases hkn : k < n
        · have g2 : decide ((k : Int) < (n : Int)) = true := decide_eq_true (by omega)
          obtain ⟨g', c', cur, hcs', hgB', hgh, hcell, hfz, HPUT⟩ := HR3.out.put HP3.out (r := i) (k := k) (by have := HK.out.len; omega) (by rw [HK.out.row i hlt]; exact hkn)
          rw [HK.out.row i hlt] at hcs'
          have hee := HCS.out.symm.trans hcs'
          injection hee with e1
          injection e1 with e1 e2 e3
          injection e1 with e1
          injection e1 with e1
          subst e1
          rw [show geti (getl K2 i) k = gat T i k from HOC.out K2 i k HK.out hlt hkn] at hcell
          have HN1 := Lib.hid (HON.out K2 i k HK.out hlt hkn)
          obtain ⟨hx0, hx9⟩ := HBD.out i k
          have HP1 := Lib.hid (HPUT (min (gat T i k) 1))
          have HF1 := Lib.hid (fun x : Int => own_far_t (k := k) (v := .int .i64 x) HO3.out (by decide) hgh)
          clear hcs' HPUT hgh e2 e3 HR3 HK hgB'
          generalize gat T i k = x at *
          go_wp2
          have hmin : (if 1 < x then 1 else x) = min x 1 := by split <;> omega
          rw [hmin]
          exact ⟨⟨k + 1, setT K2 i k (min x 1), by omega, by go_num, HN1, HP1, Lib.hid (HF1.out _), b3.setCell (by dsimp only; omega) _⟩, by simp [intOf]; omega⟩
        · have hkk : k = n := by omega
          subst hkk
          have g2 : decide ((k : Int) < (k : Int)) = false := decide_eq_false (by omega)
          go_wp2
          exact ⟨⟨i + 1, K2, by omega, by go_num, Lib.hid HK.out.row_end, HR3, HO3, b3⟩, by simp [intOf]; omega⟩
    · have hii : i = n := by omega
      subst hii
      have g1 : decide ((i : Int) < (i : Int)) = false := decide_eq_false (by omega)
      have hK := HOE.out K HK.out
      rw [hK] at HR3
      have C3 := Lib.hid (rows_at HR3.out HO3.out)
      clear HK HR3 HO3 hK HON HOC HBD HOE HP3
      have gm0 : decide (many < 0) = false := decide_eq_false (by omega)
      have gm1 : decide (120 < many) = false := decide_eq_false (by omega)
      go_wp2_with (go_at_call 18; fail)
      refine (HPM.out _ A3 c3 C3.out).mono ?_
      rintro e w4 ⟨rfl, b4⟩
      replace b4 := b3.trans (b4.mono b3.size)
      clear HPM C3 b3
      go_wp2_with (go_at_call 31; fail)
      refine (HCH.out _ A2 c2 (C2.out.below b4)).mono ?_
      rintro e w5 ⟨B1, d1, j1, B2, d2, j2, rfl, hX, b5⟩
      have HX := Lib.hid hX
      have z5 := b4.trans (b5.mono b4.size)
      have C5 := Lib.hid (C2.out.below z5)
      have b6 := b2.trans (z5.mono b2.size)
      clear HCH C2 b4 b5 hX z5 b2 z2
      have z6 := Below.refl w5.heap.size w5
      have HLA := Lib.hid (HL0.out w5)
      go_wp2
      go_loopw [15, 16] (fun lv kv wr => ∃ k : Nat, (k : Int) ≤ many ∧ kv = .int .i64 k ∧ Hid (LastAt T i wr lv k) ∧ Below w5.heap.size w5 wr) (fun _ kv _ => many.toNat - (intOf kv).toNat)
      case atStart => exact ⟨0, by omega, rfl, HLA, z6⟩
      case round =>
        clear HLA z6
        obtain ⟨k, hk, rfl, HLA, z6⟩ := hrel
        by_cases hlk : (k : Int) < many
        · have g2 : decide ((k : Int) < many) = true := decide_eq_true hlk
          have HI1 := Lib.hid (HIT.out wr A2 c2 (k : Int) (by omega) hlk (C5.out.below z6))
          have HP1 := Lib.hid (fun (V : World) B d hV hB => HPO.out V A2 c2 B d (k : Int) (by omega) hlk (C5.out.below hV) hB)
          by_cases hk0 : k = 0
          · have g3 : ((k : Int) == 0) = true := by rw [beq_iff_eq]; omega
            have g4 : decide (0 < k) = false := decide_eq_false (by omega)
            have hkz : (k : Int) = 0 := by omega
            obtain ⟨hj, hXi⟩ := HX.out (by omega)
            have HXI := Lib.hid hXi
            have HIQ : Hid (∀ (V : World) B d, IntsAt V B (itm T T.length (sAll T.length) (k : Int)) → Below w5.heap.size w5 V → Calls Try.prog 24 #[.slice B i d, .slice B1 i d1] V fun e w' => e = .returned (.bool true) ∧ ∃ n, w' = V.drewN n) := Lib.hid (fun V B d h hV => by
              rw [hkz] at h
              exact HIN.out V B d B1 d1 (by omega) h (HXI.out.below hV))
            subst hj
            clear hkz hk0 hXi HXI
            go_wp2_with (go_at_call 19; fail)
            refine HI1.out.mono ?_
            rintro e w7 ⟨A7, c7, rfl, I7, b7⟩
            have z7 := z6.trans (b7.mono z6.size)
            clear HI1 b7
            go_wp2_with (go_at_call 35; fail)
            refine (HP1.out _ A7 c7 z7 I7).mono ?_
            rintro e w8 ⟨rfl, b8⟩
            have z8 := z7.trans (b8.mono z7.size)
            replace I7 := I7.below b8
            clear HP1 b8 z7
            go_wp2_with (go_at_call 24; fail)
            refine (HIQ.out _ A7 c7 I7 z8).mono ?_
            rintro e w9 ⟨rfl, n9, rfl⟩
            replace z8 := z8.trans (below_drewN n9)
            replace I7 := I7.below (below_drewN (B := _) n9)
            go_wp2
            exact ⟨⟨k + 1, by omega, by go_num, Lib.hid (HLS.out _ k A7 c7 I7), z8⟩, by simp [intOf]; omega⟩
          · have g3 : ((k : Int) == 0) = false := by rw [beq_eq_false_iff_ne]; omega
            have g4 : decide (0 < k) = true := decide_eq_true (by omega)
            obtain ⟨Aq, cq, hlv, Iq⟩ := HLA.out.2 (k - 1) (by omega)
            have HIQ := Lib.hid (fun (V : World) B d C f (h1 : IntsAt V B (itm T T.length (sAll T.length) ((k - 1 : Nat) : Int))) (h2 : IntsAt V C (itm T T.length (sAll T.length) (k : Int))) => HBF.out V B d C f (k - 1) (by omega) h1 (by rw [show k - 1 + 1 = k by omega]; exact h2))
            subst hlv
            have HIq := Lib.hid Iq
            clear hk0 Iq HLA
            go_wp2_with (go_at_call 19; fail)
            refine HI1.out.mono ?_
            rintro e w7 ⟨A7, c7, rfl, I7, b7⟩
            have z7 := z6.trans (b7.mono z6.size)
            have Iq := HIq.out.below b7
            clear HI1 b7
            go_wp2_with (go_at_call 35; fail)
            refine (HP1.out _ A7 c7 z7 I7).mono ?_
            rintro e w8 ⟨rfl, b8⟩
            have z8 := z7.trans (b8.mono z7.size)
            replace I7 := I7.below b8
            replace Iq := Iq.below b8
            clear HP1 b8 z7
            go_wp2_with (go_at_call 46; fail)
            refine (HIQ.out _ Aq cq A7 c7 Iq I7).mono ?_
            rintro e w9 ⟨rfl, n9, rfl⟩
            replace z8 := z8.trans (below_drewN n9)
            replace I7 := I7.below (below_drewN (B := _) n9)
            go_wp2
            exact ⟨⟨k + 1, by omega, by go_num, Lib.hid (HLS.out _ k A7 c7 I7), z8⟩, by simp [intOf]; omega⟩
        · have hkm : many = (k : Int) := by omega
          have g2 : decide ((k : Int) < many) = false := decide_eq_false (by omega)
          have b7 := b6.trans (z6.mono b6.size)
          have HB1 := Lib.hid (HIB.out wr A2 c2 (C5.out.below z6))
          have hbz := b7.size
          clear hkm hlk HLA HIT HPO HIN HBF HIB C5 HX HL HL0 HLS z6 b6
          go_wp2_with (go_at_call 19; fail)
          refine HB1.out.mono ?_
          rintro e w8 ⟨rfl, b8⟩
          replace b7 := b7.trans (b8.mono hbz)
          clear HB1 b8 hbz
          go_wp2_with (go_at_call 21; refine (awake_any _).mono ?_; rintro e w9 ⟨rfl, b9⟩; replace b7 := b7.trans (b9.mono b7.size); clear b9)
          go_ret
          exact ⟨rfl, b7⟩
end Go.Proofs.Ytnnaaoobdofooaa
