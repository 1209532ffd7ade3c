/- ClockRenamed walked. -/
import Derived.Test.YtignbpipdfjkeaaDoorDE
import Derived.Test.YtignbpipdfjkeaaDoorDF
import Derived.Test.YtignbpipdfjkeaaDoorBV
namespace Go.Proofs.YtignbpipdfjkeaaDoor
open Go.RowKit Go.PlainAid
set_option maxHeartbeats 4000000
set_option maxRecDepth 100000
theorem IntsAt.cellN2 {V : World} {C : Option Addr} {l : List Nat} (h : IntsAt V C (natI l)) (hp : 0 < l.length) : ∃ b o, C = some ⟨b, o, none⟩ ∧ b < V.heap.size ∧ ∀ i, i < l.length → V.cell? ⟨b, o + i, none⟩ = some (.int .i64 (getn l i : Nat)) := by
  obtain ⟨b, o, e, hb, hc⟩ := h (by rw [natI_len]; exact hp)
  exact ⟨b, o, e, hb, fun i hi => by rw [hc i (by rw [natI_len]; exact hi), geti_natI]⟩
theorem ord_iv (K : List Int) (i : Nat) : iv (natI (ordO K (i + 1))) = iv ((natI (ordO K i)).take (atO K i)) ++ [.int .i64 (i : Int)] ++ iv ((natI (ordO K i)).drop (atO K i)) := by
  show iv (natI ((ordO K i).take (atO K i) ++ [i] ++ (ordO K i).drop (atO K i))) = _
  unfold iv natI
  simp only [List.map_append, List.map_take, List.map_drop, List.map_cons, List.map_nil]
theorem take_snoc {L : List (List Int)} {b : Nat} (hb : b < L.length) : L.take (b + 1) = L.take b ++ [getl L b] := by
  rw [List.take_add_one]
  congr 1
  unfold getl
  rw [List.getD_eq_getElem?_getD, List.getElem?_eq_getElem hb]; rfl
theorem crn_walk (A B C : Option Addr) (m c m2 d e N n rk rk2 : Nat) (s : Bool) (w : World) (M O Y : List (List Int)) (K : List Int) (RS W W2 : ByteArray) (RP RQ RE : Int) (hM : IsMI M) (hn : nS M = n) (hN : K.length = N) (hNm : N ≤ maxLen) (hC : IntsAt w C K)
    (hY : Y = yM (ordO K n) M n)
    (HT : Hid (Calls Tryd.prog 44 #[.slice A m c] w (TabM w M)))
    (HT2 : Hid (∀ V, Below w.heap.size w V → Calls Tryd.prog 44 #[.slice B m2 d] V (TabM V O)))
    (HAW : Hid (∀ V, Below w.heap.size w V → Calls Tryd.prog 22 #[] V fun e w' => e = .returned (.bool true) ∧ Below V.heap.size V w'))
    (HSY : Hid (∀ V A c B d, Below w.heap.size w V → RowsAt V A M → RowsAt V B Y → Calls Tryd.prog 42 #[.slice A M.length c, .slice B M.length d] V fun e w' => e = .returned (.tuple #[.bool true, .int .i64 0]) ∧ Below V.heap.size V w'))
    (HSZ : Hid (∀ V A c B d, Below w.heap.size w V → RowsAt V A M → RowsAt V B O → Calls Tryd.prog 42 #[.slice A M.length c, .slice B O.length d] V fun e w' => e = .returned (.tuple #[.bool s, .int .i64 0]) ∧ Below V.heap.size V w'))
    (HZS : Hid (∀ V A c B d, Below w.heap.size w V → RowsAt V A M → RowsAt V B O → Calls Tryd.prog 42 #[.slice B O.length d, .slice A M.length c] V fun e w' => e = .returned (.tuple #[.bool s, .int .i64 0]) ∧ Below V.heap.size V w'))
    (HRX : Hid (∀ V A c, Below w.heap.size w V → RowsAt V A M → Calls Tryd.prog 17 #[.slice A M.length c] V fun e w' => e = .returned (.tuple #[.string RS, .int .i64 RP, .int .i64 RE]) ∧ Below V.heap.size V w'))
    (HRY : Hid (∀ V A c, Below w.heap.size w V → RowsAt V A Y → Calls Tryd.prog 17 #[.slice A M.length c] V fun e w' => e = .returned (.tuple #[.string RS, .int .i64 RQ, .int .i64 RE]) ∧ Below V.heap.size V w'))
    (HKX : Hid (∀ V A c, Below w.heap.size w V → RowsAt V A M → Calls Tryd.prog 18 #[.slice A M.length c] V fun e w' => e = .returned (.tuple #[.int .i64 (rk : Nat), .string W, .int .i64 0]) ∧ Below V.heap.size V w'))
    (HKY : Hid (∀ V A c, Below w.heap.size w V → RowsAt V A Y → Calls Tryd.prog 18 #[.slice A M.length c] V fun e w' => e = .returned (.tuple #[.int .i64 (rk : Nat), .string W, .int .i64 0]) ∧ Below V.heap.size V w'))
    (HKZ : Hid (∀ V A c, Below w.heap.size w V → RowsAt V A O → Calls Tryd.prog 18 #[.slice A O.length c] V fun e w' => e = .returned (.tuple #[.int .i64 (rk2 : Nat), .string W2, .int .i64 0]) ∧ Below V.heap.size V w'))
    (hs : s = true → rk2 = rk) (hre : Hid (RE = 6 ∨ RE = 0 ∧ ∃ p, p < n ∧ RP = (p : Nat) ∧ RQ = (getn (ordO K n) p : Nat))) :
    Calls Tryd.prog 14 #[.slice A m c, .slice B m2 d, .slice C N e] w fun e w' => e = .returned (.bool true) ∧ Below w.heap.size w w' := by
  unfold maxLen at hNm
  obtain ⟨k0, ki, kz0, kz1, kz2⟩ := info_parts info29
  obtain ⟨j0, ji, jz0, jz1, jz2⟩ := info_parts info3
  have Hn := Lib.hid hn
  have HMI := Lib.hid hM
  have HY := Lib.hid hY
  have HS := Lib.hid hs
  have HN := Lib.hid hN
  have hk1 : 1 ≤ M.length := hM.k1
  have hk4 : M.length ≤ 4 := hM.k4
  have hn1 : 1 ≤ n := hn ▸ hM.n1
  have hn9 : n ≤ 9 := hn ▸ hM.n9
  have HC0 := Lib.hid (fun V (hV : Below w.heap.size w V) => hC.below hV)
  have b0 := Below.refl w.heap.size w
  clear hM hn hY hs hN hC
  go_enter Tryd.func14, Tryd.ntmps14
  go_wp2_with (first
    | (go_at_call 44; first
      | ((with_reducible refine HT.out.mono ?_); rintro e w1 ⟨A1, c1, rfl, ra, b1⟩; replace b0 := b1)
      | ((with_reducible refine (HT2.out _ b0).mono ?_); rintro e w2 ⟨A2, c2, rfl, rb, b2⟩; replace ra := ra.below b2; replace b0 := b0.trans (b2.mono b0.size); have ra0 := ra; obtain ⟨bA, oA, hA, hbA, hcA⟩ := ra0 hk1; subst hA; obtain ⟨B0, c00, d0, -⟩ := hcA 0 hk1; rw [show (getl M 0).length = nS M from rfl, Hn.out, Nat.add_zero] at d0)))
  have y0 := Below.refl w2.heap.size w2
  have HRA := Lib.hid (fun V (hV : Below w2.heap.size w2 V) => ra.below hV)
  have HRB := Lib.hid (fun V (hV : Below w2.heap.size w2 V) => rb.below hV)
  have HC := Lib.hid (fun V (hV : Below w2.heap.size w2 V) => HC0.out V (b0.trans (hV.mono b0.size)))
  have HB0 := Lib.hid (fun V (hV : Below w2.heap.size w2 V) => b0.trans (hV.mono b0.size))
  have o0 : w2.ownsRow w2.heap.size 3 1 (.slice none 0 0) 0 (iv (natI (ordO K 0))) := ⟨rfl, .inl ⟨rfl, rfl⟩⟩
  have CA : Hid (∀ b, b < M.length → ∃ x y cb, (∀ V, Below w2.heap.size w2 V → V.cell? ⟨bA, oA + b, none⟩ = some (.slice (some ⟨x, y, none⟩) n cb)) ∧ ∀ V q, Below w2.heap.size w2 V → q < n → V.cell? ⟨x, y + q, none⟩ = some (.int .i64 ((geti (getl M b) q).toNat : Nat)) ∧ (geti (getl M b) q).toNat < n) := Lib.hid (fun b hb => by
    obtain ⟨Bp, cb, h1, h2⟩ := hcA b hb
    have hr := HMI.out.row b hb
    obtain ⟨x, y, rfl, h3, h4⟩ := h2 (by rw [hr, Hn.out]; omega)
    refine ⟨x, y, cb, fun V hV => ?_, fun V q hV hq => ⟨?_, ?_⟩⟩
    · rw [(hV.cell (p := ⟨bA, _, none⟩) hbA).trans h1, hr, Hn.out]
    · have h5 := HMI.out.lo b q hb (by rw [Hn.out]; exact hq)
      unfold gat at h5
      rw [(hV.cell (p := ⟨x, _, none⟩) h3).trans (h4 q (by rw [hr, Hn.out]; exact hq)), Int.toNat_of_nonneg h5]
    · have h5 := HMI.out.lo b q hb (by rw [Hn.out]; exact hq)
      have h6 := HMI.out.hi b q hb (by rw [Hn.out]; exact hq)
      unfold gat at h5 h6
      rw [Hn.out] at h6
      omega)
  clear ra rb HT HT2 HC0 hcA d0
  go_loopw [10, 11] (fun v u wr => ∃ i : Nat, i ≤ n ∧ u = .int .i64 i ∧ wr.ownsRow w2.heap.size 3 1 v i (iv (natI (ordO K i))) ∧ Below w2.heap.size w2 wr) (fun _ u _ => n - (intOf u).toNat)
  case atStart => exact ⟨0, by omega, rfl, o0, y0⟩
  case round =>
    clear o0 y0 b0
    obtain ⟨i, hi, rfl, o0, y0⟩ := hrel
    by_cases hlt : i < n
    · have g1 : decide ((i : Int) < (n : Int)) = true := decide_eq_true (by omega)
      have g1' : decide (i < n) = true := decide_eq_true hlt
      obtain ⟨A3, c3, hv, -, L3⟩ := own_lst o0
      have hl : (natI (ordO K i)).length = i := by rw [natI_len, ordO_len]
      rw [hl] at hv
      subst hv
      have hao := atO_le K i
      obtain ⟨LH, hsh⟩ := L3.high (l := atO K i) (by rw [hl]; exact hao)
      obtain ⟨A4, LL, hsl⟩ := L3.low (l := atO K i) (by rw [hl]; exact hao)
      rw [hl] at hsh hsl
      have hys := y0.size
      have HO3 : Hid (∀ (V : World) v, V.ownsRow wr.heap.size 3 1 v (atO K i + 1 + (i - atO K i)) (iv ((natI (ordO K i)).take (atO K i)) ++ [.int .i64 (i : Int)] ++ iv ((natI (ordO K i)).drop (atO K i))) → V.ownsRow w2.heap.size 3 1 v (i + 1) (iv (natI (ordO K (i + 1))))) := Lib.hid (fun V v h => by
        rw [show atO K i + 1 + (i - atO K i) = i + 1 by omega] at h
        rw [ord_iv]
        exact own_mono h hys)
      have HL1 : Hid (((natI (ordO K i)).take (atO K i)).length = atO K i) := Lib.hid (by rw [List.length_take, hl]; omega)
      have HL2 : Hid (((natI (ordO K i)).drop (atO K i)).length = i - atO K i) := Lib.hid (by rw [List.length_drop, hl])
      have HAT : Hid (atO K i = if i < N then modI (geti K i) (i + 1) else i) := Lib.hid (by rw [← HN.out]; rfl)
      generalize (natI (ordO K i)).take (atO K i) = X at *
      generalize (natI (ordO K i)).drop (atO K i) = Z at *
      generalize atO K i = a at *
      have HLH := Lib.hid LH
      have HLL := Lib.hid LL
      obtain ⟨c4, hc4⟩ : ∃ c4, c4 = c3 - a := ⟨_, rfl⟩
      rw [← hc4] at HLL hsl
      clear hc4 LH LL L3 hl o0
      by_cases hiN : i < N
      · have g2 : decide ((i : Int) < (N : Int)) = true := decide_eq_true (by omega)
        have g2' : decide (i < N) = true := decide_eq_true hiN
        obtain ⟨bC, oC, hCe, -, hcC⟩ := HC.out wr y0 (by rw [HN.out]; omega)
        subst hCe
        have x3 := hcC i (by rw [HN.out]; exact hiN)
        have hae := HAT.out
        rw [if_pos hiN] at hae
        have HM1 : Hid (∀ V : World, Calls Tryd.prog 48 #[.int .i64 (geti K i), .int .i64 ((i : Int) + 1)] V fun e w' => e = .returned (.int .i64 a) ∧ V = w') := Lib.hid (fun V => by rw [hae]; exact mod_any (geti K i) (i + 1) V (by omega) (by omega))
        clear hae HAT hcC
        go_wp2_with (first
          | (go_at_call 48; (with_reducible refine (HM1.out _).mono ?_); rintro e w5 ⟨rfl, rfl⟩)
          | ((with_reducible refine (?_ : wpList _ _ _ (Oper.mk (some 68) _ _ _ _ _ :: _) _ _)); refine wpList_append_x rfl (.tmp 64) (.tmp 67) 29 rfl wr.heap.size 3 j0 _ 1 8 Tryd.underlying29 ji jz0 jz1 jz2 rfl (by omega) (.slice none 0 0) 0 [] rfl ⟨by simp, .inl ⟨rfl, rfl⟩⟩ A3 a c3 (iv X) rfl (fun e => by rw [← HL1.out]; exact HLH.out.2.1 e) (by rw [iv_len, HL1.out]; try omega) HLH.out.2.2.2 (iv_one _) (by unfold maxLen; omega) (by omega) (Nat.le_refl _) ?_; intro v3 w4 o4 hg4; have b51 : Below wr.heap.size wr w4 := (Below.refl _ _).grown hg4 (Nat.le_refl _) (by simp [Value.ownBlock]); have O1 : Hid (w4.ownsRow wr.heap.size 3 1 v3 a (iv X)) := Lib.hid (by simpa using o4); have hb51 := b51.size; have hnr : Row (w4.alloc (.cells #[.int .i64 (i : Int)] 3)) w4.heap.size 3 [.int .i64 (i : Int)] := row_new rfl; clear o4 hg4)
          | ((with_reducible refine (?_ : wpList _ _ _ (Oper.mk (some 72) _ _ _ _ _ :: _) _ _)); refine wpList_append_own_at _ rfl (.tmp 69) (.tmp 71) 29 rfl wr.heap.size 3 j0 _ 1 8 Tryd.underlying29 ji jz0 jz1 jz2 rfl (by omega) _ a (iv X) rfl (O1.out.alloc _) ⟨w4.heap.size, 0, none⟩ 1 1 [.int .i64 (i : Int)] rfl rfl (news_one hnr) (by simp [Value.oneCell']) (by unfold maxLen; omega) (by omega) (by simp; omega) ?_; intro v5 w6 o5 hg5 _ _; have b52 : Below wr.heap.size wr w6 := b51.trans (app1' O1.out hb51 hg5); have hb52 := b52.size; have O2 := Lib.hid o5; have HLL2 := Lib.hid (HLL.out.below b52); clear o5 hg5)
          | ((with_reducible refine (?_ : wpList _ _ _ (Oper.mk (some 77) _ _ _ _ _ :: _) _ _)); refine wpList_append_x rfl (.tmp 73) (.tmp 76) 29 rfl wr.heap.size 3 j0 _ 1 8 Tryd.underlying29 ji jz0 jz1 jz2 rfl (by omega) _ (a + 1) _ rfl O2.out A4 (i - a) c4 (iv Z) rfl (fun e => by rw [← HL2.out]; exact HLL2.out.2.1 e) (by rw [iv_len, HL2.out]; try omega) HLL2.out.2.2.2 (iv_one _) (by unfold maxLen; omega) (by omega) hb52 ?_; intro v7 w7 o7 hg7; have b53 : Below wr.heap.size wr w7 := b52.trans ((Below.refl wr.heap.size _).grown hg7 hb52 (fun g hg => (own_ge O2.out hg).1)); have o9 := HO3.out _ _ o7; clear o7 hg7))
        go_roundw
        case rel => exact ⟨i + 1, by omega, by go_num, o9, y0.trans (b53.mono hys)⟩
        case measure => simp [intOf]; omega
      · have g2 : decide ((i : Int) < (N : Int)) = false := decide_eq_false (by omega)
        have g2' : decide (i < N) = false := decide_eq_false hiN
        have hae := HAT.out
        rw [if_neg hiN] at hae
        subst hae
        rw [Nat.sub_self] at hsl HO3 HL2
        clear HAT
        go_wp2_with (first
          | ((with_reducible refine (?_ : wpList _ _ _ (Oper.mk (some 68) _ _ _ _ _ :: _) _ _)); refine wpList_append_x rfl (.tmp 64) (.tmp 67) 29 rfl wr.heap.size 3 j0 _ 1 8 Tryd.underlying29 ji jz0 jz1 jz2 rfl (by omega) (.slice none 0 0) 0 [] rfl ⟨by simp, .inl ⟨rfl, rfl⟩⟩ A3 a c3 (iv X) rfl (fun e => by rw [← HL1.out]; exact HLH.out.2.1 e) (by rw [iv_len, HL1.out]; try omega) HLH.out.2.2.2 (iv_one _) (by unfold maxLen; omega) (by omega) (Nat.le_refl _) ?_; intro v3 w4 o4 hg4; have b51 : Below wr.heap.size wr w4 := (Below.refl _ _).grown hg4 (Nat.le_refl _) (by simp [Value.ownBlock]); have O1 : Hid (w4.ownsRow wr.heap.size 3 1 v3 a (iv X)) := Lib.hid (by simpa using o4); have hb51 := b51.size; have hnr : Row (w4.alloc (.cells #[.int .i64 (a : Int)] 3)) w4.heap.size 3 [.int .i64 (a : Int)] := row_new rfl; clear o4 hg4)
          | ((with_reducible refine (?_ : wpList _ _ _ (Oper.mk (some 72) _ _ _ _ _ :: _) _ _)); refine wpList_append_own_at _ rfl (.tmp 69) (.tmp 71) 29 rfl wr.heap.size 3 j0 _ 1 8 Tryd.underlying29 ji jz0 jz1 jz2 rfl (by omega) _ a (iv X) rfl (O1.out.alloc _) ⟨w4.heap.size, 0, none⟩ 1 1 [.int .i64 (a : Int)] rfl rfl (news_one hnr) (by simp [Value.oneCell']) (by unfold maxLen; omega) (by omega) (by simp; omega) ?_; intro v5 w6 o5 hg5 _ _; have b52 : Below wr.heap.size wr w6 := b51.trans (app1' O1.out hb51 hg5); have hb52 := b52.size; have O2 := Lib.hid o5; have HLL2 := Lib.hid (HLL.out.below b52); clear o5 hg5)
          | ((with_reducible refine (?_ : wpList _ _ _ (Oper.mk (some 77) _ _ _ _ _ :: _) _ _)); refine wpList_append_x rfl (.tmp 73) (.tmp 76) 29 rfl wr.heap.size 3 j0 _ 1 8 Tryd.underlying29 ji jz0 jz1 jz2 rfl (by omega) _ (a + 1) _ rfl O2.out A4 0 c4 (iv Z) rfl (fun e => ⟨rfl, (HLL2.out.2.1 e).2⟩) (by rw [iv_len, HL2.out]; try omega) HLL2.out.2.2.2 (iv_one _) (by unfold maxLen; omega) (by omega) hb52 ?_; intro v7 w7 o7 hg7; have b53 : Below wr.heap.size wr w7 := b52.trans ((Below.refl wr.heap.size _).grown hg7 hb52 (fun g hg => (own_ge O2.out hg).1)); have o9 := HO3.out _ _ o7; clear o7 hg7))
        go_roundw
        case rel => exact ⟨a + 1, by omega, by go_num, o9, y0.trans (b53.mono hys)⟩
        case measure => simp [intOf]; omega
    · obtain rfl : i = n := by omega
      have g1 : decide ((i : Int) < (i : Int)) = false := decide_eq_false (by omega)
      have g1' : decide (i < i) = false := decide_eq_false (by omega)
      obtain ⟨A3, c3, hv, -, -, IO⟩ := own_intsI o0
      rw [natI_len, ordO_len] at hv
      subst hv
      obtain ⟨bN, oN, hAe, hbN, hcN⟩ := IO.cellN2 (by rw [ordO_len]; omega)
      subst hAe
      have HNC : Hid (∀ V q, Below wr.heap.size wr V → q < i → V.cell? ⟨bN, oN + q, none⟩ = some (.int .i64 (getn (ordO K i) q : Nat)) ∧ getn (ordO K i) q < i) := Lib.hid (fun V q hV hq => ⟨(hV.cell (p := ⟨bN, _, none⟩) hbN).trans (hcN q (by rw [ordO_len]; exact hq)), ordO_lt K hq⟩)
      clear o0 IO hcN HC
      generalize ordO K i = o at *
      go_wp2
      obtain ⟨w3, hw3⟩ : ∃ w3, w3 = wr := ⟨_, rfl⟩
      subst hw3
      have z0 := Below.refl w3.heap.size w3
      have hys := y0.size
      have HYB := Lib.hid (fun V (hV : Below w3.heap.size w3 V) => y0.trans (hV.mono hys))
      have u0 : w3.ownsRow w3.heap.size 29 1 (.slice none 0 0) 0 [] := ⟨rfl, .inl ⟨rfl, rfl⟩⟩
      have R0' : Hid (RowsOwn w3 w3.heap.size [] (Y.take 0)) := Lib.hid ⟨by simp, fun j hj => absurd hj (by simp)⟩
      have HYL : Hid (Y.length = M.length) := Lib.hid (by rw [HY.out]; unfold yM; rw [List.length_map])
      have HYT : Hid (∀ b, b < M.length → Y.take (b + 1) = Y.take b ++ [yR o (getl M b) i i]) := Lib.hid (fun b hb => by rw [take_snoc (by rw [HYL.out]; exact hb), HY.out, getl_yM hb])
      clear HY
      go_loopw [14, 15] (fun v u wr => ∃ (b : Nat) (cs : List Value), b ≤ M.length ∧ u = .int .i64 b ∧ wr.ownsRow w3.heap.size 29 1 v b cs ∧ Hid (RowsOwn wr w3.heap.size cs (Y.take b)) ∧ Below w3.heap.size w3 wr) (fun _ u _ => M.length - (intOf u).toNat)
      case atStart => exact ⟨0, [], by omega, rfl, u0, R0', z0⟩
      case round =>
        clear u0 R0' z0
        obtain ⟨b, cs, hb, rfl, u0, HR, z0⟩ := hrel
        obtain ⟨w0, hw0⟩ : ∃ w0, w0 = wr := ⟨_, rfl⟩
        subst hw0
        obtain ⟨A5, c5, rfl⟩ := own_head u0
        by_cases hlb : b < M.length
        · have g2 : decide ((b : Int) < (M.length : Int)) = true := decide_eq_true (by omega)
          have g2' : decide (b < M.length) = true := decide_eq_true hlb
          have hmk := make_ints i (by omega)
          have HTK := Lib.hid (HYT.out b hlb)
          have hzs := z0.size
          have HZB := Lib.hid (fun V (hV : Below w0.heap.size w0 V) => z0.trans (hV.mono hzs))
          have HST : Hid (∀ q, yR o (getl M b) i (q + 1) = (yR o (getl M b) i q).set (getn o q) (getn o (geti (getl M b) q).toNat : Nat)) := Lib.hid (fun q => rfl)
          have HLN := Lib.hid (yR_len o (getl M b) i)
          have HO := Lib.hid u0
          clear u0
          have q1 : Row (w0.alloc (.cells (iv (List.replicate i 0)).toArray 3)) w0.heap.size 3 (iv (yR o (getl M b) i 0)) := row_new rfl
          have b1 : Below w0.heap.size w0 (w0.alloc (.cells (iv (List.replicate i 0)).toArray 3)) := (Below.refl _ w0).alloc (Nat.le_refl _) _
          obtain ⟨xx, yy, cb, CA1, CA2⟩ := CA.out b hlb
          have HCA1 := Lib.hid CA1
          have HCA2 := Lib.hid CA2
          clear CA1 CA2
          generalize getl M b = r at *
          go_wp2
          clear hmk
          generalize World.alloc w0 _ = W1 at *
          go_loopw [17] (fun v wr => ∃ q : Nat, v = .int .i64 q ∧ q ≤ i ∧ Row wr w0.heap.size 3 (iv (yR o r i q)) ∧ Below w0.heap.size w0 wr) (fun v _ => i - (intOf v).toNat)
          case atStart => exact ⟨0, rfl, by omega, q1, b1⟩
          case round =>
            clear q1 b1
            obtain ⟨q, rfl, hq, q1, b1⟩ := hrel
            have z1 := HZB.out wr b1
            by_cases hqi : q < i
            · have g3 : decide ((q : Int) < (i : Int)) = true := decide_eq_true (by omega)
              have g3' : decide (q < i) = true := decide_eq_true hqi
              have y1 := HYB.out wr z1
              obtain ⟨n1, hpi⟩ := HNC.out wr q z1 hqi
              have x1 := HCA1.out wr y1
              obtain ⟨x2, hti⟩ := HCA2.out wr q y1 hqi
              have HS1 := Lib.hid (HST.out q)
              generalize (geti r q).toNat = t at *
              obtain ⟨n2, hui⟩ := HNC.out wr t z1 hti
              generalize getn o q = p at *
              generalize getn o t = u at *
              have e1 := ivR q1 (i := p) (by rw [HLN.out]; exact hpi)
              have f1 := q1.free p
              go_wp2
              refine wp_region_quiet_tail 16 (by kernel_rfl) (by kernel_rfl) ?_
              simp only [List.take_succ_cons, List.take_zero, List.drop_succ_cons, List.drop_zero]
              repeat go_big_quiet_step ((fail))
              refine wpQuiet_nil ?_
              rintro _ ⟨nq, rfl⟩
              go_wp2
              go_roundw
              case rel =>
                refine ⟨q + 1, by go_num, by omega, ?_, (b1.trans (below_drewN nq)).setCell (by dsimp only; omega) _⟩
                have h := (q1.drewN nq).set p (.int .i64 (u : Nat))
                rw [iv_set, ← HS1.out] at h
                exact h
              case measure => simp [intOf]; omega
            · obtain rfl : q = i := by omega
              have g3 : decide ((q : Int) < (q : Int)) = false := decide_eq_false (by omega)
              have g3' : decide (q < q) = false := decide_eq_false (by omega)
              have OO := Lib.hid (HO.out.kept' b1)
              have ox := own_of_row (b := w3.heap.size) (n := q) q1 hzs (HLN.out q) (by omega)
              have RX : Hid (RowsOwn wr w3.heap.size (cs ++ [.slice (some ⟨w0.heap.size, 0, none⟩) q q]) (Y.take (b + 1))) := Lib.hid (by rw [HTK.out]; exact (HR.out.below b1).add ox)
              have hz1 := z1.size
              have hnr : Row (wr.alloc (.cells #[.slice (some ⟨w0.heap.size, 0, none⟩) q q] 29)) wr.heap.size 29 [.slice (some ⟨w0.heap.size, 0, none⟩) q q] := row_new rfl
              clear ox HR HO HTK q1
              go_wp2_with ((with_reducible refine (?_ : wpList _ _ _ (Oper.mk (some 110) _ _ _ _ _ :: _) _ _)); refine wpList_append_own_at _ rfl (.tmp 107) (.tmp 109) 22 rfl w3.heap.size 29 k0 (.slice none 0 0) 1 24 Tryd.underlying22 ki kz0 kz1 kz2 rfl (by decide) _ _ _ rfl (OO.out.alloc _) ⟨wr.heap.size, 0, none⟩ 1 1 [.slice (some ⟨w0.heap.size, 0, none⟩) q q] rfl rfl (news_one hnr) (by simp [Value.oneCell']) (by unfold maxLen; omega) (by omega) (by simp; omega) ?_; intro v8 w8 o8 hg8 _ _)
              have b8 := z1.trans (app1' OO.out hz1 hg8)
              go_roundw
              case rel =>
                refine ⟨b + 1, cs ++ [.slice (some ⟨w0.heap.size, 0, none⟩) q q], by omega, by go_num, o8, Lib.hid ?_, b8⟩
                exact (RX.out.below ((Below.refl _ _).alloc (Nat.le_refl _) _)).grown (OO.out.alloc _) (by decide) hg8
              case measure => simp [intOf]; omega
        · obtain ⟨kk, hkk⟩ : ∃ kk, kk = b := ⟨_, rfl⟩
          obtain rfl : b = M.length := by omega
          have g2 : decide ((M.length : Int) < (M.length : Int)) = false := decide_eq_false (by omega)
          have g2' : decide (M.length < M.length) = false := decide_eq_false (by omega)
          have ry := rows_at HR.out u0
          rw [List.take_of_length_le (by rw [HYL.out]; exact Nat.le_refl _)] at ry
          have y1 := HYB.out w0 z0
          have ra := HRA.out w0 y1
          have rb := HRB.out w0 y1
          have b0 := HB0.out w0 y1
          have hw0 := z0.size
          have HNC2 := Lib.hid (fun V q (hV : Below w0.heap.size w0 V) => HNC.out V q (z0.trans (hV.mono hw0)))
          have v0 := Below.refl w0.heap.size w0
          clear HYB HYL HYT HNC HRA HRB HB0 CA u0 HR z0 y1 y0 kk hkk
          rcases hre.out with he | ⟨he, p, hp, hp2, hq2⟩
          · subst he
            have g7 : (RS.toList == RS.toList) = true := beq_self_eq_true _
            have g7' : (RS.toList != RS.toList) = false := bne_self_eq_false _
            have g8 : (W.toList == W.toList) = true := beq_self_eq_true _
            have g8' : (W.toList != W.toList) = false := bne_self_eq_false _
            have g9 : ((rk : Int) != (rk : Int)) = false := bne_self_eq_false _
            clear hre HNC2
            cases s with
            | true =>
              obtain rfl := HS.out rfl
              have g5 : ((rk2 : Int) == (rk2 : Int)) = true := beq_self_eq_true _
              go_wp2_with (first
                | (go_at_call 42; first
                  | ((with_reducible refine (HSY.out _ _ _ _ _ b0 ra ry).mono ?_); rintro e wa ⟨rfl, ba⟩; replace ra := ra.below ba; replace rb := rb.below ba; replace ry := ry.below ba; replace b0 := b0.trans (ba.mono b0.size); replace v0 := v0.trans (ba.mono v0.size))
                  | ((with_reducible refine (HSZ.out _ _ _ _ _ b0 ra rb).mono ?_); rintro e wb ⟨rfl, bb⟩; replace ra := ra.below bb; replace rb := rb.below bb; replace b0 := b0.trans (bb.mono b0.size))
                  | ((with_reducible refine (HZS.out _ _ _ _ _ b0 ra rb).mono ?_); rintro e wc ⟨rfl, bc⟩; replace rb := rb.below bc; replace b0 := b0.trans (bc.mono b0.size)))
                | (go_at_call 17; first
                  | ((with_reducible refine (HRX.out _ _ _ b0 ra).mono ?_); rintro e wd ⟨rfl, bd⟩; replace ra := ra.below bd; replace rb := rb.below bd; replace ry := ry.below bd; replace b0 := b0.trans (bd.mono b0.size); replace v0 := v0.trans (bd.mono v0.size))
                  | ((with_reducible refine (HRY.out _ _ _ b0 ry).mono ?_); rintro e we ⟨rfl, be⟩; replace ra := ra.below be; replace rb := rb.below be; replace ry := ry.below be; replace b0 := b0.trans (be.mono b0.size); replace v0 := v0.trans (be.mono v0.size)))
                | (go_at_call 18; first
                  | ((with_reducible refine (HKX.out _ _ _ b0 ra).mono ?_); rintro e wf ⟨rfl, bf⟩; replace ra := ra.below bf; replace rb := rb.below bf; replace ry := ry.below bf; replace b0 := b0.trans (bf.mono b0.size); replace v0 := v0.trans (bf.mono v0.size))
                  | ((with_reducible refine (HKY.out _ _ _ b0 ry).mono ?_); rintro e wg ⟨rfl, bg⟩; replace ra := ra.below bg; replace rb := rb.below bg; replace b0 := b0.trans (bg.mono b0.size); replace v0 := v0.trans (bg.mono v0.size))
                  | ((with_reducible refine (HKZ.out _ _ _ b0 rb).mono ?_); rintro e wh ⟨rfl, bh⟩; replace b0 := b0.trans (bh.mono b0.size)))
                | (go_at_call 22; (with_reducible refine (HAW.out _ b0).mono ?_); rintro e wi ⟨rfl, bi⟩; replace b0 := b0.trans (bi.mono b0.size)))
              go_ret
              exact ⟨rfl, b0⟩
            | false =>
              go_wp2_with (first
                | (go_at_call 42; first
                  | ((with_reducible refine (HSY.out _ _ _ _ _ b0 ra ry).mono ?_); rintro e wa ⟨rfl, ba⟩; replace ra := ra.below ba; replace rb := rb.below ba; replace ry := ry.below ba; replace b0 := b0.trans (ba.mono b0.size); replace v0 := v0.trans (ba.mono v0.size))
                  | ((with_reducible refine (HSZ.out _ _ _ _ _ b0 ra rb).mono ?_); rintro e wb ⟨rfl, bb⟩; replace ra := ra.below bb; replace rb := rb.below bb; replace b0 := b0.trans (bb.mono b0.size))
                  | ((with_reducible refine (HZS.out _ _ _ _ _ b0 ra rb).mono ?_); rintro e wc ⟨rfl, bc⟩; replace rb := rb.below bc; replace b0 := b0.trans (bc.mono b0.size)))
                | (go_at_call 17; first
                  | ((with_reducible refine (HRX.out _ _ _ b0 ra).mono ?_); rintro e wd ⟨rfl, bd⟩; replace ra := ra.below bd; replace rb := rb.below bd; replace ry := ry.below bd; replace b0 := b0.trans (bd.mono b0.size); replace v0 := v0.trans (bd.mono v0.size))
                  | ((with_reducible refine (HRY.out _ _ _ b0 ry).mono ?_); rintro e we ⟨rfl, be⟩; replace ra := ra.below be; replace rb := rb.below be; replace ry := ry.below be; replace b0 := b0.trans (be.mono b0.size); replace v0 := v0.trans (be.mono v0.size)))
                | (go_at_call 18; first
                  | ((with_reducible refine (HKX.out _ _ _ b0 ra).mono ?_); rintro e wf ⟨rfl, bf⟩; replace ra := ra.below bf; replace rb := rb.below bf; replace ry := ry.below bf; replace b0 := b0.trans (bf.mono b0.size); replace v0 := v0.trans (bf.mono v0.size))
                  | ((with_reducible refine (HKY.out _ _ _ b0 ry).mono ?_); rintro e wg ⟨rfl, bg⟩; replace ra := ra.below bg; replace rb := rb.below bg; replace b0 := b0.trans (bg.mono b0.size); replace v0 := v0.trans (bg.mono v0.size))
                  | ((with_reducible refine (HKZ.out _ _ _ b0 rb).mono ?_); rintro e wh ⟨rfl, bh⟩; replace b0 := b0.trans (bh.mono b0.size)))
                | (go_at_call 22; (with_reducible refine (HAW.out _ b0).mono ?_); rintro e wi ⟨rfl, bi⟩; replace b0 := b0.trans (bi.mono b0.size)))
              go_ret
              exact ⟨rfl, b0⟩
          · subst he hp2 hq2
            obtain ⟨np, hpi⟩ := HNC2.out w0 p v0 hp
            have HNP := Lib.hid (fun V (hV : Below w0.heap.size w0 V) => (HNC2.out V p hV hp).1)
            have g10 : decide ((p : Int) < 0) = false := decide_eq_false (by omega)
            have g11 : decide ((i : Int) ≤ (p : Int)) = false := decide_eq_false (by omega)
            have g11' : decide (i ≤ p) = false := decide_eq_false (by omega)
            generalize getn o p = pp at *
            have g12 : ((pp : Int) != (pp : Int)) = false := bne_self_eq_false _
            have g7 : (RS.toList == RS.toList) = true := beq_self_eq_true _
            have g7' : (RS.toList != RS.toList) = false := bne_self_eq_false _
            have g8 : (W.toList == W.toList) = true := beq_self_eq_true _
            have g8' : (W.toList != W.toList) = false := bne_self_eq_false _
            have g9 : ((rk : Int) != (rk : Int)) = false := bne_self_eq_false _
            clear hre HNC2
            cases s with
            | true =>
              obtain rfl := HS.out rfl
              have g5 : ((rk2 : Int) == (rk2 : Int)) = true := beq_self_eq_true _
              go_wp2_with (first
                | (go_at_call 42; first
                  | ((with_reducible refine (HSY.out _ _ _ _ _ b0 ra ry).mono ?_); rintro e wa ⟨rfl, ba⟩; replace ra := ra.below ba; replace rb := rb.below ba; replace ry := ry.below ba; replace b0 := b0.trans (ba.mono b0.size); replace v0 := v0.trans (ba.mono v0.size))
                  | ((with_reducible refine (HSZ.out _ _ _ _ _ b0 ra rb).mono ?_); rintro e wb ⟨rfl, bb⟩; replace ra := ra.below bb; replace rb := rb.below bb; replace b0 := b0.trans (bb.mono b0.size))
                  | ((with_reducible refine (HZS.out _ _ _ _ _ b0 ra rb).mono ?_); rintro e wc ⟨rfl, bc⟩; replace rb := rb.below bc; replace b0 := b0.trans (bc.mono b0.size)))
                | (go_at_call 17; first
                  | ((with_reducible refine (HRX.out _ _ _ b0 ra).mono ?_); rintro e wd ⟨rfl, bd⟩; replace ra := ra.below bd; replace rb := rb.below bd; replace ry := ry.below bd; replace b0 := b0.trans (bd.mono b0.size); replace v0 := v0.trans (bd.mono v0.size))
                  | ((with_reducible refine (HRY.out _ _ _ b0 ry).mono ?_); rintro e we ⟨rfl, be⟩; replace ra := ra.below be; replace rb := rb.below be; replace ry := ry.below be; replace b0 := b0.trans (be.mono b0.size); replace v0 := v0.trans (be.mono v0.size)))
                | (go_at_call 18; first
                  | ((with_reducible refine (HKX.out _ _ _ b0 ra).mono ?_); rintro e wf ⟨rfl, bf⟩; replace ra := ra.below bf; replace rb := rb.below bf; replace ry := ry.below bf; replace b0 := b0.trans (bf.mono b0.size); replace v0 := v0.trans (bf.mono v0.size))
                  | ((with_reducible refine (HKY.out _ _ _ b0 ry).mono ?_); rintro e wg ⟨rfl, bg⟩; replace ra := ra.below bg; replace rb := rb.below bg; replace b0 := b0.trans (bg.mono b0.size); replace v0 := v0.trans (bg.mono v0.size); have np2 := HNP.out _ v0)
                  | ((with_reducible refine (HKZ.out _ _ _ b0 rb).mono ?_); rintro e wh ⟨rfl, bh⟩; replace b0 := b0.trans (bh.mono b0.size)))
                | (go_at_call 22; (with_reducible refine (HAW.out _ b0).mono ?_); rintro e wi ⟨rfl, bi⟩; replace b0 := b0.trans (bi.mono b0.size)))
              go_ret
              exact ⟨rfl, b0⟩
            | false =>
              go_wp2_with (first
                | (go_at_call 42; first
                  | ((with_reducible refine (HSY.out _ _ _ _ _ b0 ra ry).mono ?_); rintro e wa ⟨rfl, ba⟩; replace ra := ra.below ba; replace rb := rb.below ba; replace ry := ry.below ba; replace b0 := b0.trans (ba.mono b0.size); replace v0 := v0.trans (ba.mono v0.size))
                  | ((with_reducible refine (HSZ.out _ _ _ _ _ b0 ra rb).mono ?_); rintro e wb ⟨rfl, bb⟩; replace ra := ra.below bb; replace rb := rb.below bb; replace b0 := b0.trans (bb.mono b0.size))
                  | ((with_reducible refine (HZS.out _ _ _ _ _ b0 ra rb).mono ?_); rintro e wc ⟨rfl, bc⟩; replace rb := rb.below bc; replace b0 := b0.trans (bc.mono b0.size)))
                | (go_at_call 17; first
                  | ((with_reducible refine (HRX.out _ _ _ b0 ra).mono ?_); rintro e wd ⟨rfl, bd⟩; replace ra := ra.below bd; replace rb := rb.below bd; replace ry := ry.below bd; replace b0 := b0.trans (bd.mono b0.size); replace v0 := v0.trans (bd.mono v0.size))
                  | ((with_reducible refine (HRY.out _ _ _ b0 ry).mono ?_); rintro e we ⟨rfl, be⟩; replace ra := ra.below be; replace rb := rb.below be; replace ry := ry.below be; replace b0 := b0.trans (be.mono b0.size); replace v0 := v0.trans (be.mono v0.size)))
                | (go_at_call 18; first
                  | ((with_reducible refine (HKX.out _ _ _ b0 ra).mono ?_); rintro e wf ⟨rfl, bf⟩; replace ra := ra.below bf; replace rb := rb.below bf; replace ry := ry.below bf; replace b0 := b0.trans (bf.mono b0.size); replace v0 := v0.trans (bf.mono v0.size))
                  | ((with_reducible refine (HKY.out _ _ _ b0 ry).mono ?_); rintro e wg ⟨rfl, bg⟩; replace ra := ra.below bg; replace rb := rb.below bg; replace b0 := b0.trans (bg.mono b0.size); replace v0 := v0.trans (bg.mono v0.size); have np2 := HNP.out _ v0)
                  | ((with_reducible refine (HKZ.out _ _ _ b0 rb).mono ?_); rintro e wh ⟨rfl, bh⟩; replace b0 := b0.trans (bh.mono b0.size)))
                | (go_at_call 22; (with_reducible refine (HAW.out _ b0).mono ?_); rintro e wi ⟨rfl, bi⟩; replace b0 := b0.trans (bi.mono b0.size)))
              go_ret
              exact ⟨rfl, b0⟩
end Go.Proofs.YtignbpipdfjkeaaDoor
