/- The reference's count and first word. -/
import Derived.Test.YtoklnpiehbnalaaBF
import Derived.Test.YtoklnpiehbnalaaAT
namespace Go.Proofs.Ytoklnpiehbnalaa
open Go.RowKit Go.PlainAid
set_option maxHeartbeats 2000000
set_option maxRecDepth 100000
theorem refEnds_any (x : List Nat) (w : World) (hx : okW x) (hl : x.length ≤ 100000) :
    Calls Try.prog 66 #[.string (wS x)] w fun e w' => e = .returned (.bool (endS x)) ∧ ∃ n, w' = w.drewN n := by
  have HR : Hid (∀ p, 1 ≤ p → 2 * p ≤ x.length → (((wS x).extract (x.length - p) x.length).toList == ((wS x).extract (x.length - 2 * p) (x.length - p)).toList) = decide (sub x (x.length - 2 * p) p = sub x (x.length - p) p)) := Lib.hid (fun p h1 h2 => by
    rw [wS_extract, wS_extract, wS_beq (okW_sub hx _ _) (okW_sub hx _ _), show x.length - (x.length - p) = p by omega, show x.length - p - (x.length - 2 * p) = p by omega]
    by_cases h : sub x (x.length - p) p = sub x (x.length - 2 * p) p
    · rw [decide_eq_true h, decide_eq_true h.symm]
    · rw [decide_eq_false h, decide_eq_false (fun e => h e.symm)])
  have HY : Hid (∀ p, 1 ≤ p → 2 * p ≤ x.length → sub x (x.length - 2 * p) p = sub x (x.length - p) p → endS x = true) := Lib.hid (fun p h1 h2 h3 => (endS_iff x).2 ⟨p, h1, h2, h3⟩)
  have HN : Hid ((∀ q, 1 ≤ q → 2 * q ≤ x.length → sub x (x.length - 2 * q) q ≠ sub x (x.length - q) q) → endS x = false) := Lib.hid (fun h => by
    rw [Bool.eq_false_iff]
    intro h1
    obtain ⟨p, h2, h3, h4⟩ := (endS_iff x).1 h1
    exact h p h2 h3 h4)
  have H0 : Hid (∀ q, 1 ≤ q → q < 1 → sub x (x.length - 2 * q) q ≠ sub x (x.length - q) q) := Lib.hid (fun q h1 h2 => absurd h2 (by omega))
  have hz := wS_len x
  obtain ⟨N, hN⟩ : ∃ N, x.length = N := ⟨_, rfl⟩
  rw [hN] at HR HY HN H0 hz hl
  generalize wS x = s at *
  subst hz
  clear hN hx
  go_enter Try.func66, Try.ntmps66
  go_wp2
  go_loopw [4] (fun i wr => ∃ p n : Nat, i = .int .i64 p ∧ 1 ≤ p ∧ 2 * p ≤ s.size + 2 ∧ wr = w.drewN n ∧ Hid (∀ q, 1 ≤ q → q < p → sub x (s.size - 2 * q) q ≠ sub x (s.size - q) q)) (fun i _ => s.size + 2 - (intOf i).toNat)
  case atStart => exact ⟨1, 0, rfl, by omega, by omega, rfl, H0⟩
  case round =>
    clear H0
    obtain ⟨p, n, rfl, hp1, hp2, rfl, HQ⟩ := hrel
    by_cases hlt : 2 * p ≤ s.size
    · have g1 : decide (2 * (p : Int) ≤ (s.size : Int)) = true := decide_eq_true (by omega)
      have HR1 := Lib.hid (HR.out p hp1 hlt)
      have hpp : p ≤ s.size := by omega
      have hp3 : s.size - 2 * p ≤ s.size - p := by omega
      by_cases hs : sub x (s.size - 2 * p) p = sub x (s.size - p) p
      · have HY1 := Lib.hid (HY.out p hp1 hlt hs)
        rw [decide_eq_true hs] at HR1
        clear hs HQ HR HY HN
        have hr1 := HR1.out
        go_wp2
        go_quiet (fail)
        go_wp2
        go_ret
        exact ⟨ret_bool HY1.out.symm, _, (by first | rfl | exact World.drewN_drewN _ _ _)⟩
      · have HQ2 : Hid (∀ q, 1 ≤ q → q < p + 1 → sub x (s.size - 2 * q) q ≠ sub x (s.size - q) q) := Lib.hid (fun q h1 h2 => by
          rcases Nat.lt_or_ge q p with h | h
          · exact HQ.out q h1 h
          · rw [show q = p by omega]; exact hs)
        rw [decide_eq_false hs] at HR1
        clear hs HQ HR HY HN
        have hr1 := HR1.out
        go_wp2
        go_quiet (fail)
        go_wp2
        go_roundw
        case rel => exact ⟨p + 1, n + nq, by go_num, by omega, by omega, (by first | rfl | exact World.drewN_drewN _ _ _), HQ2⟩
        case measure => simp [intOf]; omega
    · have g1 : decide (2 * (p : Int) ≤ (s.size : Int)) = false := decide_eq_false (by omega)
      have HF := Lib.hid (HN.out (fun q h1 h2 => HQ.out q h1 (by omega)))
      clear HQ HR HY HN
      go_wp2
      go_ret
      exact ⟨ret_bool HF.out.symm, _, rfl⟩
theorem refCount_any (n k : Nat) (hn : n ≤ 16) (hk : k ≤ 3) : ∀ (r : Nat) (x : List Nat) (w : World), x.length + r = n → letW k x →
    Calls Try.prog 37 #[.string (wS x), .int .i64 n, .int .i64 k] w fun e w' => e = .returned (.int .i64 ((exts k r x).length : Nat)) ∧ Below w.heap.size w w' := by
  intro r
  induction r with
  | zero =>
    intro x w hl hx
    have g1 : (((wS x).size : Int) == (n : Int)) = true := by rw [beq_iff_eq, wS_len]; omega
    have HE : Hid ((exts k 0 x).length = 1) := Lib.hid rfl
    generalize (exts k 0 x).length = R at *
    generalize wS x = s at *
    clear hx hl
    go_enter Try.func37, Try.ntmps37
    go_wp2
    go_ret
    exact ⟨by rw [HE.out]; rfl, Below.refl _ _⟩
  | succ r ih =>
    intro x w hl hx
    have g1 : (((wS x).size : Int) == (n : Int)) = false := by rw [beq_eq_false_iff_ne, wS_len]; omega
    have HAD : Hid (∀ c, c < k → ∀ w, (Op.stringOp .add (wS x) (wS [c])).run Try.prog w = .ok (.string (wS (x ++ [c]))) w) := Lib.hid (fun c hc w => by
      rw [← wS_app]
      exact run_string_add_sum w _ _ (by rw [wS_len, wS_len]; simp; omega))
    have HES := Lib.hid (fun c V (hc : c < k) => refEnds_any (x ++ [c]) V (letW_ok (by omega) (letW_snoc hx hc)) (by simp; omega))
    have HIH := Lib.hid (fun c V (hc : c < k) => ih (x ++ [c]) V (by simp; omega) (letW_snoc hx hc))
    have HNO := Lib.hid (fun c h => @extsTo_no k r c x h)
    have HYES := Lib.hid (fun c h => @extsTo_yes k r c x h)
    have HXS : Hid ((exts k (r + 1) x).length = (extsTo k r x k).length) := Lib.hid rfl
    have HBD : Hid (∀ c, c ≤ k → (extsTo k r x c).length ≤ 50000000) := Lib.hid (fun c hc => by
      have h1 := (extsTo_pre k r x hc).length_le
      have h2 := exts_len k (r + 1) x
      have h3 : k ^ (r + 1) ≤ 3 ^ (r + 1) := Nat.pow_le_pow_left hk _
      have h4 : 3 ^ (r + 1) ≤ 3 ^ 16 := Nat.pow_le_pow_right (by decide) (by omega)
      have h5 : 3 ^ 16 = 43046721 := by decide
      have h6 : (exts k (r + 1) x).length = (extsTo k r x k).length := rfl
      omega)
    have HBE : Hid (∀ c, (exts k r (x ++ [c])).length ≤ 50000000) := Lib.hid (fun c => by
      have h2 := exts_len k r (x ++ [c])
      have h3 : k ^ r ≤ 3 ^ r := Nat.pow_le_pow_left hk _
      have h4 : 3 ^ r ≤ 3 ^ 16 := Nat.pow_le_pow_right (by decide) (by omega)
      have h5 : 3 ^ 16 = 43046721 := by decide
      omega)
    have HZ : Hid ((extsTo k r x 0).length = 0) := Lib.hid rfl
    have hsz : (wS x).size ≤ 2000 := by rw [wS_len]; omega
    have b0 := Below.refl w.heap.size w
    generalize (exts k (r + 1) x).length = R at *
    generalize hs : wS x = s at *
    clear hs hx hl ih
    go_enter Try.func37, Try.ntmps37
    go_wp2
    go_loopw [7, 8] (fun u i wr => ∃ c : Nat, i = .int .i64 c ∧ c ≤ k ∧ u = .int .i64 ((extsTo k r x c).length : Nat) ∧ Below w.heap.size w wr) (fun _ i _ => k - (intOf i).toNat)
    case atStart => exact ⟨0, rfl, by omega, by rw [HZ.out]; rfl, b0⟩
    case round =>
      clear b0
      obtain ⟨c, rfl, hc, rfl, b0⟩ := hrel
      by_cases hlt : c < k
      · have g1 : decide (c < k) = true := decide_eq_true hlt
        have hadd := HAD.out c hlt
        have HES1 := Lib.hid (fun V => HES.out c V hlt)
        have HIH1 := Lib.hid (fun V => HIH.out c V hlt)
        have HNO1 := Lib.hid (HNO.out c)
        have HYES1 := Lib.hid (HYES.out c)
        have hbd := HBD.out c hc
        have hbe := HBE.out c
        have hw1 : IntKind.u8.wrap (97 + (c : Int)) = 97 + c := by simp [IntKind.wrap, IntKind.bits, IntKind.signed]; omega
        have hw2 : (97 + (c : Int)) % 256 = 97 + c := by omega
        have hcv : (convert 71 9 (.slice (some ⟨wr.heap.size, 0, none⟩) 1 1)).run Try.prog (wr.alloc (.cells #[.int .u8 (97 + (c : Int))] 5)) = .ok (.string (wS [c])) (wr.alloc (.cells #[.int .u8 (97 + (c : Int))] 5)) := conv_one (row_new rfl)
        have b1 := b0.alloc b0.size (.cells #[.int .u8 (97 + (c : Int))] 5)
        generalize wS (x ++ [c]) = u at *
        generalize wS [c] = t at *
        clear HAD HES HIH HNO HYES HXS HBD HBE HZ
        cases hb : endS (x ++ [c])
        · have HX : Hid ((extsTo k r x (c + 1)).length = (extsTo k r x c).length + (exts k r (x ++ [c])).length) := Lib.hid (by rw [HYES1.out hb, List.length_append])
          rw [hb] at HES1
          clear hb HNO1 HYES1
          generalize (exts k r (x ++ [c])).length = N2 at *
          obtain ⟨N1, hN1⟩ : ∃ N1, (extsTo k r x c).length = N1 := ⟨_, rfl⟩
          rw [hN1] at hbd HX ⊢
          clear hN1
          go_wp2_with (first
            | (go_at_call 66; (with_reducible refine (HES1.out _).mono ?_); rintro e w3 ⟨rfl, m, rfl⟩; replace b1 := b1.trans (below_drewN m); generalize World.drewN _ m = w4 at *)
            | (go_at_call 37; (with_reducible refine (HIH1.out _).mono ?_); rintro e w5 ⟨rfl, b5⟩; replace b1 := b1.trans (b5.mono b1.size)))
          go_roundw
          case rel => exact ⟨c + 1, by go_num, by omega, by rw [HX.out]; go_num, b1⟩
          case measure => simp [intOf]; omega
        · have HX := Lib.hid (HNO1.out hb)
          rw [hb] at HES1
          clear hb HNO1 HYES1
          go_wp2_with (go_at_call 66; (with_reducible refine (HES1.out _).mono ?_); rintro e w3 ⟨rfl, m, rfl⟩; replace b1 := b1.trans (below_drewN m))
          go_roundw
          case rel => exact ⟨c + 1, by go_num, by omega, by rw [HX.out], b1⟩
          case measure => simp [intOf]; omega
      · obtain rfl : c = k := by omega
        have g1 : decide (c < c) = false := decide_eq_false (by omega)
        clear HAD HES HIH HNO HYES HBD HBE HZ
        go_wp2
        go_ret
        exact ⟨by rw [HXS.out]; rfl, b0⟩
/-- What the reference's First hands back. -/
def fiRV (o : Option (List Nat)) : Value := match o with
  | some x => .tuple #[.string (wS x), .bool true]
  | none => .tuple #[.string ⟨#[]⟩, .bool false]
theorem refFirst_any (n k : Nat) (hn : n ≤ 60) (hk : k ≤ 4) : ∀ (r : Nat) (x : List Nat) (w : World), x.length + r = n → letW k x →
    Calls Try.prog 38 #[.string (wS x), .int .i64 n, .int .i64 k] w fun e w' => e = .returned (fiRV (exts k r x).head?) ∧ Below w.heap.size w w' := by
  intro r
  induction r with
  | zero =>
    intro x w hl hx
    have g1 : (((wS x).size : Int) == (n : Int)) = true := by rw [beq_iff_eq, wS_len]; omega
    have HE : Hid (fiRV (exts k 0 x).head? = .tuple #[.string (wS x), .bool true]) := Lib.hid rfl
    generalize fiRV (exts k 0 x).head? = R at *
    generalize wS x = s at *
    clear hx hl
    go_enter Try.func38, Try.ntmps38
    go_wp2
    exact bodyPost_ret (v := .tuple #[.string s, .bool true]) (by simp [results, Try.results38, go_sem]) rfl ⟨by rw [HE.out], Below.refl _ _⟩
  | succ r ih =>
    intro x w hl hx
    have g1 : (((wS x).size : Int) == (n : Int)) = false := by rw [beq_eq_false_iff_ne, wS_len]; omega
    have HAD : Hid (∀ c, c < k → ∀ w, (Op.stringOp .add (wS x) (wS [c])).run Try.prog w = .ok (.string (wS (x ++ [c]))) w) := Lib.hid (fun c hc w => by
      rw [← wS_app]
      exact run_string_add_sum w _ _ (by rw [wS_len, wS_len]; simp; omega))
    have HES := Lib.hid (fun c V (hc : c < k) => refEnds_any (x ++ [c]) V (letW_ok (by omega) (letW_snoc hx hc)) (by simp; omega))
    have HIH := Lib.hid (fun c V (hc : c < k) => ih (x ++ [c]) V (by simp; omega) (letW_snoc hx hc))
    have HNO : Hid (∀ c, extsTo k r x c = [] → endS (x ++ [c]) = true → extsTo k r x (c + 1) = []) := Lib.hid (fun c h1 h2 => by rw [extsTo_no h2, h1])
    have HNX : Hid (∀ c, extsTo k r x c = [] → endS (x ++ [c]) = false → (exts k r (x ++ [c])).head? = none → extsTo k r x (c + 1) = []) := Lib.hid (fun c h1 h2 h3 => by
      rw [extsTo_yes h2, h1, List.nil_append]
      cases hh : exts k r (x ++ [c]) with
      | nil => rfl
      | cons a b => rw [hh] at h3; cases h3)
    have HHIT : Hid (∀ c y, c < k → extsTo k r x c = [] → endS (x ++ [c]) = false → (exts k r (x ++ [c])).head? = some y → fiRV (exts k (r + 1) x).head? = .tuple #[.string (wS y), .bool true]) := Lib.hid (fun c y hc h1 h2 h3 => by
      obtain ⟨t, ht⟩ := extsTo_pre k r x (i := c + 1) (j := k) (by omega)
      have e : exts k (r + 1) x = extsTo k r x k := rfl
      rw [e, ← ht, extsTo_yes h2, h1, List.nil_append, List.head?_append, h3]
      rfl)
    have HEND : Hid (extsTo k r x k = [] → fiRV (exts k (r + 1) x).head? = .tuple #[.string ⟨#[]⟩, .bool false]) := Lib.hid (fun h => by
      have e : exts k (r + 1) x = extsTo k r x k := rfl
      rw [e, h]; rfl)
    have HZ : Hid (extsTo k r x 0 = []) := Lib.hid rfl
    have hsz : (wS x).size ≤ 2000 := by rw [wS_len]; omega
    have b0 := Below.refl w.heap.size w
    generalize fiRV (exts k (r + 1) x).head? = R at *
    generalize hs : wS x = s at *
    clear hs hx hl ih
    go_enter Try.func38, Try.ntmps38
    go_wp2
    go_loopw [8] (fun i wr => ∃ c : Nat, i = .int .i64 c ∧ c ≤ k ∧ Below w.heap.size w wr ∧ Hid (extsTo k r x c = [])) (fun i _ => k - (intOf i).toNat)
    case atStart => exact ⟨0, rfl, by omega, b0, HZ⟩
    case round =>
      clear b0 HZ
      obtain ⟨c, rfl, hc, b0, HQ⟩ := hrel
      by_cases hlt : c < k
      · have g1 : decide (c < k) = true := decide_eq_true hlt
        have hadd := HAD.out c hlt
        have HES1 := Lib.hid (fun V => HES.out c V hlt)
        have HIH1 := Lib.hid (fun V => HIH.out c V hlt)
        have HNO1 := Lib.hid (HNO.out c HQ.out)
        have HNX1 := Lib.hid (HNX.out c HQ.out)
        have HH1 := Lib.hid (fun y => HHIT.out c y hlt HQ.out)
        have hw1 : IntKind.u8.wrap (97 + (c : Int)) = 97 + c := by simp [IntKind.wrap, IntKind.bits, IntKind.signed]; omega
        have hw2 : (97 + (c : Int)) % 256 = 97 + c := by omega
        have hcv : (convert 71 9 (.slice (some ⟨wr.heap.size, 0, none⟩) 1 1)).run Try.prog (wr.alloc (.cells #[.int .u8 (97 + (c : Int))] 5)) = .ok (.string (wS [c])) (wr.alloc (.cells #[.int .u8 (97 + (c : Int))] 5)) := conv_one (row_new rfl)
        have b1 := b0.alloc b0.size (.cells #[.int .u8 (97 + (c : Int))] 5)
        generalize wS (x ++ [c]) = u at *
        generalize wS [c] = t at *
        clear HAD HES HIH HNO HNX HHIT HEND HQ
        cases hb : endS (x ++ [c])
        · rw [hb] at HES1
          cases hh : (exts k r (x ++ [c])).head? with
          | none =>
            rw [hh] at HIH1
            have HF : Hid (fiRV none = .tuple #[.string ⟨#[]⟩, .bool false]) := Lib.hid rfl
            rw [HF.out] at HIH1
            have HX := Lib.hid (HNX1.out hb hh)
            clear hb hh HNO1 HNX1 HH1
            go_wp2_with (first
              | (go_at_call 66; (with_reducible refine (HES1.out _).mono ?_); rintro e w3 ⟨rfl, m, rfl⟩; replace b1 := b1.trans (below_drewN m); generalize World.drewN _ m = w4 at *)
              | (go_at_call 38; (with_reducible refine (HIH1.out _).mono ?_); rintro e w5 ⟨rfl, b5⟩; replace b1 := b1.trans (b5.mono b1.size)))
            go_roundw
            case rel => exact ⟨c + 1, by go_num, by omega, b1, HX⟩
            case measure => simp [intOf]; omega
          | some y =>
            rw [hh] at HIH1
            have HF : Hid (fiRV (some y) = .tuple #[.string (wS y), .bool true]) := Lib.hid rfl
            rw [HF.out] at HIH1
            have HR := Lib.hid (HH1.out y hb hh)
            clear hb hh HNO1 HNX1 HH1 HF
            generalize wS y = v at *
            go_wp2_with (first
              | (go_at_call 66; (with_reducible refine (HES1.out _).mono ?_); rintro e w3 ⟨rfl, m, rfl⟩; replace b1 := b1.trans (below_drewN m); generalize World.drewN _ m = w4 at *)
              | (go_at_call 38; (with_reducible refine (HIH1.out _).mono ?_); rintro e w5 ⟨rfl, b5⟩; replace b1 := b1.trans (b5.mono b1.size)))
            exact bodyPost_ret (v := .tuple #[.string v, .bool true]) (by simp [results, Try.results38, go_sem]) rfl ⟨by rw [HR.out], b1⟩
        · have HX := Lib.hid (HNO1.out hb)
          rw [hb] at HES1
          clear hb HNO1 HNX1 HH1
          go_wp2_with (go_at_call 66; (with_reducible refine (HES1.out _).mono ?_); rintro e w3 ⟨rfl, m, rfl⟩; replace b1 := b1.trans (below_drewN m))
          go_roundw
          case rel => exact ⟨c + 1, by go_num, by omega, b1, HX⟩
          case measure => simp [intOf]; omega
      · obtain rfl : c = k := by omega
        have g1 : decide (c < c) = false := decide_eq_false (by omega)
        have HR := Lib.hid (HEND.out HQ.out)
        clear HAD HES HIH HNO HNX HHIT HEND HQ
        go_wp2
        exact bodyPost_ret (v := .tuple #[.string ⟨#[]⟩, .bool false]) (by simp [results, Try.results38, go_sem]) rfl ⟨by rw [HR.out], b0⟩
end Go.Proofs.Ytoklnpiehbnalaa
