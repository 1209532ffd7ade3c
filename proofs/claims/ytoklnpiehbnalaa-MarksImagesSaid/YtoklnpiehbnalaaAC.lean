/- Periods; squares at the end; square-free words. -/
import Derived.Test.YtoklnpiehbnalaaAB
namespace Go.Proofs.Ytoklnpiehbnalaa
open Go.RowKit Go.PlainAid
set_option maxHeartbeats 1000000
set_option maxRecDepth 100000
/-- p is a period of the word. -/
def perP (x : List Nat) (p : Nat) : Bool := decide (sub x p (x.length - p) = sub x 0 (x.length - p))
theorem hasPeriod_any (x : List Nat) (p : Nat) (w : World) (hx : okW x) (hp : p ≤ x.length) (hl : x.length ≤ 100000) :
    Calls Try.prog 59 #[.string (wS x), .int .i64 p] w fun e w' => e = .returned (.bool (perP x p)) ∧ ∃ n, w' = w.drewN n := by
  have HR : Hid ((((wS x).extract p x.length).toList == ((wS x).extract 0 (x.length - p)).toList) = perP x p) := Lib.hid (by
    rw [wS_extract, wS_extract, wS_beq (okW_sub hx _ _) (okW_sub hx _ _)]; rfl)
  have hz := wS_len x
  generalize wS x = s at *
  rw [← hz] at HR hp hl
  clear hz hx
  go_enter Try.func59, Try.ntmps59
  go_wp2
  go_quiet (fail)
  go_wp2
  go_ret
  exact ⟨ret_bool HR.out, _, rfl⟩
/-- The first period from p on. -/
def firstPer (x : List Nat) : Nat → Nat → Nat
  | 0, p => p
  | f + 1, p => if perP x p then p else firstPer x f (p + 1)
theorem per_len (x : List Nat) : perP x x.length = true := by
  unfold perP; simp [sub]
theorem firstPer_le (x : List Nat) : ∀ f p, p + f = x.length → p ≤ firstPer x f p ∧ firstPer x f p ≤ x.length ∧ perP x (firstPer x f p) = true
  | 0, p, h => by
    obtain rfl : p = x.length := by omega
    exact ⟨Nat.le_refl _, Nat.le_refl _, per_len x⟩
  | f + 1, p, h => by
    unfold firstPer
    split
    · rename_i h1; exact ⟨Nat.le_refl _, by omega, h1⟩
    · have := firstPer_le x f (p + 1) (by omega)
      exact ⟨by omega, this.2⟩
theorem firstPer_eq (x : List Nat) : ∀ f p q, p + f = x.length → p ≤ q → q ≤ x.length → (∀ r, p ≤ r → r < q → perP x r = false) → perP x q = true → firstPer x f p = q
  | 0, p, q, h, h1, h2, _, _ => by unfold firstPer; omega
  | f + 1, p, q, h, h1, h2, h3, h4 => by
    unfold firstPer
    rcases Nat.lt_or_ge p q with hlt | hge
    · rw [if_neg (by rw [h3 p (Nat.le_refl _) hlt]; exact Bool.false_ne_true)]
      exact firstPer_eq x f (p + 1) q (by omega) (by omega) h2 (fun r hr => h3 r (by omega)) h4
    · obtain rfl : p = q := by omega
      rw [if_pos h4]
/-- The smallest period of a word from p on. -/
def mper (x : List Nat) (p : Nat) : Nat := firstPer x (x.length - p) p
theorem mper_eq {x : List Nat} {p q : Nat} (h1 : p ≤ q) (h2 : q ≤ x.length) (h3 : ∀ r, p ≤ r → r < q → perP x r = false) (h4 : perP x q = true) : mper x p = q :=
  firstPer_eq x _ p q (by omega) h1 h2 h3 h4
theorem mper_le {x : List Nat} {p : Nat} (h : p ≤ x.length) : p ≤ mper x p ∧ mper x p ≤ x.length ∧ perP x (mper x p) = true := firstPer_le x _ p (by omega)
theorem smallestPeriod_any (x : List Nat) (p : Nat) (w : World) (hx : okW x) (hp : p ≤ x.length) (hl : x.length ≤ 100000) :
    Calls Try.prog 62 #[.string (wS x), .int .i64 p] w fun e w' => e = .returned (.int .i64 (mper x p : Nat)) ∧ ∃ n, w' = w.drewN n := by
  have HP := Lib.hid (fun (q : Nat) (V : World) (h : q ≤ x.length) => hasPeriod_any x q V hx h hl)
  have HE := Lib.hid (fun q h1 h2 h3 h4 => @mper_eq x p q h1 h2 h3 h4)
  have HL := Lib.hid (per_len x)
  have H0 : Hid (∀ r, p ≤ r → r < p → perP x r = false) := Lib.hid (fun r h1 h2 => absurd h2 (by omega))
  go_enter Try.func62, Try.ntmps62
  go_wp2
  go_loopw [1] (fun i wr => ∃ q n : Nat, i = .int .i64 q ∧ p ≤ q ∧ q ≤ x.length ∧ wr = w.drewN n ∧ Hid (∀ r, p ≤ r → r < q → perP x r = false)) (fun i _ => x.length - (intOf i).toNat)
  case atStart => exact ⟨p, 0, rfl, by omega, by omega, rfl, H0⟩
  case round =>
    clear H0
    obtain ⟨q, n, rfl, hpq, hq, rfl, HQ⟩ := hrel
    cases hb : perP x q
    · have hlt : q < x.length := by
        rcases Nat.lt_or_ge q x.length with h | h
        · exact h
        · obtain rfl : q = x.length := by omega
          rw [HL.out] at hb; cases hb
      have HQ2 : Hid (∀ r, p ≤ r → r < q + 1 → perP x r = false) := Lib.hid (fun r h1 h2 => by
        rcases Nat.lt_or_ge r q with h | h
        · exact HQ.out r h1 h
        · rw [show r = q by omega]; exact hb)
      have HC := Lib.hid (fun V => HP.out q V hq)
      rw [hb] at HC
      clear HQ hb
      go_wp2_with (go_at_call 59; (with_reducible refine (HC.out _).mono ?_); rintro e w2 ⟨rfl, m, rfl⟩)
      go_roundw
      case rel => exact ⟨q + 1, n + m, by go_num, by omega, by omega, (by first | rfl | exact World.drewN_drewN _ _ _), HQ2⟩
      case measure => simp [intOf]; omega
    · have HC := Lib.hid (fun V => HP.out q V hq)
      rw [hb] at HC
      have HR := Lib.hid (HE.out q hpq hq HQ.out hb)
      clear HQ hb
      go_wp2_with (go_at_call 59; (with_reducible refine (HC.out _).mono ?_); rintro e w2 ⟨rfl, m, rfl⟩)
      go_ret
      exact ⟨by rw [HR.out]; rfl, n + m, (by first | rfl | exact World.drewN_drewN _ _ _)⟩
theorem endsInSquare_any (x : List Nat) (w : World) (hx : okW x) (hl : x.length ≤ 100000) :
    Calls Try.prog 72 #[.string (wS x)] w fun e w' => e = .returned (.bool (endS x)) ∧ ∃ n, w' = w.drewN n := by
  have HR : Hid (∀ p, 1 ≤ p → 2 * p ≤ x.length → ((((wS x).extract (x.length - 2 * p) x.length).extract 0 p).toList == (((wS x).extract (x.length - 2 * p) x.length).extract p (2 * p)).toList) = decide (sub x (x.length - 2 * p) p = sub x (x.length - p) p)) := Lib.hid (fun p h1 h2 => by
    rw [wS_extract, wS_extract, wS_extract, wS_beq (okW_sub (okW_sub hx _ _) _ _) (okW_sub (okW_sub hx _ _) _ _),
      sub_sub x (by omega), sub_sub x (by omega), show x.length - 2 * p + 0 = x.length - 2 * p by omega, show p - 0 = p by omega, show x.length - 2 * p + p = x.length - p by omega, show 2 * p - p = p by omega])
  have HZ : Hid (∀ p, 2 * p ≤ x.length → ((wS x).extract (x.length - 2 * p) x.length).size = 2 * p) := Lib.hid (fun p h => by rw [wS_extract, wS_len, sub_len]; omega)
  have HY : Hid (∀ p, 1 ≤ p → 2 * p ≤ x.length → sub x (x.length - 2 * p) p = sub x (x.length - p) p → endS x = true) := Lib.hid (fun p h1 h2 h3 => (endS_iff x).2 ⟨p, h1, h2, h3⟩)
  have HN : Hid ((∀ q, 1 ≤ q → 2 * q ≤ x.length → sub x (x.length - 2 * q) q ≠ sub x (x.length - q) q) → endS x = false) := Lib.hid (fun h => by
    rw [Bool.eq_false_iff]
    intro h1
    obtain ⟨p, h2, h3, h4⟩ := (endS_iff x).1 h1
    exact h p h2 h3 h4)
  have H0 : Hid (∀ q, 1 ≤ q → q < 1 → sub x (x.length - 2 * q) q ≠ sub x (x.length - q) q) := Lib.hid (fun q h1 h2 => absurd h2 (by omega))
  have hz := wS_len x
  obtain ⟨N, hN⟩ : ∃ N, x.length = N := ⟨_, rfl⟩
  rw [hN] at HR HZ HY HN H0 hz hl
  generalize wS x = s at *
  subst hz
  clear hN hx
  go_enter Try.func72, Try.ntmps72
  go_wp2
  go_loopw [3] (fun i wr => ∃ p n : Nat, i = .int .i64 p ∧ 1 ≤ p ∧ 2 * p ≤ s.size + 2 ∧ wr = w.drewN n ∧ Hid (∀ q, 1 ≤ q → q < p → sub x (s.size - 2 * q) q ≠ sub x (s.size - q) q)) (fun i _ => s.size + 2 - (intOf i).toNat)
  case atStart => exact ⟨1, 0, rfl, by omega, by omega, rfl, H0⟩
  case round =>
    clear H0
    obtain ⟨p, n, rfl, hp1, hp2, rfl, HQ⟩ := hrel
    by_cases hlt : 2 * p ≤ s.size
    · have g1 : decide (2 * (p : Int) ≤ (s.size : Int)) = true := decide_eq_true (by omega)
      have HZ1 := Lib.hid (HZ.out p hlt)
      have HR1 := Lib.hid (HR.out p hp1 hlt)
      by_cases hs : sub x (s.size - 2 * p) p = sub x (s.size - p) p
      · have HY1 := Lib.hid (HY.out p hp1 hlt hs)
        rw [decide_eq_true hs] at HR1
        clear hs HQ HR HZ HY HN
        go_wp2
        have hz1 := HZ1.out
        have hr1 := HR1.out
        generalize s.extract (s.size - 2 * p) s.size = t at *
        go_quiet (fail)
        go_wp2
        go_ret
        exact ⟨ret_bool HY1.out.symm, _, (by first | rfl | exact World.drewN_drewN _ _ _)⟩
      · have HQ2 : Hid (∀ q, 1 ≤ q → q < p + 1 → sub x (s.size - 2 * q) q ≠ sub x (s.size - q) q) := Lib.hid (fun q h1 h2 => by
          rcases Nat.lt_or_ge q p with h | h
          · exact HQ.out q h1 h
          · rw [show q = p by omega]; exact hs)
        rw [decide_eq_false hs] at HR1
        clear hs HQ HR HZ HY HN
        go_wp2
        have hz1 := HZ1.out
        have hr1 := HR1.out
        generalize s.extract (s.size - 2 * p) s.size = t at *
        go_quiet (fail)
        go_wp2
        go_roundw
        case rel => exact ⟨p + 1, n + nq, by go_num, by omega, by omega, (by first | rfl | exact World.drewN_drewN _ _ _), HQ2⟩
        case measure => simp [intOf]; omega
    · have g1 : decide (2 * (p : Int) ≤ (s.size : Int)) = false := decide_eq_false (by omega)
      have HF := Lib.hid (HN.out (fun q h1 h2 => HQ.out q h1 (by omega)))
      clear HQ HR HZ HY HN
      go_wp2
      go_ret
      exact ⟨ret_bool HF.out.symm, _, rfl⟩
theorem isSquareFree_any (x : List Nat) (w : World) (hx : okW x) (hl : x.length ≤ 100000) :
    Calls Try.prog 64 #[.string (wS x)] w fun e w' => e = .returned (.bool (free x)) ∧ ∃ n, w' = w.drewN n := by
  have HE := Lib.hid (fun (k : Nat) (V : World) (hk : k ≤ x.length) => endsInSquare_any (sub x 0 k) V (okW_sub hx _ _) (by rw [sub_len]; omega))
  have HX : Hid (∀ k, (wS x).extract 0 k = wS (sub x 0 k)) := Lib.hid (fun k => by rw [wS_extract]; rfl)
  have HF := Lib.hid (free_ends x)
  have hs0 : ∀ k, sub x 0 k = x.take k := fun k => by unfold sub; rw [List.drop_zero]
  have HS := Lib.hid hs0
  have H0 : Hid (∀ k, k ≤ 0 → endS (x.take k) = false) := Lib.hid (fun k hk => by
    obtain rfl : k = 0 := by omega
    rw [List.take_zero]; rfl)
  have hz := wS_len x
  obtain ⟨N, hN⟩ : ∃ N, x.length = N := ⟨_, rfl⟩
  rw [hN] at HE HF hz hl
  generalize wS x = s at *
  subst hz
  clear hN hx hs0
  go_enter Try.func64, Try.ntmps64
  go_wp2
  go_loopw [6] (fun i wr => ∃ k n : Nat, i = .int .i64 k ∧ k ≤ s.size ∧ wr = w.drewN n ∧ Hid (∀ j, j ≤ k → endS (x.take j) = false)) (fun i _ => s.size - (intOf i).toNat)
  case atStart => exact ⟨0, 0, rfl, by omega, rfl, H0⟩
  case round =>
    clear H0
    obtain ⟨k, n, rfl, hk, rfl, HQ⟩ := hrel
    by_cases hlt : k < s.size
    · have g1 : decide (k < s.size) = true := decide_eq_true hlt
      have hx1 := HX.out (k + 1)
      have HE1 := Lib.hid (fun V => HE.out (k + 1) V (by omega))
      cases hb : endS (x.take (k + 1))
      · have HQ2 : Hid (∀ j, j ≤ k + 1 → endS (x.take j) = false) := Lib.hid (fun j h1 => by
          rcases Nat.lt_or_ge k j with h | h
          · rw [show j = k + 1 by omega]; exact hb
          · exact HQ.out j h)
        rw [← HS.out] at hb
        rw [hb] at HE1
        clear HQ HE HF hb
        go_wp2_with (go_at_call 72; (with_reducible refine (HE1.out _).mono ?_); rintro e w2 ⟨rfl, m, rfl⟩)
        go_roundw
        case rel => exact ⟨k + 1, n + m, by go_num, by omega, (by first | rfl | exact World.drewN_drewN _ _ _), HQ2⟩
        case measure => simp [intOf]; omega
      · have HR : Hid (free x = false) := Lib.hid (by
          rw [Bool.eq_false_iff]
          intro h
          have := HF.out.1 h (k + 1) (by omega)
          rw [hb] at this; cases this)
        rw [← HS.out] at hb
        rw [hb] at HE1
        clear HQ HE HF hb
        go_wp2_with (go_at_call 72; (with_reducible refine (HE1.out _).mono ?_); rintro e w2 ⟨rfl, m, rfl⟩)
        go_ret
        exact ⟨ret_bool HR.out.symm, n + m, (by first | rfl | exact World.drewN_drewN _ _ _)⟩
    · obtain rfl : k = s.size := by omega
      have g1 : decide (s.size < s.size) = false := decide_eq_false hlt
      have HR : Hid (free x = true) := Lib.hid (HF.out.2 HQ.out)
      clear HQ HE HF
      go_wp2
      go_ret
      exact ⟨ret_bool HR.out.symm, n, rfl⟩
end Go.Proofs.Ytoklnpiehbnalaa
