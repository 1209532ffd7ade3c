/- The first repetition; squares and abelian squares. -/
import Derived.Test.YtoklnpiehbnalaaAD
namespace Go.Proofs.Ytoklnpiehbnalaa
open Go.RowKit Go.PlainAid
set_option maxHeartbeats 1000000
set_option maxRecDepth 100000
theorem sq1_any (a b : ByteArray) (w : World) : Calls Try.prog 55 #[.string a, .string b] w fun e w' => e = .returned (.bool (a.toList == b.toList)) ∧ w = w' := by
  go_enter Try.func55, Try.ntmps55
  go_wp2
  go_ret
  exact ⟨rfl, rfl⟩
theorem ab1_any (x y : List Nat) (w : World) (hx : okW x) (hy : okW y) (hl : x.length ≤ 100000) (hl2 : y.length ≤ 100000) :
    Calls Try.prog 56 #[.string (wS x), .string (wS y)] w fun e w' => e = .returned (.bool (decide (cntL x = cntL y))) ∧ Below w.heap.size w w' := by
  have H1 := Lib.hid (fun V => count_any x V hx hl)
  have H2 := Lib.hid (fun V => count_any y V hy hl2)
  have HQ := Lib.hid (fun V => eq78 (cntI_len x) (cntI_len y) V)
  have HI : Hid (decide (cntI x = cntI y) = decide (cntL x = cntL y)) := Lib.hid (by
    by_cases h : cntI x = cntI y
    · rw [decide_eq_true h, decide_eq_true ((cntI_iff x y).1 h)]
    · rw [decide_eq_false h, decide_eq_false (fun e => h ((cntI_iff x y).2 e))])
  have b0 := Below.refl w.heap.size w
  clear hx hy
  generalize wS x = s at *
  generalize wS y = t at *
  generalize (iv (cntI x)).toArray = u at *
  generalize (iv (cntI y)).toArray = v at *
  generalize decide (cntI x = cntI y) = B at *
  have hq := HQ.out
  go_enter Try.func56, Try.ntmps56
  go_wp2_with (go_at_call 57; first
    | ((with_reducible refine (H1.out _).mono ?_); rintro e w2 ⟨rfl, b2⟩; replace b0 := b0.trans (b2.mono b0.size))
    | ((with_reducible refine (H2.out _).mono ?_); rintro e w2 ⟨rfl, b2⟩; replace b0 := b0.trans (b2.mono b0.size)))
  go_ret
  exact ⟨ret_bool HI.out, b0⟩
/-- What a search hands back. -/
def frV : Option (Nat × Nat) → Value
  | none => .tuple #[.int .i64 0, .int .i64 0, .int .i64 6]
  | some (a, i) => .tuple #[.int .i64 a, .int .i64 ((i + 1 : Nat) : Int), .int .i64 0]
theorem half_iff {n a p : Nat} (hp : 1 ≤ p) : p - 1 < (n - a) / 2 ↔ a + 2 * p ≤ n := by omega
theorem firstRep55_any (x : List Nat) (P : Nat → Nat → Bool) (w : World) (hx : okW x) (hl : x.length ≤ 120)
    (HAL : Hid (∀ a p V, 1 ≤ p → a + 2 * p ≤ x.length → Calls Try.prog 55 #[.string (((wS x).extract a x.length).extract 0 p), .string (((wS x).extract a x.length).extract p (2 * p))] V fun e w' => e = .returned (.bool (P a (p - 1))) ∧ Below V.heap.size V w')) :
    Calls Try.prog 54 #[.string (wS x), .func (.func 55) #[] #[]] w fun e w' => e = .returned (frV (srch x.length (hlf x) P)) ∧ Below w.heap.size w w' := by
  have HW := Lib.hid (fun V => isWord_any (wS x) V (by rw [wS_len]; omega))
  rw [okB_wS hx hl] at HW
  have HZ : Hid (∀ a, ((wS x).extract a x.length).size = x.length - a) := Lib.hid (fun a => by rw [wS_extract, wS_len, sub_len]; omega)
  have HHIT : Hid (∀ a p, 1 ≤ p → a + 2 * p ≤ x.length → P a (p - 1) = true → (∀ b j, b < a → j < hlf x b → P b j = false) → (∀ q, 1 ≤ q → q < p → P a (q - 1) = false) → frV (srch x.length (hlf x) P) = .tuple #[.int .i64 a, .int .i64 p, .int .i64 0]) := Lib.hid (fun a p h1 h2 h3 h4 h5 => by
    rw [srch_hit (a := a) (i := p - 1) (by omega) (by unfold hlf; omega) h3 h4 (fun j hj => h5 (j + 1) (by omega) (by omega))]
    show Value.tuple #[.int .i64 a, .int .i64 ((p - 1 + 1 : Nat) : Int), .int .i64 0] = _
    rw [show p - 1 + 1 = p by omega])
  have HNO : Hid ((∀ b j, b < x.length → j < hlf x b → P b j = false) → frV (srch x.length (hlf x) P) = .tuple #[.int .i64 0, .int .i64 0, .int .i64 6]) := Lib.hid (fun h => by rw [srch_no h]; rfl)
  have HROW : Hid (∀ a, (∀ b j, b < a → j < hlf x b → P b j = false) → (∀ q, 1 ≤ q → a + 2 * q ≤ x.length → P a (q - 1) = false) → ∀ b j, b < a + 1 → j < hlf x b → P b j = false) := Lib.hid (fun a h1 h2 b j hb hj => by
    rcases Nat.lt_or_ge b a with h | h
    · exact h1 b j h hj
    · obtain rfl : b = a := by omega
      unfold hlf at hj
      exact h2 (j + 1) (by omega) (by omega))
  have H0 : Hid (∀ b j, b < 0 → j < hlf x b → P b j = false) := Lib.hid (fun b j h => absurd h (by omega))
  have H1 : Hid (∀ a q, 1 ≤ q → q < 1 → P a (q - 1) = false) := Lib.hid (fun a q h1 h2 => absurd h2 (by omega))
  have hz := wS_len x
  have b0 := Below.refl w.heap.size w
  generalize frV (srch x.length (hlf x) P) = R at *
  generalize hlf x = m at *
  obtain ⟨N, hN⟩ : ∃ N, x.length = N := ⟨_, rfl⟩
  rw [hN] at hz hl HAL HZ HHIT HNO HROW
  generalize wS x = s at *
  subst hz
  clear hN hx
  go_enter Try.func54, Try.ntmps54
  go_wp2_with (go_at_call 58; (with_reducible refine (HW.out _).mono ?_); rintro e w2 ⟨rfl, b2⟩)
  replace b0 := b0.trans (b2.mono b0.size)
  clear b2 HW
  go_loopw [15] (fun i wr => ∃ a : Nat, i = .int .i64 a ∧ a ≤ s.size ∧ Below w.heap.size w wr ∧ Hid (∀ b j, b < a → j < m b → P b j = false)) (fun i _ => s.size - (intOf i).toNat)
  case atStart => exact ⟨0, rfl, by omega, b0, H0⟩
  case round =>
    clear b0 H0
    obtain ⟨a, rfl, ha, b0, HQ⟩ := hrel
    by_cases hlt : a < s.size
    · have g1 : decide (a < s.size) = true := decide_eq_true hlt
      have hza := HZ.out a
      have HA := Lib.hid (HAL.out a)
      have HHA := Lib.hid (HHIT.out a)
      have HRA := Lib.hid (HROW.out a HQ.out)
      have H2 := Lib.hid (H1.out a)
      have HZA := Lib.hid (HZ.out a)
      clear hza HAL HHIT HROW HNO HZ
      go_wp2
      go_loopw [9] (fun i wr => ∃ p : Nat, i = .int .i64 p ∧ 1 ≤ p ∧ p ≤ s.size + 1 ∧ Below w.heap.size w wr ∧ Hid (∀ q, 1 ≤ q → q < p → P a (q - 1) = false)) (fun i _ => s.size + 1 - (intOf i).toNat)
      case atStart => exact ⟨1, rfl, by omega, by omega, b0, H2⟩
      case round =>
        clear b0 H2
        obtain ⟨p, rfl, hp1, hp2, b0, HP⟩ := hrel
        have hza := HZA.out
        by_cases hle : a + 2 * p ≤ s.size
        · have g2 : decide (2 * (p : Int) ≤ ((s.extract a s.size).size : Int)) = true := decide_eq_true (by omega)
          have g3 : 2 * p ≤ (s.extract a s.size).size := by omega
          have HA1 := Lib.hid (fun V => HA.out p V hp1 hle)
          have hps : p ≤ 120 := by omega
          have hss : (s.extract a s.size).size ≤ 120 := by omega
          cases hb : P a (p - 1)
          · have HP2 : Hid (∀ q, 1 ≤ q → q < p + 1 → P a (q - 1) = false) := Lib.hid (fun q h1 h2 => by
              rcases Nat.lt_or_ge q p with h | h
              · exact HP.out q h1 h
              · rw [show q = p by omega]; exact hb)
            rw [hb] at HA1
            clear HA HHA HRA HQ H1 hb HZA hza HP
            generalize s.extract a s.size = t at *
            go_wp2
            refine wp_region_class_all (C := fun w' => ∃ u : After _, w' = u.v) (by kernel_rfl) (by kernel_rfl) (isAfter_start _) ?_
            try simp only [Act.put]
            repeat (go_big_quiet_step ((with_reducible refine (HA1.out _).mono ?_; rintro e w8 ⟨rfl, b8⟩; exact ⟨rfl, After.done _ b8⟩)))
            refine wpQuiet_nil ?_
            rintro _ ⟨ua, rfl⟩
            go_wp2
            go_roundw
            case rel => exact ⟨p + 1, by go_num, by omega, by omega, b0.trans (ua.h.mono b0.size), HP2⟩
            case measure => simp [intOf]; omega
          · have HR := Lib.hid (HHA.out p hp1 hle hb HQ.out HP.out)
            rw [hb] at HA1
            clear HA HHA HRA HQ H1 hb HZA hza HP
            generalize s.extract a s.size = t at *
            go_wp2
            refine wp_region_class_all (C := fun w' => ∃ u : After _, w' = u.v) (by kernel_rfl) (by kernel_rfl) (isAfter_start _) ?_
            try simp only [Act.put]
            repeat (go_big_quiet_step ((with_reducible refine (HA1.out _).mono ?_; rintro e w8 ⟨rfl, b8⟩; exact ⟨rfl, After.done _ b8⟩)))
            refine wpQuiet_nil ?_
            rintro _ ⟨ua, rfl⟩
            go_wp2
            refine bodyPost_ret (v := .tuple #[.int .i64 a, .int .i64 p, .int .i64 0]) (by simp [results, Try.results54, go_sem]) rfl ⟨by rw [HR.out], b0.trans (ua.h.mono b0.size)⟩
        · have g2 : decide (2 * (p : Int) ≤ ((s.extract a s.size).size : Int)) = false := decide_eq_false (by omega)
          have HR := Lib.hid (HRA.out (fun q h1 h2 => HP.out q h1 (by omega)))
          clear HA HHA HRA HQ H1 HZA hza HP
          generalize s.extract a s.size = t at *
          go_wp2
          go_roundw
          case rel => exact ⟨a + 1, by go_num, by omega, b0, HR⟩
          case measure => simp [intOf]; omega
    · obtain rfl : a = s.size := by omega
      have g1 : decide (s.size < s.size) = false := decide_eq_false hlt
      have HR := Lib.hid (HNO.out HQ.out)
      clear HAL HHIT HROW HNO HZ HQ
      go_wp2
      refine bodyPost_ret (v := .tuple #[.int .i64 0, .int .i64 0, .int .i64 6]) (by simp [results, Try.results54, go_sem]) rfl ⟨by rw [HR.out], b0⟩
theorem firstRep55_no (s : ByteArray) (w : World) (hs : s.size ≤ 9223372036854775807) (h : okB s = false) :
    Calls Try.prog 54 #[.string s, .func (.func 55) #[] #[]] w fun e w' => e = .returned (.tuple #[.int .i64 0, .int .i64 0, .int .i64 2]) ∧ Below w.heap.size w w' := by
  have HW := Lib.hid (fun V => isWord_any s V hs)
  rw [h] at HW
  have b0 := Below.refl w.heap.size w
  clear h
  go_enter Try.func54, Try.ntmps54
  go_wp2_with (go_at_call 58; (with_reducible refine (HW.out _).mono ?_); rintro e w2 ⟨rfl, b2⟩)
  refine bodyPost_ret (v := .tuple #[.int .i64 0, .int .i64 0, .int .i64 2]) (by simp [results, Try.results54, go_sem]) rfl ⟨rfl, b0.trans (b2.mono b0.size)⟩
theorem firstRep56_any (x : List Nat) (P : Nat → Nat → Bool) (w : World) (hx : okW x) (hl : x.length ≤ 120)
    (HAL : Hid (∀ a p V, 1 ≤ p → a + 2 * p ≤ x.length → Calls Try.prog 56 #[.string (((wS x).extract a x.length).extract 0 p), .string (((wS x).extract a x.length).extract p (2 * p))] V fun e w' => e = .returned (.bool (P a (p - 1))) ∧ Below V.heap.size V w')) :
    Calls Try.prog 54 #[.string (wS x), .func (.func 56) #[] #[]] w fun e w' => e = .returned (frV (srch x.length (hlf x) P)) ∧ Below w.heap.size w w' := by
  have HW := Lib.hid (fun V => isWord_any (wS x) V (by rw [wS_len]; omega))
  rw [okB_wS hx hl] at HW
  have HZ : Hid (∀ a, ((wS x).extract a x.length).size = x.length - a) := Lib.hid (fun a => by rw [wS_extract, wS_len, sub_len]; omega)
  have HHIT : Hid (∀ a p, 1 ≤ p → a + 2 * p ≤ x.length → P a (p - 1) = true → (∀ b j, b < a → j < hlf x b → P b j = false) → (∀ q, 1 ≤ q → q < p → P a (q - 1) = false) → frV (srch x.length (hlf x) P) = .tuple #[.int .i64 a, .int .i64 p, .int .i64 0]) := Lib.hid (fun a p h1 h2 h3 h4 h5 => by
    rw [srch_hit (a := a) (i := p - 1) (by omega) (by unfold hlf; omega) h3 h4 (fun j hj => h5 (j + 1) (by omega) (by omega))]
    show Value.tuple #[.int .i64 a, .int .i64 ((p - 1 + 1 : Nat) : Int), .int .i64 0] = _
    rw [show p - 1 + 1 = p by omega])
  have HNO : Hid ((∀ b j, b < x.length → j < hlf x b → P b j = false) → frV (srch x.length (hlf x) P) = .tuple #[.int .i64 0, .int .i64 0, .int .i64 6]) := Lib.hid (fun h => by rw [srch_no h]; rfl)
  have HROW : Hid (∀ a, (∀ b j, b < a → j < hlf x b → P b j = false) → (∀ q, 1 ≤ q → a + 2 * q ≤ x.length → P a (q - 1) = false) → ∀ b j, b < a + 1 → j < hlf x b → P b j = false) := Lib.hid (fun a h1 h2 b j hb hj => by
    rcases Nat.lt_or_ge b a with h | h
    · exact h1 b j h hj
    · obtain rfl : b = a := by omega
      unfold hlf at hj
      exact h2 (j + 1) (by omega) (by omega))
  have H0 : Hid (∀ b j, b < 0 → j < hlf x b → P b j = false) := Lib.hid (fun b j h => absurd h (by omega))
  have H1 : Hid (∀ a q, 1 ≤ q → q < 1 → P a (q - 1) = false) := Lib.hid (fun a q h1 h2 => absurd h2 (by omega))
  have hz := wS_len x
  have b0 := Below.refl w.heap.size w
  generalize frV (srch x.length (hlf x) P) = R at *
  generalize hlf x = m at *
  obtain ⟨N, hN⟩ : ∃ N, x.length = N := ⟨_, rfl⟩
  rw [hN] at hz hl HAL HZ HHIT HNO HROW
  generalize wS x = s at *
  subst hz
  clear hN hx
  go_enter Try.func54, Try.ntmps54
  go_wp2_with (go_at_call 58; (with_reducible refine (HW.out _).mono ?_); rintro e w2 ⟨rfl, b2⟩)
  replace b0 := b0.trans (b2.mono b0.size)
  clear b2 HW
  go_loopw [15] (fun i wr => ∃ a : Nat, i = .int .i64 a ∧ a ≤ s.size ∧ Below w.heap.size w wr ∧ Hid (∀ b j, b < a → j < m b → P b j = false)) (fun i _ => s.size - (intOf i).toNat)
  case atStart => exact ⟨0, rfl, by omega, b0, H0⟩
  case round =>
    clear b0 H0
    obtain ⟨a, rfl, ha, b0, HQ⟩ := hrel
    by_cases hlt : a < s.size
    · have g1 : decide (a < s.size) = true := decide_eq_true hlt
      have hza := HZ.out a
      have HA := Lib.hid (HAL.out a)
      have HHA := Lib.hid (HHIT.out a)
      have HRA := Lib.hid (HROW.out a HQ.out)
      have H2 := Lib.hid (H1.out a)
      have HZA := Lib.hid (HZ.out a)
      clear hza HAL HHIT HROW HNO HZ
      go_wp2
      go_loopw [9] (fun i wr => ∃ p : Nat, i = .int .i64 p ∧ 1 ≤ p ∧ p ≤ s.size + 1 ∧ Below w.heap.size w wr ∧ Hid (∀ q, 1 ≤ q → q < p → P a (q - 1) = false)) (fun i _ => s.size + 1 - (intOf i).toNat)
      case atStart => exact ⟨1, rfl, by omega, by omega, b0, H2⟩
      case round =>
        clear b0 H2
        obtain ⟨p, rfl, hp1, hp2, b0, HP⟩ := hrel
        have hza := HZA.out
        by_cases hle : a + 2 * p ≤ s.size
        · have g2 : decide (2 * (p : Int) ≤ ((s.extract a s.size).size : Int)) = true := decide_eq_true (by omega)
          have g3 : 2 * p ≤ (s.extract a s.size).size := by omega
          have HA1 := Lib.hid (fun V => HA.out p V hp1 hle)
          have hps : p ≤ 120 := by omega
          have hss : (s.extract a s.size).size ≤ 120 := by omega
          cases hb : P a (p - 1)
          · have HP2 : Hid (∀ q, 1 ≤ q → q < p + 1 → P a (q - 1) = false) := Lib.hid (fun q h1 h2 => by
              rcases Nat.lt_or_ge q p with h | h
              · exact HP.out q h1 h
              · rw [show q = p by omega]; exact hb)
            rw [hb] at HA1
            clear HA HHA HRA HQ H1 hb HZA hza HP
            generalize s.extract a s.size = t at *
            go_wp2
            refine wp_region_class_all (C := fun w' => ∃ u : After _, w' = u.v) (by kernel_rfl) (by kernel_rfl) (isAfter_start _) ?_
            try simp only [Act.put]
            repeat (go_big_quiet_step ((with_reducible refine (HA1.out _).mono ?_; rintro e w8 ⟨rfl, b8⟩; exact ⟨rfl, After.done _ b8⟩)))
            refine wpQuiet_nil ?_
            rintro _ ⟨ua, rfl⟩
            go_wp2
            go_roundw
            case rel => exact ⟨p + 1, by go_num, by omega, by omega, b0.trans (ua.h.mono b0.size), HP2⟩
            case measure => simp [intOf]; omega
          · have HR := Lib.hid (HHA.out p hp1 hle hb HQ.out HP.out)
            rw [hb] at HA1
            clear HA HHA HRA HQ H1 hb HZA hza HP
            generalize s.extract a s.size = t at *
            go_wp2
            refine wp_region_class_all (C := fun w' => ∃ u : After _, w' = u.v) (by kernel_rfl) (by kernel_rfl) (isAfter_start _) ?_
            try simp only [Act.put]
            repeat (go_big_quiet_step ((with_reducible refine (HA1.out _).mono ?_; rintro e w8 ⟨rfl, b8⟩; exact ⟨rfl, After.done _ b8⟩)))
            refine wpQuiet_nil ?_
            rintro _ ⟨ua, rfl⟩
            go_wp2
            refine bodyPost_ret (v := .tuple #[.int .i64 a, .int .i64 p, .int .i64 0]) (by simp [results, Try.results54, go_sem]) rfl ⟨by rw [HR.out], b0.trans (ua.h.mono b0.size)⟩
        · have g2 : decide (2 * (p : Int) ≤ ((s.extract a s.size).size : Int)) = false := decide_eq_false (by omega)
          have HR := Lib.hid (HRA.out (fun q h1 h2 => HP.out q h1 (by omega)))
          clear HA HHA HRA HQ H1 HZA hza HP
          generalize s.extract a s.size = t at *
          go_wp2
          go_roundw
          case rel => exact ⟨a + 1, by go_num, by omega, b0, HR⟩
          case measure => simp [intOf]; omega
    · obtain rfl : a = s.size := by omega
      have g1 : decide (s.size < s.size) = false := decide_eq_false hlt
      have HR := Lib.hid (HNO.out HQ.out)
      clear HAL HHIT HROW HNO HZ HQ
      go_wp2
      refine bodyPost_ret (v := .tuple #[.int .i64 0, .int .i64 0, .int .i64 6]) (by simp [results, Try.results54, go_sem]) rfl ⟨by rw [HR.out], b0⟩
theorem firstRep56_no (s : ByteArray) (w : World) (hs : s.size ≤ 9223372036854775807) (h : okB s = false) :
    Calls Try.prog 54 #[.string s, .func (.func 56) #[] #[]] w fun e w' => e = .returned (.tuple #[.int .i64 0, .int .i64 0, .int .i64 2]) ∧ Below w.heap.size w w' := by
  have HW := Lib.hid (fun V => isWord_any s V hs)
  rw [h] at HW
  have b0 := Below.refl w.heap.size w
  clear h
  go_enter Try.func54, Try.ntmps54
  go_wp2_with (go_at_call 58; (with_reducible refine (HW.out _).mono ?_); rintro e w2 ⟨rfl, b2⟩)
  refine bodyPost_ret (v := .tuple #[.int .i64 0, .int .i64 0, .int .i64 2]) (by simp [results, Try.results54, go_sem]) rfl ⟨rfl, b0.trans (b2.mono b0.size)⟩
theorem square_ext {x : List Nat} {a p : Nat} (hl : a + 2 * p ≤ x.length) : ((wS x).extract a x.length).extract 0 p = wS (sub x a p) ∧ ((wS x).extract a x.length).extract p (2 * p) = wS (sub x (a + p) p) := by
  refine ⟨?_, ?_⟩
  · rw [wS_extract, wS_extract, sub_sub x (by omega), Nat.add_zero, Nat.sub_zero]
  · rw [wS_extract, wS_extract, sub_sub x (by omega), show 2 * p - p = p by omega]
theorem Square_yes (x : List Nat) (w : World) (hx : okW x) (hl : x.length ≤ 120) :
    Calls Try.prog 20 #[.string (wS x)] w fun e w' => e = .returned (frV (sqS x)) ∧ Below w.heap.size w w' := by
  have HF := Lib.hid (firstRep55_any x (sqP x) w hx hl (Lib.hid (fun a p V h1 h2 => by
    obtain ⟨e1, e2⟩ := square_ext h2
    rw [e1, e2]
    refine (sq1_any _ _ V).mono (fun e w' ⟨h3, h4⟩ => ⟨?_, h4 ▸ Below.refl _ _⟩)
    rw [h3, wS_beq (okW_sub hx _ _) (okW_sub hx _ _)]
    unfold sqP
    rw [show p - 1 + 1 = p by omega])))
  generalize wS x = s at *
  have HV := Lib.hid (show frV (srch x.length (hlf x) (sqP x)) = frV (sqS x) from rfl)
  rw [HV.out] at HF
  cases hq : sqS x with
  | none =>
    rw [hq] at HF
    unfold frV at HF
    clear hx hl HV hq
    go_enter Try.func20, Try.ntmps20
    go_wp2_with (go_at_call 54; (with_reducible refine HF.out.mono ?_); rintro e w2 ⟨rfl, b2⟩)
    exact bodyPost_ret (v := .tuple #[.int .i64 0, .int .i64 0, .int .i64 6]) (by simp [results, Try.results20, go_sem]) rfl ⟨rfl, b2⟩
  | some y =>
    obtain ⟨a, i⟩ := y
    rw [hq] at HF
    have HW : Hid (frV (some (a, i)) = .tuple #[.int .i64 a, .int .i64 ((i + 1 : Nat) : Int), .int .i64 0]) := Lib.hid rfl
    rw [HW.out] at HF
    clear hx hl HV hq
    go_enter Try.func20, Try.ntmps20
    go_wp2_with (go_at_call 54; (with_reducible refine HF.out.mono ?_); rintro e w2 ⟨rfl, b2⟩)
    exact bodyPost_ret (v := .tuple #[.int .i64 a, .int .i64 ((i + 1 : Nat) : Int), .int .i64 0]) (by simp [results, Try.results20, go_sem]) rfl ⟨by rw [HW.out], b2⟩
theorem Square_no (s : ByteArray) (w : World) (hs : s.size ≤ 9223372036854775807) (h : okB s = false) :
    Calls Try.prog 20 #[.string s] w fun e w' => e = .returned (.tuple #[.int .i64 0, .int .i64 0, .int .i64 2]) ∧ Below w.heap.size w w' := by
  have HF := Lib.hid (firstRep55_no s w hs h)
  clear h
  go_enter Try.func20, Try.ntmps20
  go_wp2_with (go_at_call 54; (with_reducible refine HF.out.mono ?_); rintro e w2 ⟨rfl, b2⟩)
  exact bodyPost_ret (v := .tuple #[.int .i64 0, .int .i64 0, .int .i64 2]) (by simp [results, Try.results20, go_sem]) rfl ⟨rfl, b2⟩
theorem Abelian_yes (x : List Nat) (w : World) (hx : okW x) (hl : x.length ≤ 120) :
    Calls Try.prog 21 #[.string (wS x)] w fun e w' => e = .returned (frV (abS x)) ∧ Below w.heap.size w w' := by
  have HF := Lib.hid (firstRep56_any x (abP x) w hx hl (Lib.hid (fun a p V h1 h2 => by
    obtain ⟨e1, e2⟩ := square_ext h2
    rw [e1, e2]
    have := ab1_any (sub x a p) (sub x (a + p) p) V (okW_sub hx _ _) (okW_sub hx _ _) (by rw [sub_len]; omega) (by rw [sub_len]; omega)
    unfold abP
    rw [show p - 1 + 1 = p by omega]
    exact this)))
  generalize wS x = s at *
  have HV := Lib.hid (show frV (srch x.length (hlf x) (abP x)) = frV (abS x) from rfl)
  rw [HV.out] at HF
  cases hq : abS x with
  | none =>
    rw [hq] at HF
    unfold frV at HF
    clear hx hl HV hq
    go_enter Try.func21, Try.ntmps21
    go_wp2_with (go_at_call 54; (with_reducible refine HF.out.mono ?_); rintro e w2 ⟨rfl, b2⟩)
    exact bodyPost_ret (v := .tuple #[.int .i64 0, .int .i64 0, .int .i64 6]) (by simp [results, Try.results21, go_sem]) rfl ⟨rfl, b2⟩
  | some y =>
    obtain ⟨a, i⟩ := y
    rw [hq] at HF
    have HW : Hid (frV (some (a, i)) = .tuple #[.int .i64 a, .int .i64 ((i + 1 : Nat) : Int), .int .i64 0]) := Lib.hid rfl
    rw [HW.out] at HF
    clear hx hl HV hq
    go_enter Try.func21, Try.ntmps21
    go_wp2_with (go_at_call 54; (with_reducible refine HF.out.mono ?_); rintro e w2 ⟨rfl, b2⟩)
    exact bodyPost_ret (v := .tuple #[.int .i64 a, .int .i64 ((i + 1 : Nat) : Int), .int .i64 0]) (by simp [results, Try.results21, go_sem]) rfl ⟨by rw [HW.out], b2⟩
theorem Abelian_no (s : ByteArray) (w : World) (hs : s.size ≤ 9223372036854775807) (h : okB s = false) :
    Calls Try.prog 21 #[.string s] w fun e w' => e = .returned (.tuple #[.int .i64 0, .int .i64 0, .int .i64 2]) ∧ Below w.heap.size w w' := by
  have HF := Lib.hid (firstRep56_no s w hs h)
  clear h
  go_enter Try.func21, Try.ntmps21
  go_wp2_with (go_at_call 54; (with_reducible refine HF.out.mono ?_); rintro e w2 ⟨rfl, b2⟩)
  exact bodyPost_ret (v := .tuple #[.int .i64 0, .int .i64 0, .int .i64 2]) (by simp [results, Try.results21, go_sem]) rfl ⟨rfl, b2⟩
end Go.Proofs.Ytoklnpiehbnalaa
