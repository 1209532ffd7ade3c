/- The reference's searches for squares. -/
import Derived.Test.YtoklnpiehbnalaaAE
namespace Go.Proofs.Ytoklnpiehbnalaa
open Go.RowKit Go.PlainAid
set_option maxHeartbeats 1000000
set_option maxRecDepth 100000
/-- What a search of the reference hands back. -/
def rfV : Option (Nat × Nat) → Value
  | none => .tuple #[.int .i64 0, .int .i64 0, .bool false]
  | some (a, i) => .tuple #[.int .i64 a, .int .i64 ((i + 1 : Nat) : Int), .bool true]
theorem part_ext {x : List Nat} {a p : Nat} : (wS x).extract a (a + p) = wS (sub x a p) ∧ (wS x).extract (a + p) (a + 2 * p) = wS (sub x (a + p) p) := by
  refine ⟨?_, ?_⟩
  · rw [wS_extract, show a + p - a = p by omega]
  · rw [wS_extract, show a + 2 * p - (a + p) = p by omega]
theorem refSquare_any (x : List Nat) (w : World) (hx : okW x) (hl : x.length ≤ 10000) :
    Calls Try.prog 25 #[.string (wS x)] w fun e w' => e = .returned (rfV (sqS x)) ∧ Below w.heap.size w w' := by
  have HE : Hid (∀ a p, 1 ≤ p → a + 2 * p ≤ x.length → (((wS x).extract a (a + p)).toList == ((wS x).extract (a + p) (a + 2 * p)).toList) = sqP x a (p - 1)) := Lib.hid (fun a p h1 h2 => by
    obtain ⟨e1, e2⟩ := part_ext (x := x) (a := a) (p := p)
    rw [e1, e2, wS_beq (okW_sub hx _ _) (okW_sub hx _ _)]
    unfold sqP
    rw [show p - 1 + 1 = p by omega])
  have HHIT : Hid (∀ a p, 1 ≤ p → a + 2 * p ≤ x.length → sqP x a (p - 1) = true → (∀ b j, b < a → j < hlf x b → sqP x b j = false) → (∀ q, 1 ≤ q → q < p → sqP x a (q - 1) = false) → rfV (sqS x) = .tuple #[.int .i64 a, .int .i64 p, .bool true]) := Lib.hid (fun a p h1 h2 h3 h4 h5 => by
    unfold sqS
    rw [srch_hit (a := a) (i := p - 1) (by omega) (by unfold hlf; omega) h3 h4 (fun j hj => h5 (j + 1) (by omega) (by omega))]
    show Value.tuple #[.int .i64 a, .int .i64 ((p - 1 + 1 : Nat) : Int), .bool true] = _
    rw [show p - 1 + 1 = p by omega])
  have HNO : Hid ((∀ b j, b < x.length → j < hlf x b → sqP x b j = false) → rfV (sqS x) = .tuple #[.int .i64 0, .int .i64 0, .bool false]) := Lib.hid (fun h => by unfold sqS; rw [srch_no h]; rfl)
  have HROW : Hid (∀ a, (∀ b j, b < a → j < hlf x b → sqP x b j = false) → (∀ q, 1 ≤ q → a + 2 * q ≤ x.length → sqP x a (q - 1) = false) → ∀ b j, b < a + 1 → j < hlf x b → sqP x b j = false) := Lib.hid (fun a h1 h2 b j hb hj => by
    rcases Nat.lt_or_ge b a with h | h
    · exact h1 b j h hj
    · obtain rfl : b = a := by omega
      unfold hlf at hj
      exact h2 (j + 1) (by omega) (by omega))
  have H0 : Hid (∀ b j, b < 0 → j < hlf x b → sqP x b j = false) := Lib.hid (fun b j h => absurd h (by omega))
  have H1 : Hid (∀ a q, 1 ≤ q → q < 1 → sqP x a (q - 1) = false) := Lib.hid (fun a q h1 h2 => absurd h2 (by omega))
  have hz := wS_len x
  have b0 := Below.refl w.heap.size w
  generalize rfV (sqS x) = R at *
  generalize hlf x = m at *
  generalize sqP x = P at *
  obtain ⟨N, hN⟩ : ∃ N, x.length = N := ⟨_, rfl⟩
  rw [hN] at hz hl HE HHIT HNO HROW
  generalize wS x = s at *
  subst hz
  clear hN hx
  go_enter Try.func25, Try.ntmps25
  go_wp2
  go_loopw [5] (fun i wr => ∃ a : Nat, i = .int .i64 a ∧ a ≤ s.size ∧ Below w.heap.size w wr ∧ Hid (∀ b j, b < a → j < m b → P b j = false)) (fun i _ => s.size - (intOf i).toNat)
  case atStart => exact ⟨0, rfl, by omega, b0, H0⟩
  case round =>
    clear b0 H0
    obtain ⟨a, rfl, ha, b0, HQ⟩ := hrel
    by_cases hlt : a < s.size
    · have g1 : decide (a < s.size) = true := decide_eq_true hlt
      have HA := Lib.hid (HE.out a)
      have HHA := Lib.hid (HHIT.out a)
      have HRA := Lib.hid (HROW.out a HQ.out)
      have H2 := Lib.hid (H1.out a)
      clear HE HHIT HROW HNO
      go_wp2
      go_loopw [6] (fun i wr => ∃ p : Nat, i = .int .i64 p ∧ 1 ≤ p ∧ p ≤ s.size + 1 ∧ Below w.heap.size w wr ∧ Hid (∀ q, 1 ≤ q → q < p → P a (q - 1) = false)) (fun i _ => s.size + 1 - (intOf i).toNat)
      case atStart => exact ⟨1, rfl, by omega, by omega, b0, H2⟩
      case round =>
        clear b0 H2
        obtain ⟨p, rfl, hp1, hp2, b0, HP⟩ := hrel
        by_cases hle : a + 2 * p ≤ s.size
        · have g2 : decide ((a : Int) + 2 * (p : Int) ≤ (s.size : Int)) = true := decide_eq_true (by omega)
          have HA1 := Lib.hid (HA.out p hp1 hle)
          have hap : a + p ≤ s.size := by omega
          cases hb : P a (p - 1)
          · have HP2 : Hid (∀ q, 1 ≤ q → q < p + 1 → P a (q - 1) = false) := Lib.hid (fun q h1 h2 => by
              rcases Nat.lt_or_ge q p with h | h
              · exact HP.out q h1 h
              · rw [show q = p by omega]; exact hb)
            rw [hb] at HA1
            clear HA HHA HRA HQ H1 hb HP
            have he := HA1.out
            go_wp2
            go_quiet (fail)
            go_wp2
            go_roundw
            case rel => exact ⟨p + 1, by go_num, by omega, by omega, b0.trans (below_drewN nq), HP2⟩
            case measure => simp [intOf]; omega
          · have HR := Lib.hid (HHA.out p hp1 hle hb HQ.out HP.out)
            rw [hb] at HA1
            clear HA HHA HRA HQ H1 hb HP
            have he := HA1.out
            go_wp2
            go_quiet (fail)
            go_wp2
            refine bodyPost_ret (v := .tuple #[.int .i64 a, .int .i64 p, .bool true]) (by simp [results, Try.results25, go_sem]) rfl ⟨by rw [HR.out], b0.trans (below_drewN nq)⟩
        · have g2 : decide ((a : Int) + 2 * (p : Int) ≤ (s.size : Int)) = false := decide_eq_false (by omega)
          have HR := Lib.hid (HRA.out (fun q h1 h2 => HP.out q h1 (by omega)))
          clear HA HHA HRA HQ H1 HP
          go_wp2
          go_roundw
          case rel => exact ⟨a + 1, by go_num, by omega, b0, HR⟩
          case measure => simp [intOf]; omega
    · obtain rfl : a = s.size := by omega
      have g1 : decide (s.size < s.size) = false := decide_eq_false hlt
      have HR := Lib.hid (HNO.out HQ.out)
      clear HE HHIT HROW HNO HQ
      go_wp2
      refine bodyPost_ret (v := .tuple #[.int .i64 0, .int .i64 0, .bool false]) (by simp [results, Try.results25, go_sem]) rfl ⟨by rw [HR.out], b0⟩
theorem refAbelian_any (x : List Nat) (w : World) (hx : okW x) (hl : x.length ≤ 10000) :
    Calls Try.prog 26 #[.string (wS x)] w fun e w' => e = .returned (rfV (abS x)) ∧ Below w.heap.size w w' := by
  have HE : Hid (∀ a p, 1 ≤ p → a + 2 * p ≤ x.length → ∃ u v : List Int, u.length = 4 ∧ v.length = 4 ∧ decide (u = v) = abP x a (p - 1) ∧ (∀ V, Calls Try.prog 60 #[.string ((wS x).extract a (a + p))] V fun e w' => e = .returned (.agg (iv u).toArray) ∧ Below V.heap.size V w') ∧ (∀ V, Calls Try.prog 60 #[.string ((wS x).extract (a + p) (a + 2 * p))] V fun e w' => e = .returned (.agg (iv v).toArray) ∧ Below V.heap.size V w')) := Lib.hid (fun a p h1 h2 => by
    obtain ⟨e1, e2⟩ := part_ext (x := x) (a := a) (p := p)
    rw [e1, e2]
    refine ⟨cntI (sub x a p), cntI (sub x (a + p) p), rfl, rfl, ?_, fun V => counts_any _ V (okW_sub hx _ _) (by rw [sub_len]; omega), fun V => counts_any _ V (okW_sub hx _ _) (by rw [sub_len]; omega)⟩
    unfold abP
    rw [show p - 1 + 1 = p by omega]
    by_cases h : cntI (sub x a p) = cntI (sub x (a + p) p)
    · rw [decide_eq_true h, decide_eq_true ((cntI_iff _ _).1 h)]
    · rw [decide_eq_false h, decide_eq_false (fun e => h ((cntI_iff _ _).2 e))])
  have HHIT : Hid (∀ a p, 1 ≤ p → a + 2 * p ≤ x.length → abP x a (p - 1) = true → (∀ b j, b < a → j < hlf x b → abP x b j = false) → (∀ q, 1 ≤ q → q < p → abP x a (q - 1) = false) → rfV (abS x) = .tuple #[.int .i64 a, .int .i64 p, .bool true]) := Lib.hid (fun a p h1 h2 h3 h4 h5 => by
    unfold abS
    rw [srch_hit (a := a) (i := p - 1) (by omega) (by unfold hlf; omega) h3 h4 (fun j hj => h5 (j + 1) (by omega) (by omega))]
    show Value.tuple #[.int .i64 a, .int .i64 ((p - 1 + 1 : Nat) : Int), .bool true] = _
    rw [show p - 1 + 1 = p by omega])
  have HNO : Hid ((∀ b j, b < x.length → j < hlf x b → abP x b j = false) → rfV (abS x) = .tuple #[.int .i64 0, .int .i64 0, .bool false]) := Lib.hid (fun h => by unfold abS; rw [srch_no h]; rfl)
  have HROW : Hid (∀ a, (∀ b j, b < a → j < hlf x b → abP x b j = false) → (∀ q, 1 ≤ q → a + 2 * q ≤ x.length → abP x a (q - 1) = false) → ∀ b j, b < a + 1 → j < hlf x b → abP x b j = false) := Lib.hid (fun a h1 h2 b j hb hj => by
    rcases Nat.lt_or_ge b a with h | h
    · exact h1 b j h hj
    · obtain rfl : b = a := by omega
      unfold hlf at hj
      exact h2 (j + 1) (by omega) (by omega))
  have H0 : Hid (∀ b j, b < 0 → j < hlf x b → abP x b j = false) := Lib.hid (fun b j h => absurd h (by omega))
  have H1 : Hid (∀ a q, 1 ≤ q → q < 1 → abP x a (q - 1) = false) := Lib.hid (fun a q h1 h2 => absurd h2 (by omega))
  have hz := wS_len x
  have b0 := Below.refl w.heap.size w
  generalize rfV (abS x) = R at *
  generalize hlf x = m at *
  generalize abP x = P at *
  obtain ⟨N, hN⟩ : ∃ N, x.length = N := ⟨_, rfl⟩
  rw [hN] at hz hl HE HHIT HNO HROW
  generalize wS x = s at *
  subst hz
  clear hN hx
  go_enter Try.func26, Try.ntmps26
  go_wp2
  go_loopw [5] (fun i wr => ∃ a : Nat, i = .int .i64 a ∧ a ≤ s.size ∧ Below w.heap.size w wr ∧ Hid (∀ b j, b < a → j < m b → P b j = false)) (fun i _ => s.size - (intOf i).toNat)
  case atStart => exact ⟨0, rfl, by omega, b0, H0⟩
  case round =>
    clear b0 H0
    obtain ⟨a, rfl, ha, b0, HQ⟩ := hrel
    by_cases hlt : a < s.size
    · have g1 : decide (a < s.size) = true := decide_eq_true hlt
      have HA := Lib.hid (HE.out a)
      have HHA := Lib.hid (HHIT.out a)
      have HRA := Lib.hid (HROW.out a HQ.out)
      have H2 := Lib.hid (H1.out a)
      clear HE HHIT HROW HNO
      go_wp2
      go_loopw [6] (fun i wr => ∃ p : Nat, i = .int .i64 p ∧ 1 ≤ p ∧ p ≤ s.size + 1 ∧ Below w.heap.size w wr ∧ Hid (∀ q, 1 ≤ q → q < p → P a (q - 1) = false)) (fun i _ => s.size + 1 - (intOf i).toNat)
      case atStart => exact ⟨1, rfl, by omega, by omega, b0, H2⟩
      case round =>
        clear b0 H2
        obtain ⟨p, rfl, hp1, hp2, b0, HP⟩ := hrel
        by_cases hle : a + 2 * p ≤ s.size
        · have g2 : decide ((a : Int) + 2 * (p : Int) ≤ (s.size : Int)) = true := decide_eq_true (by omega)
          have HA1 := Lib.hid (HA.out p hp1 hle)
          have hap : a + p ≤ s.size := by omega
          cases hb : P a (p - 1)
          · have HP2 : Hid (∀ q, 1 ≤ q → q < p + 1 → P a (q - 1) = false) := Lib.hid (fun q h1 h2 => by
              rcases Nat.lt_or_ge q p with h | h
              · exact HP.out q h1 h
              · rw [show q = p by omega]; exact hb)
            rw [hb] at HA1
            clear HA HHA HRA HQ H1 hb HP
            obtain ⟨u, v, hu, hv, hd, C1, C2⟩ := HA1.out
            have hq := eq78 hu hv
            rw [hd] at hq
            have K1 := Lib.hid C1
            have K2 := Lib.hid C2
            clear hu hv hd C1 C2 HA1
            generalize (iv u).toArray = u1 at *
            generalize (iv v).toArray = v1 at *
            go_wp2
            refine wp_region_class_all (C := fun w' => ∃ u : After _, w' = u.v) (by kernel_rfl) (by kernel_rfl) (isAfter_start _) ?_
            try simp only [Act.put]
            repeat (go_big_quiet_step ((first | (with_reducible refine (K1.out _).mono ?_; rintro e w8 ⟨rfl, b8⟩; exact ⟨rfl, After.done _ b8⟩) | (with_reducible refine (K2.out _).mono ?_; rintro e w8 ⟨rfl, b8⟩; exact ⟨rfl, After.done _ b8⟩))))
            refine wpQuiet_nil ?_
            rintro _ ⟨ua, rfl⟩
            go_wp2
            go_roundw
            case rel => exact ⟨p + 1, by go_num, by omega, by omega, b0.trans (ua.h.mono b0.size), HP2⟩
            case measure => simp [intOf]; omega
          · have HR := Lib.hid (HHA.out p hp1 hle hb HQ.out HP.out)
            rw [hb] at HA1
            clear HA HHA HRA HQ H1 hb HP
            obtain ⟨u, v, hu, hv, hd, C1, C2⟩ := HA1.out
            have hq := eq78 hu hv
            rw [hd] at hq
            have K1 := Lib.hid C1
            have K2 := Lib.hid C2
            clear hu hv hd C1 C2 HA1
            generalize (iv u).toArray = u1 at *
            generalize (iv v).toArray = v1 at *
            go_wp2
            refine wp_region_class_all (C := fun w' => ∃ u : After _, w' = u.v) (by kernel_rfl) (by kernel_rfl) (isAfter_start _) ?_
            try simp only [Act.put]
            repeat (go_big_quiet_step ((first | (with_reducible refine (K1.out _).mono ?_; rintro e w8 ⟨rfl, b8⟩; exact ⟨rfl, After.done _ b8⟩) | (with_reducible refine (K2.out _).mono ?_; rintro e w8 ⟨rfl, b8⟩; exact ⟨rfl, After.done _ b8⟩))))
            refine wpQuiet_nil ?_
            rintro _ ⟨ua, rfl⟩
            go_wp2
            refine bodyPost_ret (v := .tuple #[.int .i64 a, .int .i64 p, .bool true]) (by simp [results, Try.results26, go_sem]) rfl ⟨by rw [HR.out], b0.trans (ua.h.mono b0.size)⟩
        · have g2 : decide ((a : Int) + 2 * (p : Int) ≤ (s.size : Int)) = false := decide_eq_false (by omega)
          have HR := Lib.hid (HRA.out (fun q h1 h2 => HP.out q h1 (by omega)))
          clear HA HHA HRA HQ H1 HP
          go_wp2
          go_roundw
          case rel => exact ⟨a + 1, by go_num, by omega, b0, HR⟩
          case measure => simp [intOf]; omega
    · obtain rfl : a = s.size := by omega
      have g1 : decide (s.size < s.size) = false := decide_eq_false hlt
      have HR := Lib.hid (HNO.out HQ.out)
      clear HE HHIT HROW HNO HQ
      go_wp2
      refine bodyPost_ret (v := .tuple #[.int .i64 0, .int .i64 0, .bool false]) (by simp [results, Try.results26, go_sem]) rfl ⟨by rw [HR.out], b0⟩
theorem refFree_any (x : List Nat) (w : World) (hx : okW x) (hl : x.length ≤ 10000) :
    Calls Try.prog 53 #[.string (wS x)] w fun e w' => e = .returned (.bool (free x)) ∧ Below w.heap.size w w' := by
  have HF := Lib.hid (refSquare_any x w hx hl)
  have HR : Hid (free x = (sqS x).isNone) := Lib.hid rfl
  clear hx hl
  generalize wS x = s at *
  cases hq : sqS x with
  | none =>
    rw [hq] at HF HR
    unfold rfV at HF
    clear hq
    go_enter Try.func53, Try.ntmps53
    go_wp2_with (go_at_call 25; (with_reducible refine HF.out.mono ?_); rintro e w2 ⟨rfl, b2⟩)
    go_ret
    exact ⟨ret_bool HR.out.symm, b2⟩
  | some y =>
    obtain ⟨a, i⟩ := y
    rw [hq] at HF HR
    have HW : Hid (rfV (some (a, i)) = .tuple #[.int .i64 a, .int .i64 ((i + 1 : Nat) : Int), .bool true]) := Lib.hid rfl
    rw [HW.out] at HF
    clear hq
    go_enter Try.func53, Try.ntmps53
    go_wp2_with (go_at_call 25; (with_reducible refine HF.out.mono ?_); rintro e w2 ⟨rfl, b2⟩)
    go_ret
    exact ⟨ret_bool HR.out.symm, b2⟩
end Go.Proofs.Ytoklnpiehbnalaa
