/- MarksFirst walked. -/
import Derived.Test.YtoklnpiehbnalaaMF
import Derived.Test.YtoklnpiehbnalaaAY
namespace Go.Proofs.Ytoklnpiehbnalaa
open Go.RowKit Go.PlainAid
set_option maxHeartbeats 2000000
set_option maxRecDepth 100000
theorem marksFirst_walk (n m : Int) (a b c lo hi : Nat) (P Q T : ByteArray) (w : World) (_ha : a < 61) (_hb : b < 61) (hc : c < 50)
    (H0 : Hid (∀ V, Calls Try.prog 50 #[.int .i64 n, .int .i64 61] V fun e w' => e = .returned (.int .i64 a) ∧ V = w'))
    (H1 : Hid (∀ V, Calls Try.prog 50 #[.int .i64 m, .int .i64 61] V fun e w' => e = .returned (.int .i64 b) ∧ V = w'))
    (hhi : max (a : Int) (b : Int) = hi) (hlo : min (a : Int) (b : Int) = lo) (hlh : lo ≤ hi) (_hh60 : hi ≤ 60)
    (H2 : Hid (∀ V, Calls Try.prog 36 #[.int .i64 hi, .int .i64 3] V fun e w' => e = .returned (.tuple #[.string P, .int .i64 0]) ∧ Below V.heap.size V w'))
    (H3 : Hid (∀ V, Calls Try.prog 36 #[.int .i64 lo, .int .i64 3] V fun e w' => e = .returned (.tuple #[.string Q, .int .i64 0]) ∧ Below V.heap.size V w'))
    (H4 : Hid (∀ V, Calls Try.prog 50 #[.int .i64 a, .int .i64 50] V fun e w' => e = .returned (.int .i64 c) ∧ V = w'))
    (H5 : Hid (∀ V, Calls Try.prog 36 #[.int .i64 (4 + (c : Int)), .int .i64 2] V fun e w' => e = .returned (.tuple #[.string ⟨#[]⟩, .int .i64 6]) ∧ Below V.heap.size V w'))
    (H6 : Hid (∀ V, Calls Try.prog 20 #[.string P] V fun e w' => e = .returned (.tuple #[.int .i64 0, .int .i64 0, .int .i64 6]) ∧ Below V.heap.size V w'))
    (hP : P.size = hi) (hQ : Q.size = lo) (hT : P.extract 0 lo = T) (hle : (Op.bytesLess Q.toList T.toList || (Q.toList == T.toList)) = true) :
    Calls Try.prog 13 #[.int .i64 n, .int .i64 m] w fun e w' => e = .returned (.bool true) ∧ Below w.heap.size w w' := by
  have HAW := Lib.hid awake_any
  have b0 := Below.refl w.heap.size w
  have HM := Lib.hid hhi
  have HL := Lib.hid hlo
  have HT := Lib.hid hT
  clear hhi hlo hT
  go_enter Try.func13, Try.ntmps13
  go_wp2_with (first
    | (rw [HM.out]) | (rw [HL.out]) | (rw [HT.out])
    | (go_at_call 50; (with_reducible refine (H0.out _).mono ?_); rintro e w1 ⟨rfl, rfl⟩)
    | (go_at_call 50; (with_reducible refine (H1.out _).mono ?_); rintro e w1 ⟨rfl, rfl⟩)
    | (go_at_call 50; (with_reducible refine (H4.out _).mono ?_); rintro e w1 ⟨rfl, rfl⟩)
    | (go_at_call 36; (with_reducible refine (H2.out _).mono ?_); rintro e w1 ⟨rfl, b1⟩; replace b0 := b0.trans (b1.mono b0.size))
    | (go_at_call 36; (with_reducible refine (H3.out _).mono ?_); rintro e w1 ⟨rfl, b1⟩; replace b0 := b0.trans (b1.mono b0.size))
    | (go_at_call 36; (with_reducible refine (H5.out _).mono ?_); rintro e w1 ⟨rfl, b1⟩; replace b0 := b0.trans (b1.mono b0.size))
    | (go_at_call 20; (with_reducible refine (H6.out _).mono ?_); rintro e w1 ⟨rfl, b1⟩; replace b0 := b0.trans (b1.mono b0.size))
    | (go_at_call 24; (with_reducible refine (HAW.out _).mono ?_); rintro e w1 ⟨rfl, b1⟩; replace b0 := b0.trans (b1.mono b0.size)))
  go_ret
  exact ⟨rfl, b0⟩
theorem marksFirst_any (n m : Int) (w : World) :
    Calls Try.prog 13 #[.int .i64 n, .int .i64 m] w fun e w' => e = .returned (.bool true) ∧ Below w.heap.size w w' := by
  have ha := modI_lt n (n := 61) (by decide)
  have H0 : Hid (∀ V, Calls Try.prog 50 #[.int .i64 n, .int .i64 61] V fun e w' => e = .returned (.int .i64 (modI n 61)) ∧ V = w') := Lib.hid (fun V => mod_any n 61 V (by decide) (by decide))
  have hb := modI_lt m (n := 61) (by decide)
  have H1 : Hid (∀ V, Calls Try.prog 50 #[.int .i64 m, .int .i64 61] V fun e w' => e = .returned (.int .i64 (modI m 61)) ∧ V = w') := Lib.hid (fun V => mod_any m 61 V (by decide) (by decide))
  generalize modI n 61 = a at *
  generalize modI m 61 = b at *
  have hc := modI_lt (a : Int) (n := 50) (by decide)
  have H4 : Hid (∀ V, Calls Try.prog 50 #[.int .i64 a, .int .i64 50] V fun e w' => e = .returned (.int .i64 (modI a 50)) ∧ V = w') := Lib.hid (fun V => mod_any a 50 V (by decide) (by decide))
  generalize modI (a : Int) 50 = c at *
  obtain ⟨lo, hi, e1, e2, e3, e4⟩ : ∃ lo hi : Nat, min (a : Int) (b : Int) = lo ∧ max (a : Int) (b : Int) = hi ∧ lo ≤ hi ∧ hi ≤ 60 := by
    rcases Nat.le_total a b with h | h
    · exact ⟨a, b, by omega, by omega, h, by omega⟩
    · exact ⟨b, a, by omega, by omega, h, by omega⟩
  obtain ⟨y, y1, y2, y3, y4⟩ := first3 (n := hi) (by omega)
  obtain ⟨z, z1, z2, z3, z4⟩ := first3 (n := lo) (by omega)
  have hyo : okW y := fun b hb => by have := y4 b hb; omega
  have hzo : okW z := fun b hb => by have := z4 b hb; omega
  have hle := first_le e3 z1 y1
  have H2 : Hid (∀ V, Calls Try.prog 36 #[.int .i64 hi, .int .i64 3] V fun e w' => e = .returned (.tuple #[.string (wS y), .int .i64 0]) ∧ Below V.heap.size V w') := Lib.hid (fun V => by
    have := First_yes hi 3 V (by omega) (by decide) (by decide)
    unfold fiV at this; rw [y1] at this; exact this)
  have H3 : Hid (∀ V, Calls Try.prog 36 #[.int .i64 lo, .int .i64 3] V fun e w' => e = .returned (.tuple #[.string (wS z), .int .i64 0]) ∧ Below V.heap.size V w') := Lib.hid (fun V => by
    have := First_yes lo 3 V (by omega) (by decide) (by decide)
    unfold fiV at this; rw [z1] at this; exact this)
  have H5 : Hid (∀ V, Calls Try.prog 36 #[.int .i64 (4 + (c : Int)), .int .i64 2] V fun e w' => e = .returned (.tuple #[.string ⟨#[]⟩, .int .i64 6]) ∧ Below V.heap.size V w') := Lib.hid (fun V => by
    have := First_yes (4 + c) 2 V (by omega) (by decide) (by decide)
    unfold fiV at this; rw [none2 (n := 4 + c) (by omega)] at this; exact this)
  have H6 : Hid (∀ V, Calls Try.prog 20 #[.string (wS y)] V fun e w' => e = .returned (.tuple #[.int .i64 0, .int .i64 0, .int .i64 6]) ∧ Below V.heap.size V w') := Lib.hid (fun V => by
    have := Square_yes y V hyo (by omega)
    unfold free at y2
    rw [Option.isNone_iff_eq_none.1 y2] at this
    exact this)
  exact marksFirst_walk n m a b c lo hi (wS y) (wS z) (wS (y.take lo)) w ha hb hc H0 H1 e2 e1 e3 e4 H2 H3 H4 H5 H6 (by rw [wS_len, y3]) (by rw [wS_len, z3]) (by rw [wS_extract]; rfl) (lex_bytes hzo (fun b hb => hyo b (List.mem_of_mem_take hb)) hle)
end Go.Proofs.Ytoklnpiehbnalaa
