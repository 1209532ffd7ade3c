/- MarksGrows walked. -/
import Derived.Test.YtoklnpiehbnalaaBL
import Derived.Test.YtoklnpiehbnalaaBF
namespace Go.Proofs.Ytoklnpiehbnalaa
open Go.RowKit Go.PlainAid
set_option maxHeartbeats 2000000
set_option maxRecDepth 100000
/-- How long the word's longest beginning is that has no square. -/
def prefN (x : List Nat) : Nat := ((List.range x.length).find? fun j => !free (x.take (j + 1))).getD x.length
theorem prefN_hit {x : List Nat} {j : Nat} (h : j < x.length) (h1 : free (x.take (j + 1)) = false) (h2 : ∀ i, i < j → free (x.take (i + 1)) = true) : prefN x = j := by
  unfold prefN
  rw [find_range h (by rw [h1]; rfl) (fun i hi => by rw [h2 i hi]; rfl)]; rfl
theorem prefN_all {x : List Nat} (h2 : ∀ i, i < x.length → free (x.take (i + 1)) = true) : prefN x = x.length := by
  unfold prefN
  rw [find_range_none (fun i hi => by rw [h2 i hi]; rfl)]; rfl
theorem least (f : Nat → Bool) : ∀ k, (∃ c, c < k ∧ f c = true ∧ ∀ d, d < c → f d = false) ∨ ∀ d, d < k → f d = false
  | 0 => .inr (fun d h => absurd h (by omega))
  | k + 1 => by
    rcases least f k with ⟨c, h1, h2, h3⟩ | h
    · exact .inl ⟨c, by omega, h2, h3⟩
    · cases hk : f k
      · refine .inr (fun d hd => ?_)
        rcases Nat.lt_or_ge d k with h1 | h1
        · exact h d h1
        · rw [show d = k by omega]; exact hk
      · exact .inl ⟨k, by omega, hk, h⟩
theorem prefN_facts (x : List Nat) : prefN x ≤ x.length ∧ free (x.take (prefN x)) = true ∧ (prefN x < x.length → free x = false) := by
  rcases least (fun j => !free (x.take (j + 1))) x.length with ⟨j, h1, h2, h3⟩ | h
  · have e2 : free (x.take (j + 1)) = false := by simpa using h2
    have e3 : ∀ i, i < j → free (x.take (i + 1)) = true := fun i hi => by simpa using h3 i hi
    rw [prefN_hit h1 e2 e3]
    refine ⟨by omega, ?_, fun _ => ?_⟩
    · cases j with
      | zero => rfl
      | succ j => exact e3 j (by omega)
    · cases hf : free x
      · rfl
      · have := free_take hf (j + 1)
        rw [e2] at this; cases this
  · have e3 : ∀ i, i < x.length → free (x.take (i + 1)) = true := fun i hi => by simpa using h i hi
    rw [prefN_all e3]
    refine ⟨Nat.le_refl _, ?_, fun h => absurd h (by omega)⟩
    cases hl : x.length with
    | zero => rfl
    | succ j => exact e3 j (by omega)
theorem free51_any (x : List Nat) (w : World) (hx : okW x) (hl : x.length ≤ 1000) :
    Calls Try.prog 51 #[.string (wS x)] w fun e w' => e = .returned (.string (wS (x.take (prefN x)))) ∧ Below w.heap.size w w' := by
  have hsz := wS_len x
  have HEX : Hid (∀ j, (wS x).extract 0 j = wS (x.take j)) := Lib.hid (fun j => by rw [wS_extract]; rfl)
  have HFR := Lib.hid (fun j V => refFree_any (x.take (j + 1)) V (fun b hb => hx b (List.mem_of_mem_take hb)) (by rw [List.length_take]; omega))
  have HH := Lib.hid (fun j => prefN_hit (x := x) (j := j))
  have HA := Lib.hid (prefN_all (x := x))
  have b0 := Below.refl w.heap.size w
  have H0 : Hid (∀ i, i < 0 → free (x.take (i + 1)) = true) := Lib.hid (fun i h => absurd h (by omega))
  generalize prefN x = N at *
  generalize hn : x.length = n at *
  go_enter Try.func51, Try.ntmps51
  go_wp2
  go_loopw [3] (fun i wr => ∃ j : Nat, i = .int .i64 j ∧ j ≤ n ∧ Below w.heap.size w wr ∧ Hid (∀ i, i < j → free (x.take (i + 1)) = true)) (fun i _ => n - (intOf i).toNat)
  case atStart => exact ⟨0, rfl, by omega, b0, H0⟩
  case round =>
    clear b0 H0
    obtain ⟨j, rfl, hj, b0, HQ⟩ := hrel
    have hex1 := HEX.out j
    by_cases hlt : j < n
    · have g1 : decide (j < n) = true := decide_eq_true hlt
      have hex := HEX.out (j + 1)
      have HF1 := Lib.hid (HFR.out j)
      have HH1 := Lib.hid (HH.out j hlt)
      clear HFR HH HA HEX
      generalize hu : wS (x.take (j + 1)) = u at *
      clear hu
      cases hb : free (x.take (j + 1))
      · rw [hb] at HF1
        have HN := Lib.hid (HH1.out hb HQ.out)
        clear hb HH1 HQ
        go_wp2_with (go_at_call 53; (with_reducible refine (HF1.out _).mono ?_); rintro e w3 ⟨rfl, b3⟩; replace b0 := b0.trans (b3.mono b0.size))
        go_ret
        exact ⟨by rw [HN.out]; rfl, b0⟩
      · rw [hb] at HF1
        have HQ2 : Hid (∀ i, i < j + 1 → free (x.take (i + 1)) = true) := Lib.hid (fun d h => by
          rcases Nat.lt_or_ge d j with h1 | h1
          · exact HQ.out d h1
          · rw [show d = j by omega]; exact hb)
        clear hb HH1 HQ
        go_wp2_with (go_at_call 53; (with_reducible refine (HF1.out _).mono ?_); rintro e w3 ⟨rfl, b3⟩; replace b0 := b0.trans (b3.mono b0.size))
        go_roundw
        case rel => exact ⟨j + 1, by go_num, by omega, b0, HQ2⟩
        case measure => simp [intOf]; omega
    · obtain rfl : j = n := by omega
      have g1 : decide (j < j) = false := decide_eq_false (by omega)
      have HN := Lib.hid (HA.out HQ.out)
      clear HFR HH HA HEX HQ
      go_wp2
      go_ret
      exact ⟨by rw [HN.out]; rfl, b0⟩
theorem marksGrows_y1 (s t p y : ByteArray) (n : Int) (m c : Nat) (a q : Int) (U : Nat → ByteArray) (A P : Nat → Int) (w : World) (hm : m < 4) (hc : c ≤ 4) (hpl : p.size ≤ 100) (_htl : t.size ≤ 100) (hpt : p.size < t.size)
    (H0 : Hid (∀ V, Calls Try.prog 50 #[.int .i64 n, .int .i64 4] V fun e w' => e = .returned (.int .i64 m) ∧ V = w'))
    (H1 : Hid (∀ V, Calls Try.prog 48 #[.string s, .int .i64 80, .int .i64 (1 + (m : Int))] V fun e w' => e = .returned (.string t) ∧ Below V.heap.size V w'))
    (H2 : Hid (∀ V, Calls Try.prog 51 #[.string t] V fun e w' => e = .returned (.string p) ∧ Below V.heap.size V w'))
    (H3 : Hid (∀ V, Calls Try.prog 33 #[.string p, .int .i64 (1 + (m : Int))] V fun e w' => e = .returned (.tuple #[.string y, .int .i64 0]) ∧ Below V.heap.size V w'))
    (H4 : Hid (∀ V, Calls Try.prog 33 #[.string t, .int .i64 (1 + (m : Int))] V fun e w' => e = .returned (.tuple #[.string ⟨#[]⟩, .int .i64 6]) ∧ Below V.heap.size V w'))
    (hys : y.size = p.size + 1) (hyp : y.extract 0 p.size = p) (hyb : bt y p.size = 97 + (c : Int))
    (H5 : Hid (∀ V, Calls Try.prog 44 #[.string y, .int .i64 (1 + (m : Int))] V fun e w' => e = .returned (.bool true) ∧ V = w'))
    (H6 : Hid (∀ V, Calls Try.prog 20 #[.string y] V fun e w' => e = .returned (.tuple #[.int .i64 a, .int .i64 q, .int .i64 6]) ∧ Below V.heap.size V w'))
    (HS : Hid (∀ j, j < c → ∀ V, Calls Try.prog 20 #[.string (U j)] V fun e w' => e = .returned (.tuple #[.int .i64 (A j), .int .i64 (P j), .int .i64 0]) ∧ Below V.heap.size V w'))
    (HAD : Hid (∀ j, j < c → ∀ w, (Op.stringOp .add p (wS [j])).run Try.prog w = .ok (.string (U j)) w)) :
    Calls Try.prog 12 #[.string s, .int .i64 n] w fun e w' => e = .returned (.bool true) ∧ Below w.heap.size w w' := by
  have HAW := Lib.hid awake_any
  have b0 := Below.refl w.heap.size w
  have hbj := get_bt y p.size (by rw [hys]; exact Nat.lt_succ_self _)
  rw [hyb] at hbj
  have HPP := Lib.hid hyp
  clear hyb hyp
  have hwc : IntKind.u8.wrap (97 + (c : Int)) = 97 + c := by simp [IntKind.wrap, IntKind.bits, IntKind.signed]; omega
  have hwd : (97 + (c : Int)) % 256 = 97 + c := by omega
  have hwe : (c : Int) % 256 = c := by omega
  go_enter Try.func12, Try.ntmps12
  go_wp2_with (first
    | (go_at_call 50; (with_reducible refine (H0.out _).mono ?_); rintro e w1 ⟨rfl, rfl⟩)
    | (go_at_call 48; (with_reducible refine (H1.out _).mono ?_); rintro e w1 ⟨rfl, b1⟩; replace b0 := b0.trans (b1.mono b0.size))
    | (go_at_call 51; (with_reducible refine (H2.out _).mono ?_); rintro e w2 ⟨rfl, b2⟩; replace b0 := b0.trans (b2.mono b0.size))
    | (go_at_call 33; (with_reducible refine (H3.out _).mono ?_); rintro e w3 ⟨rfl, b3⟩; replace b0 := b0.trans (b3.mono b0.size))
    | (go_at_call 33; (with_reducible refine (H4.out _).mono ?_); rintro e w4 ⟨rfl, b4⟩; replace b0 := b0.trans (b4.mono b0.size))
    | (rw [HPP.out])
    | (go_at_call 44; (with_reducible refine (H5.out _).mono ?_); rintro e w5 ⟨rfl, rfl⟩)
    | (go_at_call 20; (with_reducible refine (H6.out _).mono ?_); rintro e w6 ⟨rfl, b6⟩; replace b0 := b0.trans (b6.mono b0.size))
    | fail)
  go_loopw [15] (fun i wr => ∃ j : Nat, i = .int .i64 j ∧ j ≤ c ∧ Below w.heap.size w wr) (fun i _ => c - (intOf i).toNat)
  case atStart => exact ⟨0, rfl, by omega, b0⟩
  case round =>
    clear b0
    obtain ⟨j, rfl, hj, b0⟩ := hrel
    clear H0 H1 H2 H3 H5 H6 HPP hbj H4
    by_cases hlt : j < c
    · have g1 : decide ((j : Int) < (c : Int)) = true := decide_eq_true (by omega)
      have hadd := HAD.out j hlt
      have HS1 := Lib.hid (HS.out j hlt)
      have hw1 : IntKind.u8.wrap (97 + (j : Int)) = 97 + j := by simp [IntKind.wrap, IntKind.bits, IntKind.signed]; omega
      have hw2 : (97 + (j : Int)) % 256 = 97 + j := by omega
      have hcv : (convert 71 9 (.slice (some ⟨wr.heap.size, 0, none⟩) 1 1)).run Try.prog (wr.alloc (.cells #[.int .u8 (97 + (j : Int))] 5)) = .ok (.string (wS [j])) (wr.alloc (.cells #[.int .u8 (97 + (j : Int))] 5)) := conv_one (row_new rfl)
      have b1 := b0.alloc b0.size (.cells #[.int .u8 (97 + (j : Int))] 5)
      generalize wS [j] = v at *
      generalize U j = u at *
      clear HS HAD
      go_wp2_with (go_at_call 20; (with_reducible refine (HS1.out _).mono ?_); rintro e w7 ⟨rfl, b3⟩; replace b0 := b1.trans (b3.mono b1.size))
      go_roundw
      case rel => exact ⟨j + 1, by go_num, by omega, b0⟩
      case measure => simp [intOf]; omega
    · obtain rfl : j = c := by omega
      have g1 : decide ((j : Int) < (j : Int)) = false := decide_eq_false (by omega)
      go_wp2_with (go_at_call 24; (with_reducible refine (HAW.out _).mono ?_); rintro e w9 ⟨rfl, b5⟩; replace b0 := b0.trans (b5.mono b0.size))
      go_ret
      exact ⟨rfl, b0⟩
theorem marksGrows_y0 (s t p y : ByteArray) (n : Int) (m c : Nat) (a q : Int) (U : Nat → ByteArray) (A P : Nat → Int) (w : World) (hm : m < 4) (hc : c ≤ 4) (hpl : p.size ≤ 100) (_htl : t.size ≤ 100) (hpt : p.size = t.size)
    (H0 : Hid (∀ V, Calls Try.prog 50 #[.int .i64 n, .int .i64 4] V fun e w' => e = .returned (.int .i64 m) ∧ V = w'))
    (H1 : Hid (∀ V, Calls Try.prog 48 #[.string s, .int .i64 80, .int .i64 (1 + (m : Int))] V fun e w' => e = .returned (.string t) ∧ Below V.heap.size V w'))
    (H2 : Hid (∀ V, Calls Try.prog 51 #[.string t] V fun e w' => e = .returned (.string p) ∧ Below V.heap.size V w'))
    (H3 : Hid (∀ V, Calls Try.prog 33 #[.string p, .int .i64 (1 + (m : Int))] V fun e w' => e = .returned (.tuple #[.string y, .int .i64 0]) ∧ Below V.heap.size V w'))
    (hys : y.size = p.size + 1) (hyp : y.extract 0 p.size = p) (hyb : bt y p.size = 97 + (c : Int))
    (H5 : Hid (∀ V, Calls Try.prog 44 #[.string y, .int .i64 (1 + (m : Int))] V fun e w' => e = .returned (.bool true) ∧ V = w'))
    (H6 : Hid (∀ V, Calls Try.prog 20 #[.string y] V fun e w' => e = .returned (.tuple #[.int .i64 a, .int .i64 q, .int .i64 6]) ∧ Below V.heap.size V w'))
    (HS : Hid (∀ j, j < c → ∀ V, Calls Try.prog 20 #[.string (U j)] V fun e w' => e = .returned (.tuple #[.int .i64 (A j), .int .i64 (P j), .int .i64 0]) ∧ Below V.heap.size V w'))
    (HAD : Hid (∀ j, j < c → ∀ w, (Op.stringOp .add p (wS [j])).run Try.prog w = .ok (.string (U j)) w)) :
    Calls Try.prog 12 #[.string s, .int .i64 n] w fun e w' => e = .returned (.bool true) ∧ Below w.heap.size w w' := by
  have HAW := Lib.hid awake_any
  have b0 := Below.refl w.heap.size w
  have hbj := get_bt y p.size (by rw [hys]; exact Nat.lt_succ_self _)
  rw [hyb] at hbj
  have HPP := Lib.hid hyp
  clear hyb hyp
  have hwc : IntKind.u8.wrap (97 + (c : Int)) = 97 + c := by simp [IntKind.wrap, IntKind.bits, IntKind.signed]; omega
  have hwd : (97 + (c : Int)) % 256 = 97 + c := by omega
  have hwe : (c : Int) % 256 = c := by omega
  have hgt : decide ((p.size : Int) < t.size) = false := decide_eq_false (by omega)
  have hgn : decide (p.size < t.size) = false := decide_eq_false (by omega)
  clear hpt
  go_enter Try.func12, Try.ntmps12
  go_wp2_with (first
    | (go_at_call 50; (with_reducible refine (H0.out _).mono ?_); rintro e w1 ⟨rfl, rfl⟩)
    | (go_at_call 48; (with_reducible refine (H1.out _).mono ?_); rintro e w1 ⟨rfl, b1⟩; replace b0 := b0.trans (b1.mono b0.size))
    | (go_at_call 51; (with_reducible refine (H2.out _).mono ?_); rintro e w2 ⟨rfl, b2⟩; replace b0 := b0.trans (b2.mono b0.size))
    | (go_at_call 33; (with_reducible refine (H3.out _).mono ?_); rintro e w3 ⟨rfl, b3⟩; replace b0 := b0.trans (b3.mono b0.size))
    | (rw [HPP.out])
    | (go_at_call 44; (with_reducible refine (H5.out _).mono ?_); rintro e w5 ⟨rfl, rfl⟩)
    | (go_at_call 20; (with_reducible refine (H6.out _).mono ?_); rintro e w6 ⟨rfl, b6⟩; replace b0 := b0.trans (b6.mono b0.size))
    | fail)
  go_loopw [15] (fun i wr => ∃ j : Nat, i = .int .i64 j ∧ j ≤ c ∧ Below w.heap.size w wr) (fun i _ => c - (intOf i).toNat)
  case atStart => exact ⟨0, rfl, by omega, b0⟩
  case round =>
    clear b0
    obtain ⟨j, rfl, hj, b0⟩ := hrel
    clear H0 H1 H2 H3 H5 H6 HPP hbj 
    by_cases hlt : j < c
    · have g1 : decide ((j : Int) < (c : Int)) = true := decide_eq_true (by omega)
      have hadd := HAD.out j hlt
      have HS1 := Lib.hid (HS.out j hlt)
      have hw1 : IntKind.u8.wrap (97 + (j : Int)) = 97 + j := by simp [IntKind.wrap, IntKind.bits, IntKind.signed]; omega
      have hw2 : (97 + (j : Int)) % 256 = 97 + j := by omega
      have hcv : (convert 71 9 (.slice (some ⟨wr.heap.size, 0, none⟩) 1 1)).run Try.prog (wr.alloc (.cells #[.int .u8 (97 + (j : Int))] 5)) = .ok (.string (wS [j])) (wr.alloc (.cells #[.int .u8 (97 + (j : Int))] 5)) := conv_one (row_new rfl)
      have b1 := b0.alloc b0.size (.cells #[.int .u8 (97 + (j : Int))] 5)
      generalize wS [j] = v at *
      generalize U j = u at *
      clear HS HAD
      go_wp2_with (go_at_call 20; (with_reducible refine (HS1.out _).mono ?_); rintro e w7 ⟨rfl, b3⟩; replace b0 := b1.trans (b3.mono b1.size))
      go_roundw
      case rel => exact ⟨j + 1, by go_num, by omega, b0⟩
      case measure => simp [intOf]; omega
    · obtain rfl : j = c := by omega
      have g1 : decide ((j : Int) < (j : Int)) = false := decide_eq_false (by omega)
      go_wp2_with (go_at_call 24; (with_reducible refine (HAW.out _).mono ?_); rintro e w9 ⟨rfl, b5⟩; replace b0 := b0.trans (b5.mono b0.size))
      go_ret
      exact ⟨rfl, b0⟩
theorem marksGrows_n1 (s t p _y : ByteArray) (n : Int) (m c : Nat)  (U : Nat → ByteArray) (A P : Nat → Int) (w : World) (hm : m < 4) (_hc : c ≤ 4) (_hpl : p.size ≤ 100) (_htl : t.size ≤ 100) (hpt : p.size < t.size)
    (H0 : Hid (∀ V, Calls Try.prog 50 #[.int .i64 n, .int .i64 4] V fun e w' => e = .returned (.int .i64 m) ∧ V = w'))
    (H1 : Hid (∀ V, Calls Try.prog 48 #[.string s, .int .i64 80, .int .i64 (1 + (m : Int))] V fun e w' => e = .returned (.string t) ∧ Below V.heap.size V w'))
    (H2 : Hid (∀ V, Calls Try.prog 51 #[.string t] V fun e w' => e = .returned (.string p) ∧ Below V.heap.size V w'))
    (H3 : Hid (∀ V, Calls Try.prog 33 #[.string p, .int .i64 (1 + (m : Int))] V fun e w' => e = .returned (.tuple #[.string ⟨#[]⟩, .int .i64 6]) ∧ Below V.heap.size V w'))
    (H4 : Hid (∀ V, Calls Try.prog 33 #[.string t, .int .i64 (1 + (m : Int))] V fun e w' => e = .returned (.tuple #[.string ⟨#[]⟩, .int .i64 6]) ∧ Below V.heap.size V w'))
    (HS : Hid (∀ j, j < (1 + m) → ∀ V, Calls Try.prog 20 #[.string (U j)] V fun e w' => e = .returned (.tuple #[.int .i64 (A j), .int .i64 (P j), .int .i64 0]) ∧ Below V.heap.size V w'))
    (HAD : Hid (∀ j, j < (1 + m) → ∀ w, (Op.stringOp .add p (wS [j])).run Try.prog w = .ok (.string (U j)) w)) :
    Calls Try.prog 12 #[.string s, .int .i64 n] w fun e w' => e = .returned (.bool true) ∧ Below w.heap.size w w' := by
  have HAW := Lib.hid awake_any
  have b0 := Below.refl w.heap.size w
  skip
  go_enter Try.func12, Try.ntmps12
  go_wp2_with (first
    | (go_at_call 50; (with_reducible refine (H0.out _).mono ?_); rintro e w1 ⟨rfl, rfl⟩)
    | (go_at_call 48; (with_reducible refine (H1.out _).mono ?_); rintro e w1 ⟨rfl, b1⟩; replace b0 := b0.trans (b1.mono b0.size))
    | (go_at_call 51; (with_reducible refine (H2.out _).mono ?_); rintro e w2 ⟨rfl, b2⟩; replace b0 := b0.trans (b2.mono b0.size))
    | (go_at_call 33; (with_reducible refine (H3.out _).mono ?_); rintro e w3 ⟨rfl, b3⟩; replace b0 := b0.trans (b3.mono b0.size))
    | (go_at_call 33; (with_reducible refine (H4.out _).mono ?_); rintro e w4 ⟨rfl, b4⟩; replace b0 := b0.trans (b4.mono b0.size))
    | fail)
  go_loopw [15] (fun i wr => ∃ j : Nat, i = .int .i64 j ∧ j ≤ (1 + m) ∧ Below w.heap.size w wr) (fun i _ => (1 + m) - (intOf i).toNat)
  case atStart => exact ⟨0, rfl, by omega, b0⟩
  case round =>
    clear b0
    obtain ⟨j, rfl, hj, b0⟩ := hrel
    clear H0 H1 H2 H3 H4
    by_cases hlt : j < (1 + m)
    · have g1 : decide ((j : Int) < 1 + (m : Int)) = true := decide_eq_true (by omega)
      have hadd := HAD.out j hlt
      have HS1 := Lib.hid (HS.out j hlt)
      have hw1 : IntKind.u8.wrap (97 + (j : Int)) = 97 + j := by simp [IntKind.wrap, IntKind.bits, IntKind.signed]; omega
      have hw2 : (97 + (j : Int)) % 256 = 97 + j := by omega
      have hcv : (convert 71 9 (.slice (some ⟨wr.heap.size, 0, none⟩) 1 1)).run Try.prog (wr.alloc (.cells #[.int .u8 (97 + (j : Int))] 5)) = .ok (.string (wS [j])) (wr.alloc (.cells #[.int .u8 (97 + (j : Int))] 5)) := conv_one (row_new rfl)
      have b1 := b0.alloc b0.size (.cells #[.int .u8 (97 + (j : Int))] 5)
      generalize wS [j] = v at *
      generalize U j = u at *
      clear HS HAD
      go_wp2_with (go_at_call 20; (with_reducible refine (HS1.out _).mono ?_); rintro e w7 ⟨rfl, b3⟩; replace b0 := b1.trans (b3.mono b1.size))
      go_roundw
      case rel => exact ⟨j + 1, by go_num, by omega, b0⟩
      case measure => simp [intOf]; omega
    · obtain rfl : j = (1 + m) := by omega
      have g1 : decide (((1 + m : Nat) : Int) < 1 + (m : Int)) = false := decide_eq_false (by omega)
      go_wp2_with (go_at_call 24; (with_reducible refine (HAW.out _).mono ?_); rintro e w9 ⟨rfl, b5⟩; replace b0 := b0.trans (b5.mono b0.size))
      go_ret
      exact ⟨rfl, b0⟩
theorem marksGrows_n0 (s t p _y : ByteArray) (n : Int) (m c : Nat)  (U : Nat → ByteArray) (A P : Nat → Int) (w : World) (hm : m < 4) (_hc : c ≤ 4) (_hpl : p.size ≤ 100) (_htl : t.size ≤ 100) (hpt : p.size = t.size)
    (H0 : Hid (∀ V, Calls Try.prog 50 #[.int .i64 n, .int .i64 4] V fun e w' => e = .returned (.int .i64 m) ∧ V = w'))
    (H1 : Hid (∀ V, Calls Try.prog 48 #[.string s, .int .i64 80, .int .i64 (1 + (m : Int))] V fun e w' => e = .returned (.string t) ∧ Below V.heap.size V w'))
    (H2 : Hid (∀ V, Calls Try.prog 51 #[.string t] V fun e w' => e = .returned (.string p) ∧ Below V.heap.size V w'))
    (H3 : Hid (∀ V, Calls Try.prog 33 #[.string p, .int .i64 (1 + (m : Int))] V fun e w' => e = .returned (.tuple #[.string ⟨#[]⟩, .int .i64 6]) ∧ Below V.heap.size V w'))
    (HS : Hid (∀ j, j < (1 + m) → ∀ V, Calls Try.prog 20 #[.string (U j)] V fun e w' => e = .returned (.tuple #[.int .i64 (A j), .int .i64 (P j), .int .i64 0]) ∧ Below V.heap.size V w'))
    (HAD : Hid (∀ j, j < (1 + m) → ∀ w, (Op.stringOp .add p (wS [j])).run Try.prog w = .ok (.string (U j)) w)) :
    Calls Try.prog 12 #[.string s, .int .i64 n] w fun e w' => e = .returned (.bool true) ∧ Below w.heap.size w w' := by
  have HAW := Lib.hid awake_any
  have b0 := Below.refl w.heap.size w
  skip
  go_enter Try.func12, Try.ntmps12
  go_wp2_with (first
    | (go_at_call 50; (with_reducible refine (H0.out _).mono ?_); rintro e w1 ⟨rfl, rfl⟩)
    | (go_at_call 48; (with_reducible refine (H1.out _).mono ?_); rintro e w1 ⟨rfl, b1⟩; replace b0 := b0.trans (b1.mono b0.size))
    | (go_at_call 51; (with_reducible refine (H2.out _).mono ?_); rintro e w2 ⟨rfl, b2⟩; replace b0 := b0.trans (b2.mono b0.size))
    | (go_at_call 33; (with_reducible refine (H3.out _).mono ?_); rintro e w3 ⟨rfl, b3⟩; replace b0 := b0.trans (b3.mono b0.size))
    | fail)
  go_loopw [15] (fun i wr => ∃ j : Nat, i = .int .i64 j ∧ j ≤ (1 + m) ∧ Below w.heap.size w wr) (fun i _ => (1 + m) - (intOf i).toNat)
  case atStart => exact ⟨0, rfl, by omega, b0⟩
  case round =>
    clear b0
    obtain ⟨j, rfl, hj, b0⟩ := hrel
    clear H0 H1 H2 H3 
    by_cases hlt : j < (1 + m)
    · have g1 : decide ((j : Int) < 1 + (m : Int)) = true := decide_eq_true (by omega)
      have hadd := HAD.out j hlt
      have HS1 := Lib.hid (HS.out j hlt)
      have hw1 : IntKind.u8.wrap (97 + (j : Int)) = 97 + j := by simp [IntKind.wrap, IntKind.bits, IntKind.signed]; omega
      have hw2 : (97 + (j : Int)) % 256 = 97 + j := by omega
      have hcv : (convert 71 9 (.slice (some ⟨wr.heap.size, 0, none⟩) 1 1)).run Try.prog (wr.alloc (.cells #[.int .u8 (97 + (j : Int))] 5)) = .ok (.string (wS [j])) (wr.alloc (.cells #[.int .u8 (97 + (j : Int))] 5)) := conv_one (row_new rfl)
      have b1 := b0.alloc b0.size (.cells #[.int .u8 (97 + (j : Int))] 5)
      generalize wS [j] = v at *
      generalize U j = u at *
      clear HS HAD
      go_wp2_with (go_at_call 20; (with_reducible refine (HS1.out _).mono ?_); rintro e w7 ⟨rfl, b3⟩; replace b0 := b1.trans (b3.mono b1.size))
      go_roundw
      case rel => exact ⟨j + 1, by go_num, by omega, b0⟩
      case measure => simp [intOf]; omega
    · obtain rfl : j = (1 + m) := by omega
      have g1 : decide (((1 + m : Nat) : Int) < 1 + (m : Int)) = false := decide_eq_false (by omega)
      go_wp2_with (go_at_call 24; (with_reducible refine (HAW.out _).mono ?_); rintro e w9 ⟨rfl, b5⟩; replace b0 := b0.trans (b5.mono b0.size))
      go_ret
      exact ⟨rfl, b0⟩
theorem lettersK {x : List Nat} {k : Nat} (h : ∀ b, b ∈ x → b < k) (hk : k ≤ 4) : ltK k (wS x) = true := by
  rw [ltK_iff]
  intro i hi
  rw [wS_len] at hi
  have hm : x.getD i 0 ∈ x := by
    rw [List.getD_eq_getElem?_getD, List.getElem?_eq_getElem hi]
    exact List.getElem_mem hi
  have h2 := h _ hm
  rw [bt_wS (fun b hb => by have := h b hb; omega) hi]
  omega
theorem some_square {x : List Nat} (h : free x = false) : ∃ a q, sqS x = some (a, q) := by
  unfold free at h
  cases hh : sqS x with
  | none => rw [hh] at h; cases h
  | some z => exact ⟨z.1, z.2, rfl⟩
theorem exF_of_bad {x : List Nat} {k : Nat} (h : free x = false) : exF x k = none := exF_no (fun d _ => by
  cases hf : free (x ++ [d])
  · rfl
  · have := free_take hf x.length
    rw [List.take_append_of_le_length (Nat.le_refl _), List.take_length, h] at this
    cases this)
def sqA (x : List Nat) : Int := match sqS x with
  | some (a, _) => a
  | none => 0
def sqQ (x : List Nat) : Int := match sqS x with
  | some (_, i) => ((i + 1 : Nat) : Int)
  | none => 0
theorem frV_bad {x : List Nat} (h : free x = false) : frV (sqS x) = .tuple #[.int .i64 (sqA x), .int .i64 (sqQ x), .int .i64 0] := by
  obtain ⟨a, q, hh⟩ := some_square h
  unfold sqA sqQ
  rw [hh]; rfl
theorem frV_free {x : List Nat} (h : free x = true) : frV (sqS x) = .tuple #[.int .i64 0, .int .i64 0, .int .i64 6] := by
  unfold free at h
  rw [Option.isNone_iff_eq_none.1 h]; rfl
theorem marksGrows_any (s : ByteArray) (n : Int) (w : World) (hs : s.size ≤ maxLen) :
    Calls Try.prog 12 #[.string s, .int .i64 n] w fun e w' => e = .returned (.bool true) ∧ Below w.heap.size w w' := by
  unfold maxLen at hs
  have hm := modI_lt n (n := 4) (by decide)
  have H0 : Hid (∀ V, Calls Try.prog 50 #[.int .i64 n, .int .i64 4] V fun e w' => e = .returned (.int .i64 (modI n 4)) ∧ V = w') := Lib.hid (fun V => mod_any n 4 V (by decide) (by decide))
  generalize modI n 4 = m at *
  obtain ⟨X, hX⟩ : ∃ X, tmW (1 + m) 80 s = X := ⟨_, rfl⟩
  have hl := tmW_len (1 + m) 80 s
  have hk0 : ∀ b, b ∈ X → b < 1 + m := hX ▸ tmW_ok (by omega) 80 s
  rw [hX] at hl
  have hok : okW X := fun b hb => by have := hk0 b hb; omega
  have H1 : Hid (∀ V, Calls Try.prog 48 #[.string s, .int .i64 80, .int .i64 (1 + (m : Int))] V fun e w' => e = .returned (.string (wS X)) ∧ Below V.heap.size V w') := Lib.hid (fun V => by rw [← hX]; exact tame_any (1 + m) 80 s V (by omega) (by omega) (by omega) (by decide))
  clear hX
  have H2 := Lib.hid (fun V => free51_any X V hok (by omega))
  obtain ⟨f1, f2, f3⟩ := prefN_facts X
  generalize prefN X = N at *
  have hPk : ∀ b, b ∈ X.take N → b < 1 + m := fun b hb => hk0 b (List.mem_of_mem_take hb)
  have hPl : (X.take N).length = N := by rw [List.length_take]; omega
  generalize hP : X.take N = p at *
  have hpo : okW p := fun b hb => by have := hPk b hb; omega
  have H3 : Hid (∀ V, Calls Try.prog 33 #[.string (wS p), .int .i64 (1 + (m : Int))] V fun e w' => e = .returned (exV p (exF p (1 + m))) ∧ Below V.heap.size V w') := Lib.hid (fun V => Extend_yes p (1 + m) V hpo (by omega) (by omega) (by omega))
  have HAD : Hid (∀ j, ∀ w, (Op.stringOp .add (wS p) (wS [j])).run Try.prog w = .ok (.string (wS (p ++ [j]))) w) := Lib.hid (fun j w => by
    rw [← wS_app]
    exact run_string_add_sum w _ _ (by rw [wS_len, wS_len]; simp; omega))
  have H4 : Hid (N < X.length → ∀ V, Calls Try.prog 33 #[.string (wS X), .int .i64 (1 + (m : Int))] V fun e w' => e = .returned (.tuple #[.string ⟨#[]⟩, .int .i64 6]) ∧ Below V.heap.size V w') := Lib.hid (fun h V => by
    have := Extend_yes X (1 + m) V hok (by omega) (by omega) (by omega)
    rw [exF_of_bad (f3 h)] at this
    exact this)
  have HSQ : Hid (∀ j, j < 1 + m → ∀ V, Calls Try.prog 20 #[.string (wS (p ++ [j]))] V fun e w' => e = .returned (frV (sqS (p ++ [j]))) ∧ Below V.heap.size V w') := Lib.hid (fun j hj V => Square_yes (p ++ [j]) V (okW_snoc hpo (by omega)) (by simp; omega))
  have hps : (wS p).size = N := by rw [wS_len, hPl]
  have hts : (wS X).size = X.length := wS_len X
  rcases least (fun c => free (p ++ [c])) (1 + m) with ⟨c, h1, h2, h3⟩ | h
  · rw [exF_hit h1 h2 h3] at H3
    have hys : (wS (p ++ [c])).size = (wS p).size + 1 := by rw [wS_len, wS_len]; simp
    have hyp : (wS (p ++ [c])).extract 0 (wS p).size = wS p := by rw [wS_extract, hps]; congr 1; simp [sub, ← hPl]
    have hyb : bt (wS (p ++ [c])) (wS p).size = 97 + (c : Int) := by
      rw [hps, bt_wS (okW_snoc hpo (by omega)) (by simp; omega)]
      congr 2
      simp [← hPl]
    have H5 : Hid (∀ V, Calls Try.prog 44 #[.string (wS (p ++ [c])), .int .i64 (1 + (m : Int))] V fun e w' => e = .returned (.bool true) ∧ V = w') := Lib.hid (fun V => by
      have := refLetters_any (wS (p ++ [c])) (1 + m) V (by rw [hys]; omega) (by omega)
      rw [lettersK (k := 1 + m) (fun b hb => by
        rcases List.mem_append.1 hb with h | h
        · exact hPk b h
        · have : b = c := by simpa using h
          omega) (by omega)] at this
      exact this)
    have H6 := Lib.hid (HSQ.out c h1)
    rw [frV_free h2] at H6
    have HS : Hid (∀ j, j < c → ∀ V, Calls Try.prog 20 #[.string (wS (p ++ [j]))] V fun e w' => e = .returned (.tuple #[.int .i64 (sqA (p ++ [j])), .int .i64 (sqQ (p ++ [j])), .int .i64 0]) ∧ Below V.heap.size V w') := Lib.hid (fun j hj V => by
      have := HSQ.out j (by omega) V
      rw [frV_bad (h3 j hj)] at this
      exact this)
    rcases Nat.lt_or_ge N X.length with hlt | hge
    · exact marksGrows_y1 s (wS X) (wS p) (wS (p ++ [c])) n m c 0 0 (fun j => wS (p ++ [j])) (fun j => sqA (p ++ [j])) (fun j => sqQ (p ++ [j])) w (by omega) (by omega) (by omega) (by omega) (by omega) H0 H1 H2 H3 (Lib.hid (H4.out hlt)) hys hyp hyb H5 H6 HS (Lib.hid (fun j _ => HAD.out j))
    · exact marksGrows_y0 s (wS X) (wS p) (wS (p ++ [c])) n m c 0 0 (fun j => wS (p ++ [j])) (fun j => sqA (p ++ [j])) (fun j => sqQ (p ++ [j])) w (by omega) (by omega) (by omega) (by omega) (by omega) H0 H1 H2 H3 hys hyp hyb H5 H6 HS (Lib.hid (fun j _ => HAD.out j))
  · rw [exF_no h] at H3
    have HS : Hid (∀ j, j < 1 + m → ∀ V, Calls Try.prog 20 #[.string (wS (p ++ [j]))] V fun e w' => e = .returned (.tuple #[.int .i64 (sqA (p ++ [j])), .int .i64 (sqQ (p ++ [j])), .int .i64 0]) ∧ Below V.heap.size V w') := Lib.hid (fun j hj V => by
      have := HSQ.out j (by omega) V
      rw [frV_bad (h j hj)] at this
      exact this)
    rcases Nat.lt_or_ge N X.length with hlt | hge
    · exact marksGrows_n1 s (wS X) (wS p) (wS p) n m 0 (fun j => wS (p ++ [j])) (fun j => sqA (p ++ [j])) (fun j => sqQ (p ++ [j])) w (by omega) (by omega) (by omega) (by omega) (by omega) H0 H1 H2 H3 (Lib.hid (H4.out hlt)) HS (Lib.hid (fun j _ => HAD.out j))
    · exact marksGrows_n0 s (wS X) (wS p) (wS p) n m 0 (fun j => wS (p ++ [j])) (fun j => sqA (p ++ [j])) (fun j => sqQ (p ++ [j])) w (by omega) (by omega) (by omega) (by omega) (by omega) H0 H1 H2 H3 HS (Lib.hid (fun j _ => HAD.out j))
end Go.Proofs.Ytoklnpiehbnalaa
