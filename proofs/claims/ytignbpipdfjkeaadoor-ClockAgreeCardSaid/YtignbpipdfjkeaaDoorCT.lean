/- ClockAgree walked, for every input. -/
import Derived.Test.YtignbpipdfjkeaaDoorCS
import Derived.Test.YtignbpipdfjkeaaDoorBF
/- ClockAgree walked. -/
namespace Go.Proofs.YtignbpipdfjkeaaDoor
open Go.RowKit Go.PlainAid
set_option maxHeartbeats 4000000
set_option maxRecDepth 100000
theorem cag_no (A : Option Addr) (m c n rk F t : Nat) (w : World) (M : List (List Int)) (RS W G : ByteArray) (RQ RE GE : Int) (P : List Int)
    (HT : Hid (Calls Tryd.prog 44 #[.slice A m c] w (TabM w M))) (hn : nS M = n) (hk1 : 1 ≤ M.length) (_hn9 : n ≤ 9)
    (HAW : Hid (∀ V, Below w.heap.size w V → Calls Tryd.prog 22 #[] V fun e w' => e = .returned (.bool true) ∧ Below V.heap.size V w'))
    (H1 : Hid (∀ V A c, Below w.heap.size w V → RowsAt V A M → Calls Tryd.prog 17 #[.slice A M.length c] V fun e w' => e = .returned (.tuple #[.string RS, .int .i64 RQ, .int .i64 RE]) ∧ Below V.heap.size V w'))
    (H2 : Hid (∀ V A c, Below w.heap.size w V → RowsAt V A M → Calls Tryd.prog 18 #[.slice A M.length c] V fun e w' => e = .returned (.tuple #[.int .i64 (rk : Nat), .string W, .int .i64 0]) ∧ Below V.heap.size V w'))
    (H3 : Hid (∀ V A c, Below w.heap.size w V → RowsAt V A M → Calls Tryd.prog 19 #[.slice A M.length c] V (LstER V P 0)))
    (H4 : Hid (∀ V A c, Below w.heap.size w V → RowsAt V A M → Calls Tryd.prog 20 #[.slice A M.length c] V fun e w' => e = .returned (.tuple #[.string G, .int .i64 GE]) ∧ Below V.heap.size V w'))
    (H6 : Hid (∀ V A c, RowsAt V A M → Calls Tryd.prog 24 #[.slice A M.length c] V fun e w' => e = .returned (.int .i64 (F : Nat)) ∧ V = w'))
    (HW1 : Hid (∀ V A c, Calls Tryd.prog 34 #[.slice A M.length c, .string W] V fun e w' => e = .returned (.bool true) ∧ V = w'))
    (_hrk1 : 1 ≤ rk) (hrkn : rk ≤ n)
    (HIw : Hid (∀ V A c, RowsAt V A M → Calls Tryd.prog 35 #[.slice A M.length c, .int .i64 (F : Nat), .string W] V fun e w' => e = .returned (.int .i64 (t : Nat)) ∧ Below V.heap.size V w'))
    (HZ : Hid (∀ V, Calls Tryd.prog 45 #[.int .i64 (t : Nat)] V fun e w' => e = .returned (.int .i64 (rk : Nat)) ∧ Below V.heap.size V w'))
    (hrk : 1 < rk) (hre : RE = 6) (hge : GE = 6) (hp : P.length = 2) :
    Calls Tryd.prog 9 #[.slice A m c] w fun e w' => e = .returned (.bool true) ∧ Below w.heap.size w w' := by
  have Hn := Lib.hid hn
  have b0 := Below.refl w.heap.size w
  have g6 : decide ((rk : Int) < 1) = false := decide_eq_false (by omega)
  have g7 : decide ((n : Int) < (rk : Int)) = false := decide_eq_false (by omega)
  have g7' : decide (n < rk) = false := decide_eq_false (by omega)
  subst hre hge
  have g4 : ((P.length : Int) == 0) = false := by rw [hp]; rfl
  have g5 : ((P.length : Int) == 2) = true := by rw [hp]; rfl
  have g8 : ((rk : Int) == 1) = false := by rw [beq_eq_false_iff_ne]; omega
  clear hn hp
  go_enter Tryd.func9, Tryd.ntmps9
  go_wp2_with (first
    | (go_at_call 44; refine HT.out.mono ?_; rintro e w1 ⟨A1, c1, rfl, ra, b1⟩; replace b0 := b1; have ra0 := ra; obtain ⟨bA, oA, hA, hbA, hcA⟩ := ra0 hk1; subst hA; obtain ⟨B0, c00, d0, -⟩ := hcA 0 hk1; rw [show (getl M 0).length = nS M from rfl, Hn.out, Nat.add_zero] at d0; clear hcA)
    | (go_at_call 17; (with_reducible refine (H1.out _ _ _ b0 ra).mono ?_); rintro e w2 ⟨rfl, b2⟩; replace b0 := b0.trans (b2.mono b0.size); replace ra := ra.below b2)
    | (go_at_call 18; (with_reducible refine (H2.out _ _ _ b0 ra).mono ?_); rintro e w3 ⟨rfl, b3⟩; replace b0 := b0.trans (b3.mono b0.size); replace ra := ra.below b3)
    | (go_at_call 19; ((with_reducible refine (H3.out _ _ _ b0 ra).mono ?_); rintro e w4 ⟨A4, c4, rfl, -, b4⟩); replace b0 := b0.trans (b4.mono b0.size); replace ra := ra.below b4)
    | (go_at_call 20; (with_reducible refine (H4.out _ _ _ b0 ra).mono ?_); rintro e w5 ⟨rfl, b5⟩; replace b0 := b0.trans (b5.mono b0.size); replace ra := ra.below b5)
    | (go_at_call 24; (with_reducible refine (H6.out _ _ _ ra).mono ?_); rintro e w7 ⟨rfl, rfl⟩)
    | (go_at_call 34; first | ((with_reducible refine (HW1.out _ _ _).mono ?_); rintro e w8 ⟨rfl, rfl⟩))
    | (go_at_call 35; first | ((with_reducible refine (HIw.out _ _ _ ra).mono ?_); rintro e w9 ⟨rfl, b9⟩; replace b0 := b0.trans (b9.mono b0.size); replace ra := ra.below b9))
    | (go_at_call 45; (with_reducible refine (HZ.out _).mono ?_); rintro e w10 ⟨rfl, b10⟩; replace b0 := b0.trans (b10.mono b0.size); replace ra := ra.below b10)
    | (go_at_call 22; (with_reducible refine (HAW.out _ b0).mono ?_); rintro e w13 ⟨rfl, b13⟩; replace b0 := b0.trans (b13.mono b0.size)))
  go_ret
  exact ⟨rfl, b0⟩
theorem cag_one (A : Option Addr) (m c n rk F t u q : Nat) (w : World) (M : List (List Int)) (RS W G : ByteArray) (RQ RE GE : Int) (P : List Int)
    (HT : Hid (Calls Tryd.prog 44 #[.slice A m c] w (TabM w M))) (hn : nS M = n) (hk1 : 1 ≤ M.length) (hn9 : n ≤ 9)
    (HAW : Hid (∀ V, Below w.heap.size w V → Calls Tryd.prog 22 #[] V fun e w' => e = .returned (.bool true) ∧ Below V.heap.size V w'))
    (H1 : Hid (∀ V A c, Below w.heap.size w V → RowsAt V A M → Calls Tryd.prog 17 #[.slice A M.length c] V fun e w' => e = .returned (.tuple #[.string RS, .int .i64 RQ, .int .i64 RE]) ∧ Below V.heap.size V w'))
    (H2 : Hid (∀ V A c, Below w.heap.size w V → RowsAt V A M → Calls Tryd.prog 18 #[.slice A M.length c] V fun e w' => e = .returned (.tuple #[.int .i64 (rk : Nat), .string W, .int .i64 0]) ∧ Below V.heap.size V w'))
    (H3 : Hid (∀ V A c, Below w.heap.size w V → RowsAt V A M → Calls Tryd.prog 19 #[.slice A M.length c] V (LstER V P 0)))
    (H4 : Hid (∀ V A c, Below w.heap.size w V → RowsAt V A M → Calls Tryd.prog 20 #[.slice A M.length c] V fun e w' => e = .returned (.tuple #[.string G, .int .i64 GE]) ∧ Below V.heap.size V w'))
    (H6 : Hid (∀ V A c, RowsAt V A M → Calls Tryd.prog 24 #[.slice A M.length c] V fun e w' => e = .returned (.int .i64 (F : Nat)) ∧ V = w'))
    (H6b : Hid (∀ V A c, RowsAt V A M → Calls Tryd.prog 24 #[.slice A M.length c] V fun e w' => e = .returned (.int .i64 (F : Nat)) ∧ Below V.heap.size V w'))
    (HW1 : Hid (∀ V A c, Calls Tryd.prog 34 #[.slice A M.length c, .string W] V fun e w' => e = .returned (.bool true) ∧ V = w'))
    (hrk1 : 1 ≤ rk) (hrkn : rk ≤ n)
    (HIw : Hid (∀ V A c, RowsAt V A M → Calls Tryd.prog 35 #[.slice A M.length c, .int .i64 (F : Nat), .string W] V fun e w' => e = .returned (.int .i64 (t : Nat)) ∧ Below V.heap.size V w'))
    (HW2 : Hid (∀ V A c, Calls Tryd.prog 34 #[.slice A M.length c, .string G] V fun e w' => e = .returned (.bool true) ∧ V = w'))
    (HIg : Hid (∀ V A c, RowsAt V A M → Calls Tryd.prog 35 #[.slice A M.length c, .int .i64 (F : Nat), .string G] V fun e w' => e = .returned (.int .i64 (u : Nat)) ∧ Below V.heap.size V w'))
    (HZ : Hid (∀ V, Calls Tryd.prog 45 #[.int .i64 (u : Nat)] V fun e w' => e = .returned (.int .i64 1) ∧ Below V.heap.size V w'))
    (hrk : rk = 1) (hre : RE = 0) (hge : GE = 0) (hp : P.length = 0) (hrs : RS = W) (hq : RQ = (q : Nat)) (hqn : q < n) (hpw : ((t : Int) == wrap64 ((2 : Int) ^ q)) = true) (hlen : W.size ≤ G.size) (hbd : W.size ≤ (n * n * n - n) / 6) (_hg : G.size ≤ 10000) :
    Calls Tryd.prog 9 #[.slice A m c] w fun e w' => e = .returned (.bool true) ∧ Below w.heap.size w w' := by
  have Hn := Lib.hid hn
  have b0 := Below.refl w.heap.size w
  have g6 : decide ((rk : Int) < 1) = false := decide_eq_false (by omega)
  have g7 : decide ((n : Int) < (rk : Int)) = false := decide_eq_false (by omega)
  have g7' : decide (n < rk) = false := decide_eq_false (by omega)
  subst hre hge hrs hq hrk
  have g4 : ((P.length : Int) == 0) = true := by rw [hp]; rfl
  have g10 : decide ((q : Int) < 0) = false := decide_eq_false (by omega)
  have g11 : decide ((n : Int) ≤ (q : Int)) = false := decide_eq_false (by omega)
  have g11' : decide (n ≤ q) = false := decide_eq_false (by omega)
  have hbw : (RS.toList == RS.toList) = true := beq_self_eq_true _
  have g13 : decide ((RS.size : Int) ≤ (G.size : Int)) = true := decide_eq_true (by omega)
  have g13' : decide (RS.size ≤ G.size) = true := decide_eq_true hlen
  have hc2 : n * n ≤ 81 := Nat.le_trans (Nat.mul_le_mul hn9 hn9) (by decide)
  have hc3 : n * n * n ≤ 729 := Nat.le_trans (Nat.mul_le_mul hc2 hn9) (by decide)
  have hc1 : n ≤ n * n * n := by
    have h1 : 1 ≤ n * n := Nat.mul_pos (by omega) (by omega)
    have := Nat.mul_le_mul_right n h1
    omega
  have e2 : (n : Int) * (n : Int) = ((n * n : Nat) : Int) := by simp
  have e3 : ((n * n : Nat) : Int) * (n : Int) = ((n * n * n : Nat) : Int) := by simp
  have e4 : Int.tdiv (((n * n * n : Nat) : Int) - (n : Int)) 6 = (((n * n * n - n) / 6 : Nat) : Int) := by
    rw [show ((n * n * n : Nat) : Int) - (n : Int) = ((n * n * n - n : Nat) : Int) by omega]; rfl
  obtain ⟨x2, hx2⟩ : ∃ x, n * n = x := ⟨_, rfl⟩
  rw [hx2] at hc2 hc3 hc1 e2 e3 e4 hbd
  obtain ⟨x3, hx3⟩ : ∃ x, x2 * n = x := ⟨_, rfl⟩
  rw [hx3] at hc3 hc1 e3 e4 hbd
  obtain ⟨x4, hx4⟩ : ∃ x, (x3 - n) / 6 = x := ⟨_, rfl⟩
  have hx5 : x4 ≤ 729 := by omega
  rw [hx4] at e4 hbd
  have g14 : decide ((RS.size : Int) ≤ (x4 : Int)) = true := decide_eq_true (by omega)
  have g14' : decide (RS.size ≤ x4) = true := decide_eq_true hbd
  clear hx2 hx3 hx4 hbd hlen
  clear hn hp
  go_enter Tryd.func9, Tryd.ntmps9
  go_wp2_with (first
    | (go_at_call 44; refine HT.out.mono ?_; rintro e w1 ⟨A1, c1, rfl, ra, b1⟩; replace b0 := b1; have ra0 := ra; obtain ⟨bA, oA, hA, hbA, hcA⟩ := ra0 hk1; subst hA; obtain ⟨B0, c00, d0, -⟩ := hcA 0 hk1; rw [show (getl M 0).length = nS M from rfl, Hn.out, Nat.add_zero] at d0; clear hcA)
    | (go_at_call 17; (with_reducible refine (H1.out _ _ _ b0 ra).mono ?_); rintro e w2 ⟨rfl, b2⟩; replace b0 := b0.trans (b2.mono b0.size); replace ra := ra.below b2)
    | (go_at_call 18; (with_reducible refine (H2.out _ _ _ b0 ra).mono ?_); rintro e w3 ⟨rfl, b3⟩; replace b0 := b0.trans (b3.mono b0.size); replace ra := ra.below b3)
    | (go_at_call 19; ((with_reducible refine (H3.out _ _ _ b0 ra).mono ?_); rintro e w4 ⟨A4, c4, rfl, -, b4⟩); replace b0 := b0.trans (b4.mono b0.size); replace ra := ra.below b4)
    | (go_at_call 20; (with_reducible refine (H4.out _ _ _ b0 ra).mono ?_); rintro e w5 ⟨rfl, b5⟩; replace b0 := b0.trans (b5.mono b0.size); replace ra := ra.below b5)
    | (go_at_call 24; (with_reducible refine (H6.out _ _ _ ra).mono ?_); rintro e w7 ⟨rfl, rfl⟩)
    | (go_at_call 34; first | ((with_reducible refine (HW1.out _ _ _).mono ?_); rintro e w8 ⟨rfl, rfl⟩) | ((with_reducible refine (HW2.out _ _ _).mono ?_); rintro e w8 ⟨rfl, rfl⟩))
    | (go_at_call 35; first | ((with_reducible refine (HIg.out _ _ _ ra).mono ?_); rintro e w9 ⟨rfl, b9⟩; replace b0 := b0.trans (b9.mono b0.size); replace ra := ra.below b9))
    | (go_at_call 45; (with_reducible refine (HZ.out _).mono ?_); rintro e w10 ⟨rfl, b10⟩; replace b0 := b0.trans (b10.mono b0.size); replace ra := ra.below b10)
    | (go_at_call 22; (with_reducible refine (HAW.out _ b0).mono ?_); rintro e w13 ⟨rfl, b13⟩; replace b0 := b0.trans (b13.mono b0.size)))
  have HA2 := Lib.hid (fun (u : After _) => H6b.out u.v _ c1 (ra.below u.h))
  have HI2 := Lib.hid (fun (u : After _) => HIw.out u.v _ c1 (ra.below u.h))
  have HAW2 := Lib.hid (fun (u : After _) => HAW.out u.v (b0.trans (u.h.mono b0.size)))
  refine wp_region_class_all (C := fun w' => ∃ u : After _, w' = u.v) (by kernel_rfl) (by kernel_rfl) (isAfter_start _) ?_
  try simp only [Act.put]
  repeat (go_big_quiet_step ((first | (with_reducible refine (HA2.out _).mono ?_; rintro e w8 ⟨rfl, b8⟩; exact ⟨rfl, After.done _ b8⟩) | (with_reducible refine (HI2.out _).mono ?_; rintro e w8 ⟨rfl, b8⟩; exact ⟨rfl, After.done _ b8⟩) | (with_reducible refine (HAW2.out _).mono ?_; rintro e w8 ⟨rfl, b8⟩; exact ⟨rfl, After.done _ b8⟩))))
  refine wpQuiet_nil ?_
  rintro _ ⟨ua, rfl⟩
  go_wp2
  go_ret
  exact ⟨rfl, b0.trans (ua.h.mono b0.size)⟩
end Go.Proofs.YtignbpipdfjkeaaDoor
/- ClockAgree for every input. -/
namespace Go.Proofs.YtignbpipdfjkeaaDoor
open Go.RowKit Go.PlainAid
set_option maxHeartbeats 2000000
set_option maxRecDepth 100000
theorem inR_none {T : Tab} {k p : Nat} : ∀ (c q : Nat), inR T k p c q = none ↔ ∀ j, q ≤ j → j < q + c → (seek T k (sg p j) (few 1)).isSome = true
  | 0, q => by simp [inR]; intro j h1 h2; omega
  | c + 1, q => by
    have ih := inR_none (T := T) (k := k) (p := p) c (q + 1)
    unfold inR
    by_cases h : (seek T k (sg p q) (few 1)).isSome = true
    · rw [if_pos h, ih]
      constructor
      · intro h1 j hj1 hj2
        by_cases e : j = q
        · rw [e]; exact h
        · exact h1 j (by omega) (by omega)
      · intro h1 j hj1 hj2
        exact h1 j (by omega) (by omega)
    · rw [if_neg h]
      constructor
      · intro h1; cases h1
      · intro h1; exact absurd (h1 q (Nat.le_refl _) (by omega)) h
theorem outR_nil {T : Tab} {k n : Nat} : ∀ (c p : Nat), p + c = n → (outR T k n c p = [] ↔ ∀ i j, p ≤ i → i < j → j < n → (seek T k (sg i j) (few 1)).isSome = true)
  | 0, p, e => by simp [outR]; intro i j h1 h2 h3; omega
  | c + 1, p, e => by
    have ih := outR_nil (T := T) (k := k) (n := n) c (p + 1) (by omega)
    have hin := inR_none (T := T) (k := k) (p := p) (n - (p + 1)) (p + 1)
    unfold outR
    cases h : inR T k p (n - (p + 1)) (p + 1) with
    | some q =>
      constructor
      · intro h1; cases h1
      · intro h1
        rw [h] at hin
        have := hin.2 (fun j h2 h3 => h1 p j (Nat.le_refl _) (by omega) (by omega))
        cases this
    | none =>
      have h0 := hin.1 h
      show outR T k n c (p + 1) = [] ↔ _
      rw [ih]
      constructor
      · intro h1 i j h2 h3 h4
        by_cases e2 : i = p
        · rw [e2]; exact h0 j (by omega) (by omega)
        · exact h1 i j (by omega) h3 h4
      · intro h1 i j h2 h3 h4
        exact h1 i j (by omega) h3 h4
theorem outR_two {T : Tab} {k n : Nat} : ∀ (c p : Nat), outR T k n c p = [] ∨ (outR T k n c p).length = 2
  | 0, _ => .inl rfl
  | c + 1, p => by
    unfold outR
    cases inR T k p (n - (p + 1)) (p + 1) with
    | some q => exact .inr rfl
    | none => exact outR_two c (p + 1)
theorem sz_oneD : ((List.range 512).all fun s => !decide (szS s = 1) || (s == 2 ^ tzS s && decide (tzS s < 9))) = true := by decide +kernel
theorem sz_one2 {s : Nat} (hs : s < 512) (h : szS s = 1) : s = 2 ^ tzS s ∧ tzS s < 9 := by
  have := List.all_eq_true.1 sz_oneD s (List.mem_range.2 hs)
  rw [decide_eq_true h, Bool.not_true, Bool.false_or, Bool.and_eq_true, beq_iff_eq, decide_eq_true_eq] at this
  exact this
theorem wrap_p2 {p : Nat} (h : p < 9) : wrap64 ((2 : Int) ^ p) = ((2 ^ p : Nat) : Int) := by
  have h1 : 2 ^ p ≤ 2 ^ 9 := Nat.pow_le_pow_right (by decide) (by omega)
  rw [pow_cast]
  generalize 2 ^ p = P at *
  exact IntWalk.wrap64_in _ ⟨by omega, by omega⟩
theorem clockAgree_any (A : Option Addr) (c : Nat) (L : List (List Int)) (w : World) (ht : TabW w) (hx : L.length ≤ c) (hc : c ≤ maxLen) (ha : RowsIn w A L) :
    Calls Tryd.prog 9 #[.slice A L.length c] w fun e w' => e = .returned (.bool true) ∧ Below w.heap.size w w' := by
  obtain ⟨M, h, hT⟩ := tame_any A c L w hx hc ha
  have HT := Lib.hid (hT w (Below.refl _ w))
  have HAW := Lib.hid (fun (V : World) (hV : Below w.heap.size w V) => awake_any V (ht.below hV ht.lt))
  have hM := h.isM
  have hn9 := h.n9
  have hk4 := h.k4
  have hF := full_set (n := nS M) h.n1
  have hN := full_ne (n := nS M) h.n1
  obtain ⟨E, hE⟩ : ∃ E, shE (tabN M) M.length (2 ^ nS M - 1) = E := ⟨_, rfl⟩
  have hrs := seek_one (T := tabN M) (k := M.length) hM hF hN
  have hst := sh_set (T := tabN M) (k := M.length) hM hF hN
  have him := sh_im (T := tabN M) (k := M.length) hM hF
  have hsl := sh_len (T := tabN M) (k := M.length) hM hF
  have hrk := rk_eq (T := tabN M) (k := M.length) hM
  rw [hE] at hrs hst hrk him hsl
  have e512 := set512 hn9 hst.1
  have hle : szS E.1 ≤ nS M := by
    have h1 := img_sz hM hF him.1
    rw [him.2, sz_all hn9] at h1
    exact h1
  have H2 : Hid (∀ V A c, Below w.heap.size w V → RowsAt V A M → Calls Tryd.prog 18 #[.slice A M.length c] V fun e w' => e = .returned (.tuple #[.int .i64 (szS E.1 : Nat), .string (wS E.2), .int .i64 0]) ∧ Below V.heap.size V w') := Lib.hid (fun V A c hV ha => by
    have := Rank_yes A c M V h ha (ht.below hV ht.lt)
    rw [show rkX M = (szS E.1, E.2) from hrk] at this
    exact this)
  have H3 : Hid (∀ V A c, Below w.heap.size w V → RowsAt V A M → Calls Tryd.prog 19 #[.slice A M.length c] V (LstER V (apX M) 0)) := Lib.hid (fun V A c hV ha => (Apart_yes A c M V h ha (ht.below hV ht.lt)).mono fun _ _ h => h.lst)
  have H6 : Hid (∀ V A c, RowsAt V A M → Calls Tryd.prog 24 #[.slice A M.length c] V fun e w' => e = .returned (.int .i64 ((2 ^ nS M - 1 : Nat) : Nat)) ∧ V = w') := Lib.hid (fun V A c ha => refAll_any A c M V h ha)
  have H6b : Hid (∀ V A c, RowsAt V A M → Calls Tryd.prog 24 #[.slice A M.length c] V fun e w' => e = .returned (.int .i64 ((2 ^ nS M - 1 : Nat) : Nat)) ∧ Below V.heap.size V w') := Lib.hid (fun V A c ha => (refAll_any A c M V h ha).mono fun _ _ h => ⟨h.1, h.2 ▸ Below.refl _ _⟩)
  have WD : ∀ {x : List Nat}, okW M.length x → x.length ≤ 1000 → Hid (∀ V A c, Calls Tryd.prog 34 #[.slice A M.length c, .string (wS x)] V fun e w' => e = .returned (.bool true) ∧ V = w') := fun {x} ox lx => Lib.hid (fun V A c => by
    have := refWord_any A c M.length (wS x) V (by rw [wS_len]; omega) (by omega)
    rwa [okB_wS hk4 ox lx] at this)
  have RI : ∀ {x : List Nat}, okW M.length x → x.length ≤ 1000 → Hid (∀ V A c, RowsAt V A M → Calls Tryd.prog 35 #[.slice A M.length c, .int .i64 ((2 ^ nS M - 1 : Nat) : Nat), .string (wS x)] V fun e w' => e = .returned (.int .i64 (img (tabN M) (2 ^ nS M - 1) x : Nat)) ∧ Below V.heap.size V w') := fun {x} ox lx => Lib.hid (fun V A c hA => by
    have := refImage_any A c M (2 ^ nS M - 1) (wS x) V h hA hF (okB_wS hk4 ox lx)
    rwa [imP_all (tabN M) _ (fun b hb => okW4 hk4 ox b hb)] at this)
  have HR := fun (V : World) A c (hV : Below w.heap.size w V) ha => Reset_yes A c M V h ha (ht.below hV ht.lt)
  have HGY := fun (V : World) A c (hV : Below w.heap.size w V) ha => Greedy_yes A c M V h ha (ht.below hV ht.lt)
  have s9 := sz_le (2 ^ nS M - 1)
  have hW := WD him.1 (by omega)
  have hI := RI him.1 (by omega)
  rw [him.2] at hI
  have hap : apX M = [] ↔ ∀ i j, 0 ≤ i → i < j → j < nS M → (seek (tabN M) M.length (sg i j) (few 1)).isSome = true := outR_nil (nS M) 0 (by omega)
  by_cases h1 : szS E.1 = 1
  · rw [if_pos h1] at hrs
    have hsome : (seek (tabN M) M.length (2 ^ nS M - 1) (few 1)).isSome = true := by rw [hrs]; rfl
    have hall : ∀ p q, p < nS M → q < nS M → szS (shP M p q).1 = 1 := (reset_pairs hM).1 hsome
    have hall2 := (reset_iff hM).1 ((seek_iff hM hF).1 hsome)
    have hg := gr_ok hM (fun p q hp hq => by
      obtain ⟨x, ox, ex⟩ := hall2 p q hp hq
      exact ⟨x, ox, (merge_iff hM hp hq ox).1 ex⟩) 8 (2 ^ nS M - 1) [] (by omega) hF hN
    obtain ⟨R, hR⟩ : ∃ R, grX M = some R := Option.isSome_iff_exists.1 hg
    rw [show rsX M = some E from hrs] at HR
    rw [hR] at HGY
    obtain ⟨y, ey, oy, zy⟩ := gr_some hM 8 (2 ^ nS M - 1) [] R (by omega) hF hN hR
    rw [List.nil_append] at ey
    subst ey
    have hlen := gr_len hM 8 (2 ^ nS M - 1) [] R hF hN hR
    rw [sz_all hn9] at hlen
    have hfb := FB_all (nS M) hn9
    have hb2 : (nS M * nS M * nS M - nS M) / 6 ≤ 729 := by
      have h2 : nS M * nS M ≤ 81 := Nat.le_trans (Nat.mul_le_mul hn9 hn9) (by decide)
      have h3 : nS M * nS M * nS M ≤ 729 := Nat.le_trans (Nat.mul_le_mul h2 hn9) (by decide)
      omega
    have hl0 : ([] : List Nat).length = 0 := rfl
    have hmin : E.2.length ≤ R.length := by
      obtain ⟨h4, h5, h6, h7⟩ := seek_some hM hF hrs
      exact vw_le_len (okW4 hk4 h4) (okW4 hk4 oy) (h7 R oy (decide_eq_true zy))
    have zR : szS (img (tabN M) (2 ^ nS M - 1) R) = 1 := by
      have := sz_pos hn9 (img_set hM hF oy) (img_ne hM hF hN oy)
      omega
    obtain ⟨q1, q2⟩ := sz_one2 e512 h1
    have hqn : tzS E.1 < nS M := bits_bound hst.1 (by
      rw [mem_bits]
      exact ⟨q2, by rw [q1, Nat.testBit_two_pow]; rw [← q1]; exact decide_eq_true rfl⟩)
    have hapn : (apX M).length = 0 := by
      rw [hap.2 (fun i j _ hij hj => by
        rw [seek_sh h (by omega) hj, hall i j (by omega) hj]; rfl)]
      rfl
    have HZ := Lib.hid (fun V => by
      have := refSize_any (img (tabN M) (2 ^ nS M - 1) R) V (set512 hn9 (img_set hM hF oy))
      rwa [zR] at this)
    exact cag_one A L.length c (nS M) (szS E.1) (2 ^ nS M - 1) E.1 _ (tzS E.1) w M (wS E.2) (wS E.2) (wS R) (tzS E.1) 0 0 (apX M) HT rfl h.k1 hn9 HAW (Lib.hid HR) H2 H3 (Lib.hid HGY) H6 H6b hW (by omega) hle hI (WD oy (by omega)) (RI oy (by omega)) HZ h1 rfl rfl hapn rfl rfl hqn
      (by rw [wrap_p2 q2, ← q1]; exact beq_self_eq_true _) (by rw [wS_len, wS_len]; exact hmin) (by rw [wS_len]; omega) (by rw [wS_len]; omega)
  · rw [if_neg h1] at hrs
    have hgn : grX M = none := by
      cases hR : grX M with
      | none => rfl
      | some R =>
        obtain ⟨y, -, oy, ey⟩ := gr_some hM 8 (2 ^ nS M - 1) [] R (by omega) hF hN hR
        have := (seek_iff hM hF).2 ⟨y, oy, ey⟩
        rw [hrs] at this
        cases this
    rw [show rsX M = none from hrs] at HR
    rw [hgn] at HGY
    have hap2 : (apX M).length = 2 := by
      rcases outR_two (T := tabN M) (k := M.length) (n := nS M) (nS M) 0 with h2 | h2
      · exfalso
        have h3 := hap.1 h2
        have h4 := (reset_pairs hM).2 (fun p q hp hq => by
          have key : ∀ i j, i < j → j < nS M → szS (shP M i j).1 = 1 := fun i j hij hj => by
            have h5 := h3 i j (Nat.zero_le _) hij hj
            rw [seek_sh h (by omega) hj, beq_iff_eq] at h5
            omega
          rcases Nat.lt_trichotomy p q with h6 | h6 | h6
          · exact key p q h6 hq
          · subst h6; exact (sh_same hM hp).1
          · have h7 := key q p h6 hp
            have e : shP M q p = shP M p q := by unfold shP; rw [sg_comm]
            rw [e] at h7
            exact h7)
        rw [hrs] at h4
        cases h4
      · exact h2
    have HZ := Lib.hid (fun V => refSize_any E.1 V e512)
    exact cag_no A L.length c (nS M) (szS E.1) (2 ^ nS M - 1) E.1 w M ⟨#[]⟩ (wS E.2) ⟨#[]⟩ 0 6 6 (apX M) HT rfl h.k1 hn9 HAW (Lib.hid HR) H2 H3 (Lib.hid HGY) H6 hW hst.2.2 hle hI HZ (by have := hst.2.2; omega) rfl rfl hap2
end Go.Proofs.YtignbpipdfjkeaaDoor
