/- The reference's Size, Code, Decoded, Less. -/
import Derived.Test.YtokjdadgdfmffaaMD
namespace Go.Proofs.Ytokjdadgdfmffaa
open Go.RowKit
set_option maxHeartbeats 2000000
set_option maxRecDepth 100000
theorem isG_good {g : List Int} {m n : Nat} (hg : IsG g m n) : (∀ j, j < g.length → gdG g j) ∧ prG g g.length = ((m * n : Nat) : Int) ∧ (g.length = 1 ∨ g.length = 2) := by
  obtain ⟨⟨g1, g2, g3, g4⟩, ⟨rfl, h1⟩ | ⟨rfl, h1⟩, h2, h3, h4⟩ := hg
  · refine ⟨fun j hj => ?_, ?_, .inl rfl⟩
    · obtain rfl : j = 0 := by simp at hj; omega
      exact ⟨⟨show (2 : Int) ≤ n by omega, show (n : Int) ≤ 24 by omega⟩, Int.emod_self⟩
    · subst h1
      show (n : Int) = ((1 * n : Nat) : Int)
      rw [Nat.one_mul]
  · refine ⟨fun j hj => ?_, ?_, .inr rfl⟩
    · have hj2 : j < 2 := hj
      obtain rfl | rfl : j = 0 ∨ j = 1 := by omega
      · exact ⟨⟨show (2 : Int) ≤ m by omega, show (m : Int) ≤ 24 by omega⟩, Int.emod_self⟩
      · refine ⟨⟨show (2 : Int) ≤ n by omega, show (n : Int) ≤ 24 by omega⟩, ?_⟩
        show (n : Int) % (m : Int) = 0
        omega
    · show (m : Int) * (n : Int) = _
      rw [Int.natCast_mul]
theorem RefSize_any (A : Option Addr) (c m n : Nat) (g : List Int) (w : World) (hg : IsG g m n) (ha : IntsAt w A g) :
    Calls Try.prog 42 #[.slice A g.length c] w fun e w' => e = .returned (.int .i64 ((m * n : Nat) : Int)) ∧ w = w' := by
  obtain ⟨h1, h2, h3⟩ := isG_good hg
  have HG := Lib.hid h1
  have HP := Lib.hid h2
  obtain ⟨b, o, rfl, hb, hc⟩ := ha (by omega)
  have HC := Lib.hid hc
  obtain ⟨N, hN⟩ : ∃ N, g.length = N := ⟨_, rfl⟩
  have HN := Lib.hid hN
  have hN2 : N ≤ 2 := by omega
  rw [hN] at HP ⊢
  clear h1 h2 h3 hc hN ha hg
  go_enter Try.func42, Try.ntmps42
  go_wp2
  go_loopw [3, 4] (fun s i wr => ∃ k : Nat, k ≤ N ∧ i = .int .i64 k ∧ s = .int .i64 (prG g k) ∧ w = wr) (fun _ i _ => N - (intOf i).toNat)
  case atStart => exact ⟨0, by omega, rfl, rfl, rfl⟩
  case round =>
    obtain ⟨k, hk, rfl, rfl, rfl⟩ := hrel
    by_cases hlt : k < N
    · have g3 : decide ((k : Int) < (N : Int)) = true := decide_eq_true (by omega)
      have c1 := HC.out k (by have := HN.out; omega)
      have hpb2 := prG_bd (g := g) (i := k + 1) (by omega) (fun j hj => HG.out j (by have := HN.out; omega))
      have hpb1 := prG_bd (g := g) (i := k) (by omega) (fun j hj => HG.out j (by have := HN.out; omega))
      have hpn := prG_next (g := g) (i := k) (by omega)
      rw [hpn] at hpb2
      have HPN := Lib.hid hpn
      generalize hp : prG g k = p at *
      generalize geti g k = x at *
      clear hp hpn
      go_wp2
      go_roundw
      case rel => exact ⟨k + 1, by omega, by go_num, by rw [HPN.out], trivial⟩
      case measure => simp [intOf]; omega
    · obtain rfl : k = N := by omega
      have g3 : decide ((k : Int) < (k : Int)) = false := decide_eq_false (by omega)
      go_wp2
      go_ret
      exact ⟨ret_int HP.out, rfl⟩
/-- What Code holds after k numbers. -/
def cdG (g xs : List Int) : Nat → Int
  | 0 => 0
  | k + 1 => cdG g xs k * geti g k + geti xs k
theorem cdG_bd {g xs : List Int} (hg : ∀ j, j < g.length → gdG g j) (hx : ∀ j, j < g.length → 0 ≤ geti xs j ∧ geti xs j < geti g j) (h2 : g.length ≤ 2) : ∀ k, k ≤ g.length → 0 ≤ cdG g xs k ∧ cdG g xs k ≤ 1000 ∧ (k < g.length → 0 ≤ cdG g xs k * geti g k ∧ cdG g xs k * geti g k ≤ 600) := by
  intro k hk
  have e0 : cdG g xs 0 = 0 := rfl
  rcases Nat.eq_zero_or_pos k with rfl | h
  · rw [e0]
    exact ⟨by omega, by omega, fun _ => by rw [Int.zero_mul]; omega⟩
  · have a1 := hx 0 (by omega)
    have a2 := (hg 0 (by omega)).1
    have e1 : cdG g xs 1 = geti xs 0 := by show 0 * _ + _ = _; rw [Int.zero_mul, Int.zero_add]
    by_cases h1 : k = 1
    · subst h1
      rw [e1]
      refine ⟨by omega, by omega, fun h => ?_⟩
      have b2 := (hg 1 h).1
      have h3 := Int.mul_nonneg a1.1 (show 0 ≤ geti g 1 by omega)
      have h4 := Int.mul_le_mul (show geti xs 0 ≤ 23 by omega) b2.2 (by omega) (by omega)
      omega
    · obtain rfl : k = 2 := by omega
      have b1 := hx 1 (by omega)
      have b2 := (hg 1 (by omega)).1
      have h3 := Int.mul_nonneg a1.1 (show 0 ≤ geti g 1 by omega)
      have h4 := Int.mul_le_mul (show geti xs 0 ≤ 23 by omega) b2.2 (by omega) (by omega)
      have e2 : cdG g xs 2 = geti xs 0 * geti g 1 + geti xs 1 := by show cdG g xs 1 * geti g 1 + geti xs 1 = _; rw [e1]
      rw [e2]
      exact ⟨by omega, by omega, fun h => by omega⟩
theorem cdG_eq {g xs : List Int} {m n : Nat} (hg : IsG g m n) (hv : elV m n xs = true) : cdG g xs g.length = (cdN n (elA m xs) (elB m xs) : Nat) := by
  have h := (elV_all hg xs).1 hv
  obtain ⟨⟨g1, g2, g3, g4⟩, ⟨rfl, h1⟩ | ⟨rfl, h1⟩, h2, h3, h4⟩ := hg
  · match xs, h.1 with
    | [y], _ =>
      have := h.2 0 (by simp)
      have h0 : 0 ≤ y := this.1
      rw [show elA m [y] = 0 from rfl, show elB m [y] = y from if_pos h1]
      unfold cdN
      show 0 * (n : Int) + y = (((0 : Int).toNat * n + y.toNat : Nat) : Int)
      simp
      omega
  · match xs, h.1 with
    | [x, y], _ =>
      have t0 := h.2 0 (by simp)
      have t1 := h.2 1 (by simp)
      have a0 : 0 ≤ x := t0.1
      have a1 : 0 ≤ y := t1.1
      have e : ¬ m = 1 := by omega
      rw [show elA m [x, y] = x from if_neg e, show elB m [x, y] = y from if_neg e]
      unfold cdN
      show (0 * (m : Int) + x) * (n : Int) + y = ((x.toNat * n + y.toNat : Nat) : Int)
      rw [Int.natCast_add, Int.natCast_mul, Int.toNat_of_nonneg a0, Int.toNat_of_nonneg a1]
      simp
theorem RefCode_any (A B : Option Addr) (c d m n : Nat) (g xs : List Int) (w : World) (hg : IsG g m n) (hv : elV m n xs = true) (ha : IntsAt w A g) (hb : IntsAt w B xs) :
    Calls Try.prog 52 #[.slice A g.length c, .slice B xs.length d] w fun e w' => e = .returned (.int .i64 (cdN n (elA m xs) (elB m xs) : Nat)) ∧ Below w.heap.size w w' := by
  obtain ⟨h1, -, h3⟩ := isG_good hg
  obtain ⟨h5, h4⟩ := (elV_all hg xs).1 hv
  have HBD := Lib.hid (cdG_bd h1 h4 (by omega))
  have HE := Lib.hid (cdG_eq hg hv)
  have HX := Lib.hid h4
  have HG := Lib.hid h1
  have HA := Lib.hid ha
  have HB := Lib.hid hb
  have b0 : Below w.heap.size w w := Below.refl _ _
  generalize cdN n (elA m xs) (elB m xs) = R at *
  rw [h5]
  obtain ⟨N, hN⟩ : ∃ N, g.length = N := ⟨_, rfl⟩
  have HN := Lib.hid hN
  have HM := Lib.hid h5
  have hN2 : N ≤ 2 := by omega
  have hN1 : 1 ≤ N := by omega
  rw [hN] at HE HBD ⊢
  clear h1 h3 h4 h5 hN ha hb hg hv
  go_enter Try.func52, Try.ntmps52
  go_wp2
  go_loopw [5, 6] (fun s i wr => ∃ k : Nat, k ≤ N ∧ i = .int .i64 k ∧ s = .int .i64 (cdG g xs k) ∧ Below w.heap.size w wr) (fun _ i _ => N - (intOf i).toNat)
  case atStart => exact ⟨0, by omega, rfl, rfl, b0⟩
  case round =>
    clear b0
    obtain ⟨k, hk, rfl, rfl, b0⟩ := hrel
    by_cases hlt : k < N
    · have g3 : decide ((k : Int) < (N : Int)) = true := decide_eq_true (by omega)
      obtain ⟨b, o, hAe, hb, hc⟩ := (HA.out.below b0) (by have := HN.out; omega)
      subst hAe
      obtain ⟨b', o', hBe, hb', hc'⟩ := (HB.out.below b0) (by have := HN.out; have := HM.out; omega)
      subst hBe
      have c1 := hc k (by have := HN.out; omega)
      have c2 := hc' k (by have := HN.out; have := HM.out; omega)
      obtain ⟨p1, p2, p3⟩ := HBD.out k hk
      obtain ⟨p3, p4⟩ := p3 hlt
      obtain ⟨x1, x2⟩ := HX.out k (by have := HN.out; omega)
      have y1 := (HG.out k (by have := HN.out; omega)).1
      have HS : Hid (cdG g xs (k + 1) = cdG g xs k * geti g k + geti xs k) := Lib.hid rfl
      generalize cdG g xs k = p at *
      generalize geti g k = y at *
      generalize geti xs k = x at *
      clear hc hc'
      go_wp2
      refine wp_region_quiet_lit (by kernel_rfl) (by kernel_rfl) ?_
      repeat go_big_quiet_step ((fail))
      refine wpQuiet_nil ?_
      rintro _ ⟨nq, rfl⟩
      go_wp2
      go_roundw
      case rel => exact ⟨k + 1, by omega, by go_num, by rw [HS.out], b0.trans (below_drewN nq)⟩
      case measure => simp [intOf]; omega
    · obtain rfl : k = N := by omega
      have g3 : decide ((k : Int) < (k : Int)) = false := decide_eq_false (by omega)
      go_wp2
      go_ret
      exact ⟨ret_int HE.out, b0⟩
/-- The numbers of the element with number c. -/
def dcL (g : List Int) (n c : Nat) : List Int := if g.length = 1 then [(c : Int)] else [((c / n : Nat) : Int), ((c % n : Nat) : Int)]
theorem dcL_len {g : List Int} (h : g.length = 1 ∨ g.length = 2) (n c : Nat) : (dcL g n c).length = g.length := by
  unfold dcL
  rcases h with h | h
  · rw [if_pos h, h]; rfl
  · rw [if_neg (by omega), h]; rfl
def NewR (w : World) (l : List Int) (e : Ending) (w' : World) : Prop := ∃ g, e = .returned (.slice (some ⟨g, 0, none⟩) l.length l.length) ∧ w.heap.size ≤ g ∧ Row w' g 3 (iv l) ∧ Below w.heap.size w w'
theorem RefDecoded_any (A : Option Addr) (c m n q : Nat) (g : List Int) (w : World) (hg : IsG g m n) (hq : q < m * n) (ha : IntsAt w A g) :
    Calls Try.prog 43 #[.slice A g.length c, .int .i64 q] w (NewR w (dcL g n q)) := by
  have hmn : m * n ≤ 144 := hg.2.2.2.1
  obtain ⟨⟨g1, g2, g3, g4⟩, ⟨rfl, h1⟩ | ⟨rfl, h1⟩, h2, h3, h4⟩ := hg
  · have e : dcL [(n : Int)] n q = [(q : Int)] := rfl
    rw [e]
    have gl : ([(n : Int)] : List Int).length = 1 := rfl
    rw [gl]
    have r0 : Row (w.alloc (.cells #[.int .i64 q] 3)) w.heap.size 3 (iv [(q : Int)]) := row_new rfl
    have b0 : Below w.heap.size w (w.alloc (.cells #[.int .i64 q] 3)) := (Below.refl _ w).alloc (Nat.le_refl _) _
    clear ha gl e h4
    go_enter Try.func43, Try.ntmps43
    go_wp2
    go_ret
    exact ⟨w.heap.size, rfl, Nat.le_refl _, r0, b0⟩
  · have e : dcL [(m : Int), (n : Int)] n q = [((q / n : Nat) : Int), ((q % n : Nat) : Int)] := rfl
    rw [e]
    have gl : ([(m : Int), (n : Int)] : List Int).length = 2 := rfl
    obtain ⟨b, o, rfl, hb, hc⟩ := ha (by rw [gl]; omega)
    have c1 : w.cell? ⟨b, o + 1, none⟩ = some (.int .i64 n) := hc 1 (by rw [gl]; omega)
    rw [gl]
    have gz : ((n : Int) == 0) = false := by rw [beq_eq_false_iff_ne]; omega
    have ht1 : Int.tdiv (q : Int) (n : Int) = ((q / n : Nat) : Int) := rfl
    have ht2 : Int.tmod (q : Int) (n : Int) = ((q % n : Nat) : Int) := rfl
    have hd1 : q / n ≤ q := Nat.div_le_self _ _
    have hd2 : q % n < n := Nat.mod_lt _ (by omega)
    clear ha gl e hc h4
    generalize q / n = x at *
    generalize q % n = y at *
    go_enter Try.func43, Try.ntmps43
    go_wp2
    refine wp_region_quiet_tail 10 (by kernel_rfl) (by kernel_rfl) ?_
    simp only [List.take_succ_cons, List.take_zero, List.drop_succ_cons, List.drop_zero]
    repeat go_big_quiet_step ((fail))
    refine wpQuiet_nil ?_
    rintro _ ⟨nq, rfl⟩
    have r0 : Row ((w.drewN nq).alloc (.cells #[.int .i64 x, .int .i64 y] 3)) w.heap.size 3 (iv [(x : Int), (y : Int)]) := row_new rfl
    have b0 : Below w.heap.size w ((w.drewN nq).alloc (.cells #[.int .i64 x, .int .i64 y] 3)) := (below_drewN nq).alloc (Nat.le_refl _) _
    go_wp2
    go_ret
    exact ⟨w.heap.size, rfl, Nat.le_refl _, r0, b0⟩
end Go.Proofs.Ytokjdadgdfmffaa
