/- The reference's Less. -/
import Derived.Test.YtokjdadgdfmffaaME
namespace Go.Proofs.Ytokjdadgdfmffaa
open Go.RowKit
set_option maxHeartbeats 2000000
set_option maxRecDepth 100000
theorem ivC {w : World} {g : Nat} {t : TypeId} {xs : List Int} (h : Row w g t (iv xs)) {i : Nat} (hi : i < xs.length) : w.cell? ⟨g, i, none⟩ = some (.int .i64 (geti xs i)) := by
  rw [h.cell]
  unfold iv
  rw [List.getElem?_map, List.getElem?_eq_getElem hi, geti_eq hi]; rfl
theorem row_intsL {w : World} {g : Nat} {t : TypeId} {xs : List Int} (h : Row w g t (iv xs)) : IntsAt w (some ⟨g, 0, none⟩) xs := fun _ => ⟨g, 0, rfl, h.lt, fun i hi => by rw [Nat.zero_add]; exact ivC h hi⟩
theorem iv_setL (xs : List Int) (k : Nat) (v : Int) : (iv xs).set k (.int .i64 v) = iv (xs.set k v) := by unfold iv; rw [List.map_set]
/-- The j-th number of what is left. -/
def lfG (g ys xs : List Int) (j : Nat) : Int := (geti ys j - geti xs j) % geti g j
/-- The numbers when k of them are left over. -/
def lfL (g ys xs : List Int) : Nat → List Int
  | 0 => ys
  | k + 1 => (lfL g ys xs k).set k (lfG g ys xs k)
theorem lfL_len (g ys xs : List Int) : ∀ k, (lfL g ys xs k).length = ys.length
  | 0 => rfl
  | k + 1 => by show ((lfL g ys xs k).set k _).length = _; rw [List.length_set, lfL_len g ys xs k]
theorem lfL_get (g ys xs : List Int) : ∀ k j, k ≤ j → geti (lfL g ys xs k) j = geti ys j
  | 0, _, _ => rfl
  | k + 1, j, h => by
    have ih := lfL_get g ys xs k j (by omega)
    show geti ((lfL g ys xs k).set k _) j = _
    unfold geti at ih ⊢
    rw [List.getD_eq_getElem?_getD, List.getElem?_set, if_neg (by omega), ← List.getD_eq_getElem?_getD]
    exact ih
theorem dcL_rng {g : List Int} {m n q : Nat} (hg : IsG g m n) (hq : q < m * n) : ∀ j, j < g.length → 0 ≤ geti (dcL g n q) j ∧ geti (dcL g n q) j < geti g j := by
  obtain ⟨⟨g1, g2, g3, g4⟩, ⟨rfl, h1⟩ | ⟨rfl, h1⟩, h2, h3, h4⟩ := hg
  · intro j hj
    obtain rfl : j = 0 := by simp at hj; omega
    subst h1
    rw [Nat.one_mul] at hq
    show (0 : Int) ≤ (q : Int) ∧ (q : Int) < (n : Int)
    omega
  · intro j hj
    have hj2 : j < 2 := hj
    obtain rfl | rfl : j = 0 ∨ j = 1 := by omega
    · have h5 : q / n < m := Nat.div_lt_of_lt_mul (by rw [Nat.mul_comm]; exact hq)
      show (0 : Int) ≤ ((q / n : Nat) : Int) ∧ ((q / n : Nat) : Int) < (m : Int)
      generalize q / n = z at *
      omega
    · have h5 : q % n < n := Nat.mod_lt _ (by omega)
      show (0 : Int) ≤ ((q % n : Nat) : Int) ∧ ((q % n : Nat) : Int) < (n : Int)
      generalize q % n = z at *
      omega
theorem less_end {g xs : List Int} {m n q : Nat} (hg : IsG g m n) (hq : q < m * n) (hv : elV m n xs = true) :
    elV m n (lfL g (dcL g n q) xs g.length) = true ∧ cdN n (elA m (lfL g (dcL g n q) xs g.length)) (elB m (lfL g (dcL g n q) xs g.length)) = lsN m n q (elA m xs, elB m xs) := by
  have h := (elV_all hg xs).1 hv
  obtain ⟨⟨g1, g2, g3, g4⟩, ⟨rfl, h1⟩ | ⟨rfl, h1⟩, h2, h3, h4⟩ := hg
  · match xs, h.1 with
    | [y], _ =>
      subst h1
      rw [Nat.one_mul] at hq
      have e : lfL [(n : Int)] (dcL [(n : Int)] n q) [y] [(n : Int)].length = [((q : Int) - y) % n] := rfl
      have b1 := Int.emod_nonneg ((q : Int) - y) (show (n : Int) ≠ 0 by omega)
      have b2 := Int.emod_lt_of_pos ((q : Int) - y) (show (0 : Int) < n by omega)
      rw [e]
      refine ⟨decide_eq_true ⟨rfl, b1, b2⟩, ?_⟩
      show (0 : Int).toNat * n + (((q : Int) - y) % n).toNat = ((((q / n : Nat) : Int) - 0) % ((1 : Nat) : Int)).toNat * n + ((((q % n : Nat) : Int) - y) % n).toNat
      rw [Nat.mod_eq_of_lt hq, Nat.div_eq_of_lt hq]
      simp
  · match xs, h.1 with
    | [x, y], _ =>
      have hm1 : ¬ m = 1 := by omega
      have e : lfL [(m : Int), (n : Int)] (dcL [(m : Int), (n : Int)] n q) [x, y] [(m : Int), (n : Int)].length = [(((q / n : Nat) : Int) - x) % m, (((q % n : Nat) : Int) - y) % n] := rfl
      have a1 := Int.emod_nonneg (((q / n : Nat) : Int) - x) (show (m : Int) ≠ 0 by omega)
      have a2 := Int.emod_lt_of_pos (((q / n : Nat) : Int) - x) (show (0 : Int) < m by omega)
      have b1 := Int.emod_nonneg (((q % n : Nat) : Int) - y) (show (n : Int) ≠ 0 by omega)
      have b2 := Int.emod_lt_of_pos (((q % n : Nat) : Int) - y) (show (0 : Int) < n by omega)
      rw [e]
      refine ⟨decide_eq_true ⟨hm1, ⟨a1, a2⟩, b1, b2⟩, ?_⟩
      rw [show elA m [x, y] = x from if_neg hm1, show elB m [x, y] = y from if_neg hm1]
      have e1 : ∀ a b : Int, elA m [a, b] = a := fun a b => if_neg hm1
      have e2 : ∀ a b : Int, elB m [a, b] = b := fun a b => if_neg hm1
      rw [e1, e2]
      rfl
theorem lf_rem {y x g : Int} (h1 : 0 ≤ y) (h2 : x < g) (_h3 : 0 ≤ x) : Int.tmod (y - x + g) g = (y - x) % g := by
  rw [Int.tmod_eq_emod_of_nonneg (by omega), Int.add_emod_right]
theorem RefLess_any (A B : Option Addr) (c d m n q : Nat) (g xs : List Int) (w : World) (hg : IsG g m n) (hq : q < m * n) (hv : elV m n xs = true) (ha : IntsAt w A g) (hb : IntsAt w B xs) :
    Calls Try.prog 51 #[.slice A g.length c, .int .i64 q, .slice B xs.length d] w fun e w' => e = .returned (.int .i64 (lsN m n q (elA m xs, elB m xs) : Nat)) ∧ Below w.heap.size w w' := by
  obtain ⟨h1, -, h3⟩ := isG_good hg
  obtain ⟨h5, h4⟩ := (elV_all hg xs).1 hv
  have HD := Lib.hid (RefDecoded_any A c m n q g w hg hq ha)
  obtain ⟨l1, l2⟩ := less_end hg hq hv
  have HC := Lib.hid (fun (V : World) C d (ha : IntsAt V A g) (hb : IntsAt V C (lfL g (dcL g n q) xs g.length)) => RefCode_any A C c d m n g (lfL g (dcL g n q) xs g.length) V hg l1 ha hb)
  rw [l2] at HC
  have HDR := Lib.hid (dcL_rng hg hq)
  have hdl := dcL_len h3 n q
  have HLL := Lib.hid (lfL_len g (dcL g n q) xs)
  have HLG := Lib.hid (lfL_get g (dcL g n q) xs)
  have HLS : Hid (∀ k, lfL g (dcL g n q) xs (k + 1) = (lfL g (dcL g n q) xs k).set k (lfG g (dcL g n q) xs k)) := Lib.hid (fun k => rfl)
  have HLF : Hid (∀ j, lfG g (dcL g n q) xs j = (geti (dcL g n q) j - geti xs j) % geti g j) := Lib.hid (fun j => rfl)
  have HX := Lib.hid h4
  have HG := Lib.hid h1
  have HA := Lib.hid ha
  have HB := Lib.hid hb
  have hmn : q ≤ 1000 := by have := hg.2.2.2.1; omega
  obtain ⟨N, hN⟩ : ∃ N, g.length = N := ⟨_, rfl⟩
  have HN := Lib.hid hN
  have HM := Lib.hid h5
  have hN2 : N ≤ 2 := by omega
  have hN1 : 1 ≤ N := by omega
  rw [h5, hN]
  rw [hN] at HC HD hdl
  generalize dcL g n q = ys at *
  generalize lsN m n q (elA m xs, elB m xs) = R at *
  have HYL := Lib.hid hdl
  clear h1 h3 h4 h5 hN ha hb hg hv l1 l2 hq hdl
  go_enter Try.func51, Try.ntmps51
  go_wp2_with (go_at_call 43; refine HD.out.mono ?_; rintro e w1 ⟨gY, rfl, hgY, r0, b0⟩)
  rw [HYL.out]
  have q0 : Row w1 gY 3 (iv (lfL g ys xs 0)) := r0
  clear r0
  go_loopw [8] (fun i wr => ∃ k : Nat, k ≤ N ∧ i = .int .i64 k ∧ Row wr gY 3 (iv (lfL g ys xs k)) ∧ Below w.heap.size w wr) (fun i _ => N - (intOf i).toNat)
  case atStart => exact ⟨0, by omega, rfl, q0, b0⟩
  case round =>
    clear b0 q0
    obtain ⟨k, hk, rfl, q0, b0⟩ := hrel
    by_cases hlt : k < N
    · have g3 : decide ((k : Int) < (N : Int)) = true := decide_eq_true (by omega)
      obtain ⟨b, o, hAe, hb, hc⟩ := (HA.out.below b0) (by have := HN.out; omega)
      subst hAe
      obtain ⟨b', o', hBe, hb', hc'⟩ := (HB.out.below b0) (by have := HN.out; have := HM.out; omega)
      subst hBe
      have c1 := hc k (by have := HN.out; omega)
      have c2 := hc' k (by have := HN.out; have := HM.out; omega)
      have c3 := ivC q0 (i := k) (by rw [HLL.out, HYL.out]; exact hlt)
      rw [HLG.out k k (Nat.le_refl _)] at c3
      have f3 := q0.free k
      obtain ⟨x1, x2⟩ := HX.out k (by have := HN.out; omega)
      obtain ⟨z1, z2⟩ := HDR.out k (by have := HN.out; omega)
      have y1 := (HG.out k (by have := HN.out; omega)).1
      have ht := lf_rem z1 x2 x1
      have HLS1 := Lib.hid (HLS.out k)
      rw [HLF.out k] at HLS1
      have gz : (geti g k == 0) = false := by rw [beq_eq_false_iff_ne]; omega
      generalize geti ys k = z at *
      generalize geti g k = y at *
      generalize geti xs k = x at *
      generalize hr : (z - x) % y = r at *
      clear hc hc' hr
      go_wp2
      refine wp_region_quiet_tail 22 (by kernel_rfl) (by kernel_rfl) ?_
      simp only [List.take_succ_cons, List.take_zero, List.drop_succ_cons, List.drop_zero]
      repeat go_big_quiet_step ((fail))
      refine wpQuiet_nil ?_
      rintro _ ⟨nq, rfl⟩
      have c3 := ivC (q0.drewN nq) (i := k) (by rw [HLL.out, HYL.out]; exact hlt)
      have f3 := (q0.drewN nq).free k
      go_wp2
      go_roundw
      case rel =>
        refine ⟨k + 1, by omega, by go_num, ?_, (b0.trans (below_drewN nq)).setCell hgY _⟩
        have h := (q0.drewN nq).set k (.int .i64 r)
        rw [iv_setL, ← HLS1.out] at h
        exact h
      case measure => simp [intOf]; omega
    · obtain rfl : k = N := by omega
      have g3 : decide ((k : Int) < (k : Int)) = false := decide_eq_false (by omega)
      have hI : IntsAt wr (some ⟨gY, 0, none⟩) (lfL g ys xs k) := row_intsL q0
      have HC2 := Lib.hid (HC.out wr (some ⟨gY, 0, none⟩) k (HA.out.below b0) hI)
      rw [HLL.out, HYL.out] at HC2
      go_wp2_with (go_at_call 52; refine HC2.out.mono ?_; rintro e w2 ⟨rfl, b2⟩; replace b0 := b0.trans (b2.mono b0.size))
      go_ret
      exact ⟨rfl, b0⟩
end Go.Proofs.Ytokjdadgdfmffaa
