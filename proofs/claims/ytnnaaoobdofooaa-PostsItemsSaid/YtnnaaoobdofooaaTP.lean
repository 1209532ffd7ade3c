/- PostsLines, walked. -/
import Derived.Test.YtnnaaoobdofooaaTO
import Derived.Test.YtnnaaoobdofooaaTN
namespace Go.Proofs.Ytnnaaoobdofooaa
open Go.RowKit
set_option maxHeartbeats 1000000
set_option maxRecDepth 100000
theorem own_form {w : World} {C n : Nat} {t : TypeId} {v : Value} {xs : List Value} (h : w.ownsRow C t 1 v n xs) (hn : 0 < n) : ∃ g c, v = .slice (some ⟨g, 0, none⟩) n c ∧ C ≤ g ∧ g < w.heap.size ∧ ∀ j u, xs[j]? = some u → w.cell? ⟨g, j, none⟩ = some u := by
  rcases h.2 with ⟨_, h0⟩ | ⟨g, cap, cur, rfl, hb, hg, hc, hm, hs, ht⟩
  · omega
  · refine ⟨g, cap, rfl, hb, (Array.getElem?_eq_some_iff.1 hg).1, fun j u hj => ?_⟩
    have := h.cells (g := g) rfl j u hj
    rwa [WideShapes.add_plain, Nat.zero_add] at this
theorem PostsLines_any (n0 : Int) (A : Option Addr) (c : Nat) (L : List (List Int)) (p1 p2 : Int) (w : World) (_hx : L.length ≤ c) (_hc : c ≤ maxLen) (ha : RowsIn w A L) :
    Calls Try.prog 15 #[.int .i64 n0, .slice A L.length c, .agg #[.int .i64 p1, .int .i64 p2]] w fun e w' => e = .returned (.bool true) ∧ Below w.heap.size w w' := by
  have hmm := modI_lt n0 (n := 10) (by omega)
  have HM1 : Hid (∀ W : World, Calls Try.prog 43 #[.int .i64 n0, .int .i64 10] W fun e w' => e = .returned (.int .i64 (modI n0 10)) ∧ W = w') := Lib.hid (fun W => mod_any n0 10 W (by omega) (by omega))
  generalize modI n0 10 = m at *
  obtain ⟨n, hn⟩ : ∃ n, n = m + 1 := ⟨_, rfl⟩
  have hT := tmL_isT L (n := n) (mo := 9) (by omega) (by omega)
  have HTM : Hid (∀ (V : World) (z : Int), z = n → Below w.heap.size w V → Calls Try.prog 44 #[.slice A L.length c, .int .i64 z, .int .i64 9] V fun e w' => ∃ A' c' cs, e = .returned (.slice A' n c') ∧ w'.ownsRow V.heap.size 27 1 (.slice A' n c') n cs ∧ RowsOwn w' V.heap.size cs (tmL L n 9) ∧ Below V.heap.size V w') := Lib.hid (fun V z hz hV => by subst hz; exact tame_any A c L n 9 V (by omega) (by omega) (ha.below hV))
  have hTl : (tmL L n 9).length = n := tmP_len L n 9 n
  generalize tmL L n 9 = T at *
  have h1 := modI_lt p1 (n := n) (by omega)
  have h2 := modI_lt p2 (n := n) (by omega)
  have HMA : Hid (∀ (W : World) (z : Int), z = n → Calls Try.prog 43 #[.int .i64 p1, .int .i64 z] W fun e w' => e = .returned (.int .i64 (modI p1 n)) ∧ W = w') := Lib.hid (fun W z hz => by subst hz; exact mod_any p1 n W (by omega) (by omega))
  have HMB : Hid (∀ (W : World) (z : Int), z = n → Calls Try.prog 43 #[.int .i64 p2, .int .i64 z] W fun e w' => e = .returned (.int .i64 (modI p2 n)) ∧ W = w') := Lib.hid (fun W z hz => by subst hz; exact mod_any p2 n W (by omega) (by omega))
  generalize modI p1 n = r at *
  generalize modI p2 n = q at *
  have hrow : ∀ i, i < n → (getl T i).length = n := fun i hi => by have := hT.row i (by omega); rwa [hTl] at this
  have hK : IsT (setT T r q 1) := okT_iff.1 (okT_all (by rw [setT_len, hTl]; omega) (fun i hi => by
    rw [setT_len, hTl] at hi ⊢
    refine ⟨?_, fun k hk => ?_⟩
    · rw [getl_setT (by omega)]
      split
      · rw [List.length_set]; exact hrow r h1
      · exact hrow i hi
    · rw [gat_setT (by omega) (by rw [hrow r h1]; exact h2)]
      split
      · omega
      · have := hT.bd i k; omega))
  have hKl : (setT T r q 1).length = n := by rw [setT_len, hTl]
  have m1 := mN_turn hT (trL_isT hT) (by rw [trP_len]) (fun i k hi hk => trL_gat hi hk)
  obtain ⟨m2, m3⟩ := mN_more hT hK (by rw [setT_len]) (r := r) (c := q) (by omega) (fun i k _ _ => gat_setT (by omega) (by rw [hrow r h1]; exact h2) i k)
  have m4 := mN_all hT
  have m5 := mN_le T
  rw [hTl] at m5
  have hcl : 0 < chN T (sAll T.length) → (itm T T.length (sAll T.length) 0).length = T.length := fun h => (itm_poss hT (Int.le_refl 0) h).2
  have htl : (trL T).length = n := by rw [trP_len, hTl]
  have HMT : Hid (∀ (V : World) A c, RowsAt V A T → Calls Try.prog 36 #[.slice A n c] V fun e w' => ∃ A1 c1 A2 c2 A3 c3 k2 k3, e = .returned (.tuple #[.slice A1 (mN T) c1, .slice A2 k2 c2, .slice A3 k3 c3, .int .i64 0]) ∧ Below V.heap.size V w') := Lib.hid (fun V A c hV => by
    have := Most_yes A c T V hT hV
    rw [hTl] at this
    refine this.mono ?_
    rintro e w' ⟨A1, c1, A2, c2, A3, c3, rfl, -, -, -, b⟩
    exact ⟨A1, c1, A2, c2, A3, c3, _, _, by rw [← hTl, rsP_len]; rfl, b⟩)
  have HMR : Hid (∀ (V : World) A c, RowsAt V A (trL T) → Calls Try.prog 36 #[.slice A n c] V fun e w' => ∃ A1 c1 A2 c2 A3 c3 k2 k3, e = .returned (.tuple #[.slice A1 (mN T) c1, .slice A2 k2 c2, .slice A3 k3 c3, .int .i64 0]) ∧ Below V.heap.size V w') := Lib.hid (fun V A c hV => by
    have := Most_yes A c (trL T) V (trL_isT hT) hV
    rw [htl] at this
    refine this.mono ?_
    rintro e w' ⟨A1, c1, A2, c2, A3, c3, rfl, -, -, -, b⟩
    exact ⟨A1, c1, A2, c2, A3, c3, _, _, by rw [m1, ← htl, rsP_len]; rfl, b⟩)
  have HMK : Hid (∀ (V : World) A c, RowsAt V A (setT T r q 1) → Calls Try.prog 36 #[.slice A n c] V fun e w' => ∃ A1 c1 A2 c2 A3 c3 k2 k3, e = .returned (.tuple #[.slice A1 (mN (setT T r q 1)) c1, .slice A2 k2 c2, .slice A3 k3 c3, .int .i64 0]) ∧ Below V.heap.size V w') := Lib.hid (fun V A c hV => by
    have := Most_yes A c (setT T r q 1) V hK hV
    rw [hKl] at this
    refine this.mono ?_
    rintro e w' ⟨A1, c1, A2, c2, A3, c3, rfl, -, -, -, b⟩
    exact ⟨A1, c1, A2, c2, A3, c3, _, _, by rw [← hKl, rsP_len]; rfl, b⟩)
  have HCH : Hid (∀ (V : World) A c, RowsAt V A T → Calls Try.prog 31 #[.slice A n c] V fun e w' => ∃ A1 c1 k1 A2 c2 k2, e = .returned (.tuple #[.slice A1 k1 c1, .slice A2 k2 c2, .int .i64 0]) ∧ (mN T = n ↔ k1 = n) ∧ Below V.heap.size V w') := Lib.hid (fun V A c hV => by
    by_cases hk : 0 < chN T (sAll T.length)
    · have := Choose_yes A c T V hT hk hV
      rw [hTl] at this
      refine this.mono ?_
      rintro e w' ⟨A1, c1, rfl, -, b⟩
      refine ⟨A1, c1, _, none, 0, 0, rfl, ?_, b⟩
      have := hcl hk
      rw [hTl] at this m4
      exact ⟨fun _ => this, fun _ => m4.2 (by rw [← hTl]; rw [hTl]; exact (by rwa [hTl] at hk))⟩
    · have := Choose_none A c T V hT (by omega) hV
      rw [hTl] at this
      refine this.mono ?_
      rintro e w' ⟨A2, c2, rfl, -, b⟩
      refine ⟨none, 0, 0, A2, c2, _, rfl, ?_, b⟩
      rw [hTl] at m4 hk
      exact ⟨fun h => absurd (m4.1 h) hk, fun h => by omega⟩)
  have HTB : Hid (∀ (V : World) A c, RowsIn V A T → Calls Try.prog 17 #[.slice A n c] V fun e w' => ∃ A' c' cs, e = .returned (.slice A' n c') ∧ w'.ownsRow V.heap.size 27 1 (.slice A' n c') n cs ∧ RowsOwn w' V.heap.size cs T ∧ Apt cs ∧ Below V.heap.size V w') := Lib.hid (fun V A c hV => by
    have := table_apt A c T V (by unfold maxLen; omega) hV
    rw [tbR_all hT, hTl, show min n 11 = n by omega] at this
    exact this)
  have HTU : Hid (∀ (V : World) A c, RowsAt V A T → Calls Try.prog 45 #[.slice A n c] V fun e w' => ∃ A' c' cs, e = .returned (.slice A' n c') ∧ w'.ownsRow V.heap.size 27 1 (.slice A' n c') n cs ∧ RowsOwn w' V.heap.size cs (trL T) ∧ Below V.heap.size V w') := Lib.hid (fun V A c hV => by
    have := turned_any A c T V hT hV
    rw [hTl] at this
    exact this)
  have HRO := Lib.hid hrow
  have HTL := Lib.hid hTl
  generalize mN (setT T r q 1) = y at *
  generalize mN T = x at *
  have b0 : Below w.heap.size w (w.alloc (.cells #[.int .i64 p1, .int .i64 p2] 36)) := (Below.refl _ _).alloc (Nat.le_refl _) _
  have q0 : Row (w.alloc (.cells #[.int .i64 p1, .int .i64 p2] 36)) w.heap.size 36 [.int .i64 p1, .int .i64 p2] := row_new rfl
  have HN := Lib.hid hn
  have hn10 : 1 ≤ n ∧ n ≤ 10 := by omega
  clear hn ha m1 m4 hcl htl hK hKl hT hrow hTl
  go_enter Try.func15, Try.ntmps15
  go_wp2_with (first | (go_at_call 43; refine (HM1.out _).mono ?_; rintro e w1 ⟨rfl, rfl⟩) | (go_at_call 44; fail))
  refine (HTM.out _ _ (by have := HN.out; omega) b0).mono ?_
  rintro e w2 ⟨A2, c2, cs2, rfl, o2, R2, b2⟩
  have I2 := Lib.hid (rows_in R2 o2)
  have C2 := Lib.hid (rows_at R2 o2)
  have z2 := Below.refl w2.heap.size w2
  have q2 := Lib.hid (q0.below b2)
  replace b2 := b0.trans (b2.mono b0.size)
  clear HTM R2 o2 HM1 q0 b0
  go_wp2_with (go_at_call 36; fail)
  refine (HMT.out _ A2 c2 C2.out).mono ?_
  rintro e w3 ⟨A3, c3, A4, c4, A5, c5, k4, k5, rfl, b3⟩
  have z3 := z2.trans b3
  clear HMT b3
  go_wp2_with (go_at_call 45; fail)
  refine (HTU.out _ A2 c2 (C2.out.below z3)).mono ?_
  rintro e w4 ⟨A6, c6, cs6, rfl, o6, R6, b4⟩
  have C6 := Lib.hid (rows_at R6 o6)
  have z4 := z3.trans (b4.mono z3.size)
  clear HTU b4 o6 R6 z3
  go_wp2_with (go_at_call 36; fail)
  refine (HMR.out _ A6 c6 C6.out).mono ?_
  rintro e w5 ⟨A7, c7, A8, c8, A9, c9, k8, k9, rfl, b5⟩
  have z5 := z4.trans (b5.mono z4.size)
  clear HMR b5 C6 z4
  go_wp2_with (go_at_call 31; fail)
  refine (HCH.out _ A2 c2 (C2.out.below z5)).mono ?_
  rintro e w6 ⟨B1, d1, j1, B2, d2, j2, rfl, hj, b6⟩
  have z6 := z5.trans (b6.mono z5.size)
  clear HCH b6 z5
  go_wp2_with (go_at_call 17; fail)
  refine (HTB.out _ A2 c2 (I2.out.below z6)).mono ?_
  rintro e w7 ⟨A10, c10, cs10, rfl, o10, R10, P10, b7⟩
  have z7 := z6.trans (b7.mono z6.size)
  clear HTB b7 I2 C2
  have hTn := HTL.out
  obtain ⟨g, cg, cur, hcs, hgB, hgh, hcell, hfz, HPUT⟩ := R10.put P10 (r := r) (k := q) (by omega) (by rw [HRO.out r h1]; exact h2)
  rw [HRO.out r h1] at hcs
  obtain ⟨gm, cm, e10, hgm, hgl, hcm⟩ := own_form o10 (by omega)
  injection e10 with e11 e12 e13
  subst e11 e13
  have er := hcm r _ hcs
  obtain ⟨⟨cA0, cA1⟩, -⟩ := (q2.out.below z7).cells2
  have HO10 := Lib.hid (own_far_t (k := q) (v := .int .i64 1) o10 (by decide) hgh)
  have HR10 := Lib.hid (HPUT 1)
  clear hcs o10 R10 P10 hcm HPUT hTn
  have h1n : decide ((r : Int) < (n : Int)) = true := decide_eq_true (by omega)
  go_wp2_with (go_at_call 43; fail)
  refine (HMA.out _ _ (by have := HN.out; omega)).mono ?_
  rintro e w8 ⟨rfl, rfl⟩
  have hrn : r < n := h1
  go_wp2_with (go_at_call 43; fail)
  refine (HMB.out _ _ (by have := HN.out; omega)).mono ?_
  rintro e w8 ⟨rfl, rfl⟩
  have gx : ((x : Int) == (x : Int)) = true := by simp
  have gy : decide (x ≤ y) = true := decide_eq_true (by omega)
  have hxy : x ≤ y := by omega
  have hxi : (0 : Int) ≤ (x : Int) ∧ (x : Int) ≤ 10 := by omega
  obtain ⟨hxi0, hxi1⟩ := hxi
  have gz : decide ((y : Int) ≤ (x : Int) + 1) = true := decide_eq_true (by omega)
  have hyx : (y : Int) ≤ (x : Int) + 1 := by omega
  obtain ⟨bb, hb1, hb2⟩ : ∃ bb : Bool, ((x : Int) == 1 + (m : Int)) = bb ∧ ((j1 : Int) == 1 + (m : Int)) = bb := by
    have := HN.out
    by_cases e : x = n
    · exact ⟨true, by rw [beq_iff_eq]; omega, by rw [beq_iff_eq]; have := hj.1 e; omega⟩
    · exact ⟨false, by rw [beq_eq_false_iff_ne]; omega, by rw [beq_eq_false_iff_ne]; have : ¬ j1 = n := fun h => e (hj.2 h); omega⟩
  have gb : (bb == bb) = true := by simp
  clear hj m2 m3 m5 HMA HMB
  go_wp2_with (go_at_call 36; fail)
  have hs1 := b2.size
  have hs2 := z6.size
  refine (HMK.out _ _ _ (rows_at HR10.out HO10.out)).mono ?_
  rintro e w9 ⟨F1, f1, F2, f2, F3, f3, l2, l3, rfl, b9⟩
  have b8 := (b2.trans (z7.mono b2.size)).setCell (p := ⟨g, q, none⟩) (by dsimp only; omega) (.int .i64 1)
  replace b9 := b8.trans (b9.mono b8.size)
  clear HMK HR10 HO10 b8 z7 z6 z2 b2 hs1 hs2 q2 HRO HTL hcell hfz hgh er cA0 cA1
  clear hmm h1 h2 hn10 h1n hrn hgB hgm hgl e12
  go_wp2_with (go_at_call 21; refine (awake_any _).mono ?_; rintro e w5 ⟨rfl, b5⟩; replace b9 := b9.trans (b5.mono b9.size); clear b5)
  go_ret
  exact ⟨rfl, b9⟩
end Go.Proofs.Ytnnaaoobdofooaa
