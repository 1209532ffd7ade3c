/- OrderAll, walked. -/
import Derived.Test.YtheblebfeinjjaaOG
namespace Go.Proofs.Ytheblebfeinjjaa
open Go.RowKit
set_option maxHeartbeats 2000000
set_option maxRecDepth 100000
def Z20 : List Int := List.replicate 20 0
theorem z46 : ∀ w, (zeroValue 46).run Try.prog w = .ok (.agg (iv Z20).toArray) w := (zero_of_info (n := 20) (by kernel_rfl)).1
theorem cells6' {w : World} {g : Nat} {a b c d e f : Int} (h : Row w g 25 (iv [a, b, c, d, e, f])) : w.cell? ⟨g, 0, none⟩ = some (.int .i64 a) ∧ w.cell? ⟨g, 1, none⟩ = some (.int .i64 b) ∧ w.cell? ⟨g, 2, none⟩ = some (.int .i64 c) ∧ w.cell? ⟨g, 3, none⟩ = some (.int .i64 d) ∧ w.cell? ⟨g, 4, none⟩ = some (.int .i64 e) ∧ w.cell? ⟨g, 5, none⟩ = some (.int .i64 f) :=
  ⟨(h.cell 0).trans rfl, (h.cell 1).trans rfl, (h.cell 2).trans rfl, (h.cell 3).trans rfl, (h.cell 4).trans rfl, (h.cell 5).trans rfl⟩
/-- The six tables. -/
structure Tabs (W : World) (g n k : Nat) : Prop where
  t0 : Row W g 46 (iv (tS 0 n k))
  t1 : Row W (g + 1) 46 (iv (tS 1 n k))
  t2 : Row W (g + 1 + 1) 46 (iv (tS 2 n k))
  t3 : Row W (g + 1 + 1 + 1) 46 (iv (tS 3 n k))
  t4 : Row W (g + 1 + 1 + 1 + 1) 46 (iv (tS 4 n k))
  t5 : Row W (g + 1 + 1 + 1 + 1 + 1) 46 (iv (tS 5 n k))
theorem Tabs.below {W W' : World} {g n k : Nat} (h : Tabs W g n k) (hb : Below W.heap.size W W') : Tabs W' g n k := ⟨h.t0.below hb, h.t1.below hb, h.t2.below hb, h.t3.below hb, h.t4.below hb, h.t5.below hb⟩
theorem Tabs.lt {W : World} {g n k : Nat} (h : Tabs W g n k) : g + 5 < W.heap.size := h.t5.lt
theorem nmK_lit {n k : Nat} (h : okN (nmK n k) = true) : ∃ a b c d e f : Nat, nmK n k = [(a : Int), b, c, d, e, f] ∧ a ≤ 10 ∧ b ≤ 10 ∧ c ≤ 5 ∧ d ≤ 5 ∧ e ≤ 5 ∧ f ≤ 5 := by
  unfold okN at h
  simp only [Bool.and_eq_true, decide_eq_true_eq] at h
  obtain ⟨⟨⟨⟨⟨h0, h1⟩, h2⟩, h3⟩, h4⟩, h5⟩ := h
  obtain ⟨x, b, c, d, e, f, he⟩ : ∃ (x : Int) (b c d e f : Nat), nmK n k = [x, (b : Int), (c : Int), (d : Int), (e : Int), (f : Int)] := ⟨_, _, _, _, _, _, rfl⟩
  rw [he] at h0 h1 h2 h3 h4 h5
  have h0' : 0 ≤ x ∧ x ≤ 10 := h0
  have h1' : 0 ≤ (b : Int) ∧ (b : Int) ≤ 10 := h1
  have h2' : 0 ≤ (c : Int) ∧ (c : Int) ≤ 5 := h2
  have h3' : 0 ≤ (d : Int) ∧ (d : Int) ≤ 5 := h3
  have h4' : 0 ≤ (e : Int) ∧ (e : Int) ≤ 5 := h4
  have h5' : 0 ≤ (f : Int) ∧ (f : Int) ≤ 5 := h5
  obtain ⟨a, rfl⟩ := Int.eq_ofNat_of_zero_le h0'.1
  exact ⟨a, b, c, d, e, f, he, by omega, by omega, by omega, by omega, by omega, by omega⟩
theorem tS_step {n k s a : Nat} (h : geti (nmK n k) s = a) (ha : a < 20) : (iv (tS s n k)).set a (.int .i64 (geti (tS s n k) a + 1)) = iv (tS s n (k + 1)) := by
  rw [iv_set]
  congr 1
  unfold tS
  rw [h, Int.toNat_natCast]
  cases k <;> rfl
theorem OrderAll_any (x : Int) (w : World) : Calls Try.prog 12 #[.int .i64 x] w fun e w' => e = .returned (.bool true) ∧ Below w.heap.size w w' := by
  have hz := z46
  have hn := modI_lt x (show 0 < 6 by omega)
  have HM1 := Lib.hid (mod_any x 6 w (by omega) (by omega))
  generalize modI x 6 = n at *
  obtain ⟨g, hg⟩ : ∃ g, w.heap.size = g := ⟨_, rfl⟩
  have T0 : Tabs ((((((w.alloc (.cells (iv Z20).toArray 46)).alloc (.cells (iv Z20).toArray 46)).alloc (.cells (iv Z20).toArray 46)).alloc (.cells (iv Z20).toArray 46)).alloc (.cells (iv Z20).toArray 46)).alloc (.cells (iv Z20).toArray 46)) g n 0 := ⟨((((((row_new hg).alloc _).alloc _).alloc _).alloc _).alloc _), (((((row_new (by simp [hg])).alloc _).alloc _).alloc _).alloc _), ((((row_new (by simp [hg])).alloc _).alloc _).alloc _), (((row_new (by simp [hg])).alloc _).alloc _), ((row_new (by simp [hg])).alloc _), (row_new (by simp [hg]))⟩
  have b0 : Below g w ((((((w.alloc (.cells (iv Z20).toArray 46)).alloc (.cells (iv Z20).toArray 46)).alloc (.cells (iv Z20).toArray 46)).alloc (.cells (iv Z20).toArray 46)).alloc (.cells (iv Z20).toArray 46)).alloc (.cells (iv Z20).toArray 46)) := by
    rw [← hg]
    (repeat (first | exact Below.refl _ _ | assumption | (refine Below.setCell ?_ (by first | exact Nat.le_refl _ | omega | (simp; done) | (simp; omega)) _) | (refine Below.trans ?_ (below_drewN _)) | (refine Below.drew ?_) | (refine Below.alloc ?_ (by first | exact Nat.le_refl _ | omega | (simp; done) | (simp; omega)) _) | (refine below_row ?_ (by first | exact Nat.le_refl _ | omega | (simp; done) | (simp; omega)) _)))
  have hN18 : n ≤ 18 := by omega
  have hF : facN n ≤ 120 := by
    have : ∀ n, n < 6 → facN n ≤ 120 := by decide
    exact this n hn
  have HFA := Lib.hid (fun w => Factorial_any n w (by omega))
  have HOK := Lib.hid (fun k (hk : k < facN n) => all_ok hn hk)
  have HFI := Lib.hid (fun j (hj : j < 20) => fin_ok hn hj)
  have HIT := Lib.hid (fun k (hk : k < facN n) w => Item_yes n k w (by omega) (by omega) (HOK.out k hk).2)
  have HML : Hid (∀ k, (mdL (dgL k n)).length = n) := Lib.hid (fun k => by unfold mdL; rw [wtN_len, dgL_len])
  have HNU := Lib.hid (fun k (A : Option Addr) c (w : World) (ha : IntsAt w A (mdL (dgL k n))) => (HML.out k) ▸ Numbers_yes A c (mdL (dgL k n)) w (okT_iso (by rw [dgL_len]; omega) (dgL_ok k n)) ha)
  have HCI : Hid (∀ (j : Nat) (w : World), Calls Try.prog 37 #[.int .i64 n, .int .i64 j] w fun e w' => e = .returned (.tuple #[.int .i64 (getn (rowN mI n) j : Nat), .int .i64 0]) ∧ Below w.heap.size w w') := Lib.hid (fun j w => cntV_ok (m := mI) hN18 ▸ Inversions_any n j w)
  have HCD : Hid (∀ (j : Nat) (w : World), Calls Try.prog 38 #[.int .i64 n, .int .i64 j] w fun e w' => e = .returned (.tuple #[.int .i64 (getn (rowN mD n) j : Nat), .int .i64 0]) ∧ Below w.heap.size w w') := Lib.hid (fun j w => cntV_ok (m := mD) hN18 ▸ Descents_any n j w)
  have HCC : Hid (∀ (j : Nat) (w : World), Calls Try.prog 39 #[.int .i64 n, .int .i64 j] w fun e w' => e = .returned (.tuple #[.int .i64 (getn (rowN mC n) j : Nat), .int .i64 0]) ∧ Below w.heap.size w w') := Lib.hid (fun j w => cntV_ok (m := mC) hN18 ▸ CyclesOf_any n j w)
  rw [hg]
  have HG := Lib.hid hg
  go_enter Try.func12, Try.ntmps12
  go_wp2_with (go_at_call 48; refine HM1.out.mono ?_; rintro e w1 ⟨rfl, rfl⟩)
  clear hg hN18
  obtain ⟨F, hFe⟩ : ∃ F, facN n = F := ⟨_, rfl⟩
  rw [hFe] at hF HFA HOK HFI HIT
  clear hFe
  go_loopw [9] (fun i wr => ∃ k : Nat, k ≤ F ∧ i = .int .i64 k ∧ Tabs wr g n k ∧ Below g w wr) (fun i _ => F - (intOf i).toNat)
  case atStart => exact ⟨0, by omega, rfl, T0, b0⟩
  case round =>
    clear T0 b0
    obtain ⟨k, hk, rfl, T0, b0⟩ := hrel
    by_cases hlt : k < F
    · obtain ⟨a0, a1, a2, a3, a4, a5, hM, l0, l1, l2, l3, l4, l5⟩ := nmK_lit (HOK.out k hlt).1
      have HIK := Lib.hid (fun w => HIT.out k hlt w)
      have HNK := Lib.hid (fun (A : Option Addr) c (w : World) (ha : IntsAt w A (mdL (dgL k n))) => HNU.out k A c w ha)
      rw [show nmL (mdL (dgL k n)) = nmK n k from rfl, hM] at HNK
      have HS0 := Lib.hid (tS_step (n := n) (k := k) (s := 0) (a := a0) (by rw [hM]; rfl) (by omega))
      have HS1 := Lib.hid (tS_step (n := n) (k := k) (s := 1) (a := a1) (by rw [hM]; rfl) (by omega))
      have HS2 := Lib.hid (tS_step (n := n) (k := k) (s := 2) (a := a2) (by rw [hM]; rfl) (by omega))
      have HS3 := Lib.hid (tS_step (n := n) (k := k) (s := 3) (a := a3) (by rw [hM]; rfl) (by omega))
      have HS4 := Lib.hid (tS_step (n := n) (k := k) (s := 4) (a := a4) (by rw [hM]; rfl) (by omega))
      have HS5 := Lib.hid (tS_step (n := n) (k := k) (s := 5) (a := a5) (by rw [hM]; rfl) (by omega))
      have hi6 : (Try.prog.info? 25).map (·.size) = some (iv [(a0 : Int), a1, a2, a3, a4, a5]).toArray.size := info25
      have hs6 : Z6.toArray.size = (iv [(a0 : Int), a1, a2, a3, a4, a5]).toArray.size := rfl
      clear hM
      go_wp2_with (first
        | (go_at_call 44; refine (HFA.out _).mono ?_; rintro e w1 ⟨rfl, rfl⟩)
        | (go_at_call 40; fail))
      refine (HIK.out _).mono ?_
      rintro e w2 ⟨A, c, rfl, i2, -, b2⟩
      have I2 := Lib.hid i2
      have T2 := Lib.hid (T0.below b2)
      have hgw := b0.size
      replace b2 := b0.trans (b2.mono (by have := T0.lt; omega))
      clear i2 T0 b0
      go_wp2_with (first
        | (go_at_call 16; refine (HNK.out _ _ _ I2.out).mono ?_; rintro e w3 ⟨rfl, b3⟩; have T3 := T2.out.below b3; have hlt3 := T3.lt; replace b2 := b2.trans (b3.mono (by have := T2.out.lt; omega)); clear b3; have q3 : Row (w3.alloc (.cells Z6.toArray 25)) w3.heap.size 25 Z6 := row_new rfl)
        | ((with_reducible refine (?_ : wpList _ _ _ (Oper.mk none _ _ _ _ _ :: _) _ _)); with_reducible refine (?_ : wpList _ _ _ (Oper.mk _ (Op.store 25 (.tmp 12) _) _ _ _ _ :: _) _ _); refine wpList_store_row rfl 25 (.tmp 12) (.tmp 38) rfl w3.heap.size (iv [(a0 : Int), a1, a2, a3, a4, a5]).toArray rfl rfl 25 Z6.toArray (row_heap q3) hi6 hs6 (iv_all _) ?_; replace q3 := q3.row (iv [(a0 : Int), a1, a2, a3, a4, a5]); have T4 : Tabs ((w3.alloc (.cells Z6.toArray 25)).setRow w3.heap.size (iv [(a0 : Int), a1, a2, a3, a4, a5]).toArray) g n k := ⟨(T3.t0.alloc _).row_far (by omega) _, (T3.t1.alloc _).row_far (by omega) _, (T3.t2.alloc _).row_far (by omega) _, (T3.t3.alloc _).row_far (by omega) _, (T3.t4.alloc _).row_far (by omega) _, (T3.t5.alloc _).row_far (by omega) _⟩; have b4 := below_row (g := w3.heap.size) (b2.alloc (by omega) (.cells Z6.toArray 25)) (by omega) (iv [(a0 : Int), a1, a2, a3, a4, a5]).toArray; clear b2; generalize World.setRow (w3.alloc _) _ _ = W at *; obtain ⟨d0, d1, d2, d3, d4, d5⟩ := cells6' q3))
      obtain ⟨t0, t1, t2, t3, t4, t5⟩ := T4
      clear T3 I2 T2
      have c0 := ivR t0 (i := a0) (by rw [tS_len]; omega)
      have x0 := tS_le 0 n k a0
      generalize geti (tS 0 n k) a0 = x at *
      obtain ⟨x1, x2⟩ := x0
      refine wp_region_quiet_tail 8 (by kernel_rfl) (by kernel_rfl) ?_
      simp only [List.take_succ_cons, List.take_zero, List.drop_succ_cons, List.drop_zero]
      repeat go_big_quiet_step ((fail))
      refine wpQuiet_nil ?_
      rintro _ ⟨nq, rfl⟩
      have c1 : (W.drewN nq).cell? ⟨g, a0, none⟩ = some (.int .i64 x) := c0
      have f1 := (t0.drewN nq).free a0
      clear c0 d0 d1 d2 d3 d4 d5
      go_wp2
      replace t0 : Row ((W.drewN nq).setCell ⟨g, a0, none⟩ (.int .i64 (x + 1))) (g) 46 (iv (tS 0 n (k + 1))) := by rw [← HS0.out]; exact (t0.drewN nq).set a0 _
      replace t1 := (t1.drewN nq).far (p := ⟨g, a0, none⟩) (by dsimp only; omega) (.int .i64 (x + 1))
      replace t2 := (t2.drewN nq).far (p := ⟨g, a0, none⟩) (by dsimp only; omega) (.int .i64 (x + 1))
      replace t3 := (t3.drewN nq).far (p := ⟨g, a0, none⟩) (by dsimp only; omega) (.int .i64 (x + 1))
      replace t4 := (t4.drewN nq).far (p := ⟨g, a0, none⟩) (by dsimp only; omega) (.int .i64 (x + 1))
      replace t5 := (t5.drewN nq).far (p := ⟨g, a0, none⟩) (by dsimp only; omega) (.int .i64 (x + 1))
      replace q3 := (q3.drewN nq).far (p := ⟨g, a0, none⟩) (by dsimp only; omega) (.int .i64 (x + 1))
      replace b4 := (b4.trans (below_drewN nq)).setCell (p := ⟨g, a0, none⟩) (by dsimp only; omega) (.int .i64 (x + 1))
      clear c1 f1 x1 x2 HS0
      generalize World.setCell (World.drewN W nq) _ _ = W1 at *
      clear nq
      obtain ⟨d0, d1, d2, d3, d4, d5⟩ := cells6' q3
      have c0 := ivR t1 (i := a1) (by rw [tS_len]; omega)
      have x0 := tS_le 1 n k a1
      generalize geti (tS 1 n k) a1 = x at *
      obtain ⟨x1, x2⟩ := x0
      refine wp_region_quiet_tail 8 (by kernel_rfl) (by kernel_rfl) ?_
      simp only [List.take_succ_cons, List.take_zero, List.drop_succ_cons, List.drop_zero]
      repeat go_big_quiet_step ((fail))
      refine wpQuiet_nil ?_
      rintro _ ⟨nq, rfl⟩
      have c1 : (W1.drewN nq).cell? ⟨g + 1, a1, none⟩ = some (.int .i64 x) := c0
      have f1 := (t1.drewN nq).free a1
      clear c0 d0 d1 d2 d3 d4 d5
      go_wp2
      replace t1 : Row ((W1.drewN nq).setCell ⟨g + 1, a1, none⟩ (.int .i64 (x + 1))) (g + 1) 46 (iv (tS 1 n (k + 1))) := by rw [← HS1.out]; exact (t1.drewN nq).set a1 _
      replace t0 := (t0.drewN nq).far (p := ⟨g + 1, a1, none⟩) (by dsimp only; omega) (.int .i64 (x + 1))
      replace t2 := (t2.drewN nq).far (p := ⟨g + 1, a1, none⟩) (by dsimp only; omega) (.int .i64 (x + 1))
      replace t3 := (t3.drewN nq).far (p := ⟨g + 1, a1, none⟩) (by dsimp only; omega) (.int .i64 (x + 1))
      replace t4 := (t4.drewN nq).far (p := ⟨g + 1, a1, none⟩) (by dsimp only; omega) (.int .i64 (x + 1))
      replace t5 := (t5.drewN nq).far (p := ⟨g + 1, a1, none⟩) (by dsimp only; omega) (.int .i64 (x + 1))
      replace q3 := (q3.drewN nq).far (p := ⟨g + 1, a1, none⟩) (by dsimp only; omega) (.int .i64 (x + 1))
      replace b4 := (b4.trans (below_drewN nq)).setCell (p := ⟨g + 1, a1, none⟩) (by dsimp only; omega) (.int .i64 (x + 1))
      clear c1 f1 x1 x2 HS1
      generalize World.setCell (World.drewN W1 nq) _ _ = W2 at *
      clear nq
      obtain ⟨d0, d1, d2, d3, d4, d5⟩ := cells6' q3
      have c0 := ivR t2 (i := a2) (by rw [tS_len]; omega)
      have x0 := tS_le 2 n k a2
      generalize geti (tS 2 n k) a2 = x at *
      obtain ⟨x1, x2⟩ := x0
      refine wp_region_quiet_tail 8 (by kernel_rfl) (by kernel_rfl) ?_
      simp only [List.take_succ_cons, List.take_zero, List.drop_succ_cons, List.drop_zero]
      repeat go_big_quiet_step ((fail))
      refine wpQuiet_nil ?_
      rintro _ ⟨nq, rfl⟩
      have c1 : (W2.drewN nq).cell? ⟨g + 1 + 1, a2, none⟩ = some (.int .i64 x) := c0
      have f1 := (t2.drewN nq).free a2
      clear c0 d0 d1 d2 d3 d4 d5
      go_wp2
      replace t2 : Row ((W2.drewN nq).setCell ⟨g + 1 + 1, a2, none⟩ (.int .i64 (x + 1))) (g + 1 + 1) 46 (iv (tS 2 n (k + 1))) := by rw [← HS2.out]; exact (t2.drewN nq).set a2 _
      replace t0 := (t0.drewN nq).far (p := ⟨g + 1 + 1, a2, none⟩) (by dsimp only; omega) (.int .i64 (x + 1))
      replace t1 := (t1.drewN nq).far (p := ⟨g + 1 + 1, a2, none⟩) (by dsimp only; omega) (.int .i64 (x + 1))
      replace t3 := (t3.drewN nq).far (p := ⟨g + 1 + 1, a2, none⟩) (by dsimp only; omega) (.int .i64 (x + 1))
      replace t4 := (t4.drewN nq).far (p := ⟨g + 1 + 1, a2, none⟩) (by dsimp only; omega) (.int .i64 (x + 1))
      replace t5 := (t5.drewN nq).far (p := ⟨g + 1 + 1, a2, none⟩) (by dsimp only; omega) (.int .i64 (x + 1))
      replace q3 := (q3.drewN nq).far (p := ⟨g + 1 + 1, a2, none⟩) (by dsimp only; omega) (.int .i64 (x + 1))
      replace b4 := (b4.trans (below_drewN nq)).setCell (p := ⟨g + 1 + 1, a2, none⟩) (by dsimp only; omega) (.int .i64 (x + 1))
      clear c1 f1 x1 x2 HS2
      generalize World.setCell (World.drewN W2 nq) _ _ = W3 at *
      clear nq
      obtain ⟨d0, d1, d2, d3, d4, d5⟩ := cells6' q3
      have c0 := ivR t3 (i := a3) (by rw [tS_len]; omega)
      have x0 := tS_le 3 n k a3
      generalize geti (tS 3 n k) a3 = x at *
      obtain ⟨x1, x2⟩ := x0
      refine wp_region_quiet_tail 8 (by kernel_rfl) (by kernel_rfl) ?_
      simp only [List.take_succ_cons, List.take_zero, List.drop_succ_cons, List.drop_zero]
      repeat go_big_quiet_step ((fail))
      refine wpQuiet_nil ?_
      rintro _ ⟨nq, rfl⟩
      have c1 : (W3.drewN nq).cell? ⟨g + 1 + 1 + 1, a3, none⟩ = some (.int .i64 x) := c0
      have f1 := (t3.drewN nq).free a3
      clear c0 d0 d1 d2 d3 d4 d5
      go_wp2
      replace t3 : Row ((W3.drewN nq).setCell ⟨g + 1 + 1 + 1, a3, none⟩ (.int .i64 (x + 1))) (g + 1 + 1 + 1) 46 (iv (tS 3 n (k + 1))) := by rw [← HS3.out]; exact (t3.drewN nq).set a3 _
      replace t0 := (t0.drewN nq).far (p := ⟨g + 1 + 1 + 1, a3, none⟩) (by dsimp only; omega) (.int .i64 (x + 1))
      replace t1 := (t1.drewN nq).far (p := ⟨g + 1 + 1 + 1, a3, none⟩) (by dsimp only; omega) (.int .i64 (x + 1))
      replace t2 := (t2.drewN nq).far (p := ⟨g + 1 + 1 + 1, a3, none⟩) (by dsimp only; omega) (.int .i64 (x + 1))
      replace t4 := (t4.drewN nq).far (p := ⟨g + 1 + 1 + 1, a3, none⟩) (by dsimp only; omega) (.int .i64 (x + 1))
      replace t5 := (t5.drewN nq).far (p := ⟨g + 1 + 1 + 1, a3, none⟩) (by dsimp only; omega) (.int .i64 (x + 1))
      replace q3 := (q3.drewN nq).far (p := ⟨g + 1 + 1 + 1, a3, none⟩) (by dsimp only; omega) (.int .i64 (x + 1))
      replace b4 := (b4.trans (below_drewN nq)).setCell (p := ⟨g + 1 + 1 + 1, a3, none⟩) (by dsimp only; omega) (.int .i64 (x + 1))
      clear c1 f1 x1 x2 HS3
      generalize World.setCell (World.drewN W3 nq) _ _ = W4 at *
      clear nq
      obtain ⟨d0, d1, d2, d3, d4, d5⟩ := cells6' q3
      have c0 := ivR t4 (i := a4) (by rw [tS_len]; omega)
      have x0 := tS_le 4 n k a4
      generalize geti (tS 4 n k) a4 = x at *
      obtain ⟨x1, x2⟩ := x0
      refine wp_region_quiet_tail 8 (by kernel_rfl) (by kernel_rfl) ?_
      simp only [List.take_succ_cons, List.take_zero, List.drop_succ_cons, List.drop_zero]
      repeat go_big_quiet_step ((fail))
      refine wpQuiet_nil ?_
      rintro _ ⟨nq, rfl⟩
      have c1 : (W4.drewN nq).cell? ⟨g + 1 + 1 + 1 + 1, a4, none⟩ = some (.int .i64 x) := c0
      have f1 := (t4.drewN nq).free a4
      clear c0 d0 d1 d2 d3 d4 d5
      go_wp2
      replace t4 : Row ((W4.drewN nq).setCell ⟨g + 1 + 1 + 1 + 1, a4, none⟩ (.int .i64 (x + 1))) (g + 1 + 1 + 1 + 1) 46 (iv (tS 4 n (k + 1))) := by rw [← HS4.out]; exact (t4.drewN nq).set a4 _
      replace t0 := (t0.drewN nq).far (p := ⟨g + 1 + 1 + 1 + 1, a4, none⟩) (by dsimp only; omega) (.int .i64 (x + 1))
      replace t1 := (t1.drewN nq).far (p := ⟨g + 1 + 1 + 1 + 1, a4, none⟩) (by dsimp only; omega) (.int .i64 (x + 1))
      replace t2 := (t2.drewN nq).far (p := ⟨g + 1 + 1 + 1 + 1, a4, none⟩) (by dsimp only; omega) (.int .i64 (x + 1))
      replace t3 := (t3.drewN nq).far (p := ⟨g + 1 + 1 + 1 + 1, a4, none⟩) (by dsimp only; omega) (.int .i64 (x + 1))
      replace t5 := (t5.drewN nq).far (p := ⟨g + 1 + 1 + 1 + 1, a4, none⟩) (by dsimp only; omega) (.int .i64 (x + 1))
      replace q3 := (q3.drewN nq).far (p := ⟨g + 1 + 1 + 1 + 1, a4, none⟩) (by dsimp only; omega) (.int .i64 (x + 1))
      replace b4 := (b4.trans (below_drewN nq)).setCell (p := ⟨g + 1 + 1 + 1 + 1, a4, none⟩) (by dsimp only; omega) (.int .i64 (x + 1))
      clear c1 f1 x1 x2 HS4
      generalize World.setCell (World.drewN W4 nq) _ _ = W5 at *
      clear nq
      obtain ⟨d0, d1, d2, d3, d4, d5⟩ := cells6' q3
      have c0 := ivR t5 (i := a5) (by rw [tS_len]; omega)
      have x0 := tS_le 5 n k a5
      generalize geti (tS 5 n k) a5 = x at *
      obtain ⟨x1, x2⟩ := x0
      refine wp_region_quiet_tail 8 (by kernel_rfl) (by kernel_rfl) ?_
      simp only [List.take_succ_cons, List.take_zero, List.drop_succ_cons, List.drop_zero]
      repeat go_big_quiet_step ((fail))
      refine wpQuiet_nil ?_
      rintro _ ⟨nq, rfl⟩
      have c1 : (W5.drewN nq).cell? ⟨g + 1 + 1 + 1 + 1 + 1, a5, none⟩ = some (.int .i64 x) := c0
      have f1 := (t5.drewN nq).free a5
      clear c0 d0 d1 d2 d3 d4 d5
      go_wp2
      replace t5 : Row ((W5.drewN nq).setCell ⟨g + 1 + 1 + 1 + 1 + 1, a5, none⟩ (.int .i64 (x + 1))) (g + 1 + 1 + 1 + 1 + 1) 46 (iv (tS 5 n (k + 1))) := by rw [← HS5.out]; exact (t5.drewN nq).set a5 _
      replace t0 := (t0.drewN nq).far (p := ⟨g + 1 + 1 + 1 + 1 + 1, a5, none⟩) (by dsimp only; omega) (.int .i64 (x + 1))
      replace t1 := (t1.drewN nq).far (p := ⟨g + 1 + 1 + 1 + 1 + 1, a5, none⟩) (by dsimp only; omega) (.int .i64 (x + 1))
      replace t2 := (t2.drewN nq).far (p := ⟨g + 1 + 1 + 1 + 1 + 1, a5, none⟩) (by dsimp only; omega) (.int .i64 (x + 1))
      replace t3 := (t3.drewN nq).far (p := ⟨g + 1 + 1 + 1 + 1 + 1, a5, none⟩) (by dsimp only; omega) (.int .i64 (x + 1))
      replace t4 := (t4.drewN nq).far (p := ⟨g + 1 + 1 + 1 + 1 + 1, a5, none⟩) (by dsimp only; omega) (.int .i64 (x + 1))
      replace q3 := (q3.drewN nq).far (p := ⟨g + 1 + 1 + 1 + 1 + 1, a5, none⟩) (by dsimp only; omega) (.int .i64 (x + 1))
      replace b4 := (b4.trans (below_drewN nq)).setCell (p := ⟨g + 1 + 1 + 1 + 1 + 1, a5, none⟩) (by dsimp only; omega) (.int .i64 (x + 1))
      clear c1 f1 x1 x2 HS5
      go_roundw
      case rel => exact ⟨k + 1, by omega, by go_num, ⟨t0, t1, t2, t3, t4, t5⟩, b4⟩
      case measure => simp [intOf]; omega
    · obtain rfl : k = F := by omega
      go_wp2_with (go_at_call 44; refine (HFA.out _).mono ?_; rintro e w1 ⟨rfl, rfl⟩)
      clear HFA HOK HIT HML HNU hF
      go_loopw [14] (fun i wr => ∃ j : Nat, j ≤ 20 ∧ i = .int .i64 j ∧ Tabs wr g n k ∧ Below g w wr) (fun i _ => 20 - (intOf i).toNat)
      case atStart => exact ⟨0, by omega, rfl, T0, b0⟩
      case round =>
        clear T0 b0
        obtain ⟨j, hj, rfl, T0, b0⟩ := hrel
        by_cases hlt2 : j < 20
        · have HJ := Lib.hid (HFI.out j hlt2)
          have C1 := Lib.hid (HCI.out j)
          have C2 := Lib.hid (HCD.out j)
          have C3 := Lib.hid (HCC.out j)
          generalize getn (rowN mI n) j = x at *
          generalize getn (rowN mD n) j = y at *
          generalize getn (rowN mC n) j = z at *
          have TT := Lib.hid T0
          have hw0 := T0.lt
          clear T0
          go_wp2_with (first
            | (go_at_call 37; refine (C1.out _).mono ?_; rintro e w1 ⟨rfl, b1⟩; replace TT := Lib.hid (TT.out.below b1); have hw1 := TT.out.lt; replace b0 := b0.trans (b1.mono (by omega)); clear b1)
            | (go_at_call 38; refine (C2.out _).mono ?_; rintro e w2 ⟨rfl, b1⟩; replace TT := Lib.hid (TT.out.below b1); have hw2 := TT.out.lt; replace b0 := b0.trans (b1.mono (by omega)); clear b1)
            | (go_at_call 39; refine (C3.out _).mono ?_; rintro e w3 ⟨rfl, b1⟩; replace TT := Lib.hid (TT.out.below b1); replace b0 := b0.trans (b1.mono (by omega)); clear b1; obtain ⟨t0, t1, t2, t3, t4, t5⟩ := TT.out; obtain ⟨e0, e1, e2, e3, e4, e5⟩ := HJ.out; have c0 := ivR t0 (i := j) (by rw [tS_len]; exact hlt2); have c1 := ivR t1 (i := j) (by rw [tS_len]; exact hlt2); have c2 := ivR t2 (i := j) (by rw [tS_len]; exact hlt2); have c3 := ivR t3 (i := j) (by rw [tS_len]; exact hlt2); have c4 := ivR t4 (i := j) (by rw [tS_len]; exact hlt2); have c5 := ivR t5 (i := j) (by rw [tS_len]; exact hlt2); rw [e0] at c0; rw [e1] at c1; rw [e2] at c2; rw [e3] at c3; rw [e4] at c4; rw [e5] at c5; clear e0 e1 e2 e3 e4 e5 t0 t1 t2 t3 t4 t5))
          go_roundw
          case rel => exact ⟨j + 1, by omega, by go_num, TT.out, b0⟩
          case measure => simp [intOf]; omega
        · obtain rfl : j = 20 := by omega
          have hw0 := T0.lt
          go_wp2_with (go_at_call 21; refine (awake_any _).mono ?_; rintro e w5 ⟨rfl, b1⟩; replace b0 := b0.trans (b1.mono (by omega)); clear b1)
          go_ret
          exact ⟨rfl, HG.out ▸ b0⟩
end Go.Proofs.Ytheblebfeinjjaa
