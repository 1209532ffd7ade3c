/- Heaviest, few layers (merged) -/
import Derived.Test.YtnnaaoobdofooaaXA
import Derived.Test.YtnnaaoobdofooaaXB
/- The heaviest layer. -/
namespace Go.Proofs.Ytnnaaoobdofooaa
open Go.RowKit
set_option maxHeartbeats 1000000
set_option maxRecDepth 100000
theorem own_grown {w w' : World} {B C n z m zz : Nat} {u v : Value} {t s : TypeId} {xs ys : List Value} (h : w.ownsRow B s zz v m ys) (hu : w.ownsRow C t z u n xs) (ht : t ≠ s) (hg : w.grownBy w' u.ownBlock) : w'.ownsRow B s zz v m ys := by
  refine h.kept hg ?_
  cases hb : v.ownBlock with
  | none => exact .inl rfl
  | some g =>
    refine .inr (fun e => ?_)
    obtain ⟨_, _, c1, h3⟩ := own_ge h hb
    obtain ⟨_, _, c2, h4⟩ := own_ge hu e.symm
    rw [h3] at h4
    injection h4 with h4
    injection h4 with _ h4
    exact ht h4.symm
theorem own_far_row {w : World} {C n z g k : Nat} {t s : TypeId} {u v : Value} {xs cs : List Value} (h : w.ownsRow C t z u n xs) (ht : t ≠ s) (hg : Row w g s cs) : (w.setCell ⟨g, k, none⟩ v).ownsRow C t z u n xs :=
  own_far h (fun e => by
    obtain ⟨_, _, c, h2⟩ := own_ge h e
    unfold Row at hg
    rw [hg] at h2
    injection h2 with h2
    injection h2 with _ h2
    exact ht h2.symm)
/-- The smallest number of the first pairs. -/
def hvW (K : List (List Int)) : Nat → Int
  | 0 => 9
  | k + 1 => min (hvW K k) (gat K (geti (rsP (mM K) K.length) k).toNat (geti (csP (mM K) K.length) k).toNat)
def hvN (K : List (List Int)) : Nat := (csP (mM K) K.length).length
theorem hvW_bd {K : List (List Int)} (h : IsT K) : ∀ k, 0 ≤ hvW K k ∧ hvW K k ≤ 9
  | 0 => by show (0 : Int) ≤ 9 ∧ (9 : Int) ≤ 9; omega
  | k + 1 => by
    have ih := hvW_bd h k
    have hb := h.bd (geti (rsP (mM K) K.length) k).toNat (geti (csP (mM K) K.length) k).toNat
    unfold hvW
    omega
theorem heaviest_any (K : List (List Int)) (w : World) (h : IsT K) :
    Calls Try.prog 75 #[.agg (iv (grd K)).toArray] w fun e w' => ∃ A c, e = .returned (.agg #[.int .i64 (hvW K (hvN K)), .slice A (hvN K) c]) ∧ w'.ownsRow w.heap.size 3 1 (.slice A (hvN K) c) (hvN K) (iv (csP (mM K) K.length)) ∧ Below w.heap.size w w' := by
  have hle := h.le
  have HJ := Lib.hid (fun w => join_any K w h)
  have I := mI h
  have HP := Lib.hid (fun w => pairs_any K.length (mM K) (mS K) w hle I.ok.len)
  have hi := info73_iv (x := grd K) (grdP_len _ 100)
  have hn0 : Row (((w.alloc (.cells (iv (grd K)).toArray 73)).alloc (.cells #[.int .i64 0, .slice none 0 0] 69)).alloc (.cells #[.int .i64 9, .slice none 0 0] 69)) w.heap.size 73 (iv (grd K)) := ((row_new rfl).alloc _).alloc _
  have p1 : Row (((w.alloc (.cells (iv (grd K)).toArray 73)).alloc (.cells #[.int .i64 0, .slice none 0 0] 69)).alloc (.cells #[.int .i64 9, .slice none 0 0] 69)) (w.heap.size + 1) 69 [.int .i64 0, .slice none 0 0] := (row_new (by simp)).alloc _
  have q2 : Row (((w.alloc (.cells (iv (grd K)).toArray 73)).alloc (.cells #[.int .i64 0, .slice none 0 0] 69)).alloc (.cells #[.int .i64 9, .slice none 0 0] 69)) (w.heap.size + 1 + 1) 69 [.int .i64 9, .slice none 0 0] := row_new (by simp)
  have b0 : Below w.heap.size w (((w.alloc (.cells (iv (grd K)).toArray 73)).alloc (.cells #[.int .i64 0, .slice none 0 0] 69)).alloc (.cells #[.int .i64 9, .slice none 0 0] 69)) := by (repeat (first | exact Below.refl _ _ | assumption | (refine Below.setCell ?_ (by first | exact Nat.le_refl _ | omega | (simp; done) | (simp; omega)) _) | (refine Below.trans ?_ (below_drewN _)) | (refine Below.drew ?_) | (refine Below.alloc ?_ (by first | exact Nat.le_refl _ | omega | (simp; done) | (simp; omega)) _) | (refine below_row ?_ (by first | exact Nat.le_refl _ | omega | (simp; done) | (simp; omega)) _)))
  have r0 := hn0
  clear hn0
  go_enter Try.func75, Try.ntmps75
  go_wp2_with (first
    | (with_reducible refine (?_ : wpList _ _ _ (Oper.mk _ (Op.load 73 _) _ _ _ _ :: _) _ _); refine wpList_load_row rfl 73 (.tmp 1) rfl w.heap.size rfl 73 (iv (grd K)).toArray (0, 0) _ (row_heap r0) Try.underlying73 rfl hi ?_)
    | (go_at_call 55; fail))
  refine (HJ.out _).mono ?_
  rintro e w2 ⟨rfl, b2⟩
  replace r0 := r0.below b2
  replace p1 := p1.below b2
  replace q2 := q2.below b2
  replace b0 := b0.trans (b2.mono b0.size)
  rw [show (jn K K.length).2 = mM K from rfl, show (jn K K.length).1 = mS K from rfl]
  clear b2 HJ
  go_wp2_with (go_at_call 62; fail)
  refine (HP.out _).mono ?_
  rintro e w3 ⟨v, rfl, o3, b3⟩
  obtain ⟨A3, c3, rfl, hlen, P3⟩ := prs_cells o3
  replace r0 := r0.below b3
  replace p1 := p1.below b3
  replace q2 := q2.below b3
  have hgz : w.heap.size + 1 + 1 < w3.heap.size := q2.lt
  replace b0 := b0.trans (b3.mono b0.size)
  have HO3 := Lib.hid o3
  have hpl : (prs (mM K) K.length).length = (rsP (mM K) K.length).length := by rw [rsP_len]
  clear b3 HP o3
  obtain ⟨j0, ji, jz0, jz1, jz2⟩ := info_parts info3
  have HOK := Lib.hid (fun i (hi : i < (rsP (mM K) K.length).length) => prs_ok h I i (by rw [← rsP_len]; exact hi))
  have hp10 : (rsP (mM K) K.length).length ≤ 10 := by rw [rsP_len]; have := prs_len (mM K) K.length; omega
  have HNE : Hid (hvN K = (rsP (mM K) K.length).length) := Lib.hid (by unfold hvN; rw [csP_len, rsP_len])
  have HCL : Hid ((csP (mM K) K.length).length = (rsP (mM K) K.length).length) := Lib.hid (by rw [csP_len, rsP_len])
  have HWS : Hid (∀ k, hvW K (k + 1) = min (hvW K k) (gat K (geti (rsP (mM K) K.length) k).toNat (geti (csP (mM K) K.length) k).toNat)) := Lib.hid (fun k => rfl)
  have HWB := Lib.hid (fun k => hvW_bd h k)
  have HKB := Lib.hid (fun r c => h.bd r c)
  have HCG : Hid (∀ (W : World) (r c : Nat), r < 10 → c < 10 → Row W w.heap.size 73 (iv (grd K)) → W.cell? ⟨w.heap.size, 1 + r * 10 + c, none⟩ = some (.int .i64 (gat K r c))) := Lib.hid (fun W r c hr hc h => by
    have := ivR h (i := 1 + r * 10 + c) (by unfold grd; rw [grdP_len]; omega)
    rwa [Nat.add_assoc, grd_at K hr hc, ← Nat.add_assoc] at this)
  have HPA : Hid (∀ V : World, V.ownsRow w2.heap.size 36 2 (.slice A3 (rsP (mM K) K.length).length c3) (rsP (mM K) K.length).length (pcs (prs (mM K) K.length)) → PrsAt V A3 (rsP (mM K) K.length) (csP (mM K) K.length)) := Lib.hid (fun V hV => by
    obtain ⟨A', c', e, -, hP⟩ := prs_cells hV
    injection e with e1 e2 e3
    subst e1
    exact hP)
  rw [hpl] at HO3
  have HO3' := HO3
  have HTK : Hid (∀ k, k < (rsP (mM K) K.length).length → iv ((csP (mM K) K.length).take (k + 1)) = iv ((csP (mM K) K.length).take k) ++ [.int .i64 (geti (csP (mM K) K.length) k)]) := Lib.hid (fun k hk => by
    rw [List.take_add_one, List.getElem?_eq_getElem (by rw [HCL.out]; exact hk), geti_eq (by rw [HCL.out]; exact hk)]
    unfold iv
    rw [List.map_append]; rfl)
  have HT0 : Hid (iv ((csP (mM K) K.length).take 0) = []) := Lib.hid rfl
  have HTE : Hid (iv ((csP (mM K) K.length).take (rsP (mM K) K.length).length) = iv (csP (mM K) K.length)) := Lib.hid (by rw [← HCL.out, List.take_length])
  have HW0 : Hid (hvW K 0 = 9) := Lib.hid rfl
  have o0 : w3.ownsRow w.heap.size 3 1 (.slice none 0 0) 0 (iv ((csP (mM K) K.length).take 0)) := ⟨by rw [HT0.out]; rfl, .inl ⟨rfl, rfl⟩⟩
  have hle2 := hle
  clear h I hpl P3 hlen
  generalize hR : rsP (mM K) K.length = rs at *
  generalize hC : csP (mM K) K.length = cs at *
  have HCQ := Lib.hid hC
  clear hR hC
  rw [← HW0.out] at q2
  go_wp2
  go_loopw [11] (fun v wr => ∃ (k : Nat) (A : Option Addr) (c : Nat), k ≤ rs.length ∧ v = .int .i64 k ∧ Row wr w.heap.size 73 (iv (grd K)) ∧ Row wr (w.heap.size + 1) 69 [.int .i64 0, .slice none 0 0] ∧ Row wr (w.heap.size + 1 + 1) 69 [.int .i64 (hvW K k), .slice A k c] ∧ Hid (wr.ownsRow w.heap.size 3 1 (.slice A k c) k (iv (cs.take k))) ∧ Hid (wr.ownsRow w2.heap.size 36 2 (.slice A3 rs.length c3) rs.length (pcs (prs (mM K) K.length))) ∧ Below w.heap.size w wr) (fun v _ => rs.length - (intOf v).toNat)
  case atStart => exact ⟨0, none, 0, by omega, rfl, r0, p1, q2, Lib.hid o0, HO3, b0⟩
  case round =>
    clear r0 p1 q2 o0 HO3 b0 hgz HO3'
    obtain ⟨k, A, c, hk, rfl, r0, p1, q2, HO, HO3, b0⟩ := hrel
    by_cases hlt : k < rs.length
    · have g1 : decide ((k : Int) < (rs.length : Int)) = true := decide_eq_true (by omega)
      obtain ⟨b3, o3, hAe, hb3, f3⟩ := (HPA.out wr HO3.out) (by omega)
      subst hAe
      obtain ⟨e1, e2⟩ := f3 k hlt
      have hok := HOK.out k (by omega)
      obtain ⟨hx0, hx1⟩ := hok.r
      obtain ⟨hy0, hy1⟩ := hok.c
      have HW1 := Lib.hid (HWS.out k)
      have HT1 := Lib.hid (HTK.out k hlt)
      obtain ⟨hw0, hw9⟩ := HWB.out k
      have hkb := HKB.out (geti rs k).toNat (geti cs k).toNat
      clear f3 hok
      generalize geti rs k = x at *
      generalize geti cs k = y at *
      obtain ⟨X, rfl⟩ : ∃ X : Nat, x = X := ⟨x.toNat, by omega⟩
      obtain ⟨Y, rfl⟩ : ∃ Y : Nat, y = Y := ⟨y.toNat, by omega⟩
      rw [Int.toNat_natCast, Int.toNat_natCast] at HW1 hkb
      have hX10 : X < 10 := by omega
      have hY10 : Y < 10 := by omega
      have HC2 := Lib.hid (fun (V : World) (hV : Row V w.heap.size 73 (iv (grd K))) => HCG.out V X Y hX10 hY10 hV)
      obtain ⟨hg0, hg9⟩ := hkb
      generalize gat K X Y = z at *
      generalize hvW K k = wk at *
      generalize iv (cs.take k) = t0 at *
      have hbs := b0.size
      have n1 : Row (wr.alloc (.cells #[.int .i64 (X : Int), .int .i64 (Y : Int)] 36)) wr.heap.size 36 [.int .i64 (X : Int), .int .i64 (Y : Int)] := row_new rfl
      have q3 := q2.alloc (.cells #[.int .i64 (X : Int), .int .i64 (Y : Int)] 36)
      obtain ⟨⟨c0, c1⟩, fr0, fr1⟩ := q3.cells2
      obtain ⟨⟨m0, m1⟩, -⟩ := n1.cells2
      have hn2 : Row ((wr.alloc (.cells #[.int .i64 (X : Int), .int .i64 (Y : Int)] 36)).alloc (.cells #[.int .i64 (Y : Int)] 3)) (wr.heap.size + 1) 3 [.int .i64 (Y : Int)] := row_new (by simp)
      have HOA := Lib.hid (HO.out.alloc (.cells #[.int .i64 (X : Int), .int .i64 (Y : Int)] 36))
      have O2 := Lib.hid ((HO.out.alloc (.cells #[.int .i64 (X : Int), .int .i64 (Y : Int)] 36)).alloc (.cells #[.int .i64 (Y : Int)] 3))
      have O3 := Lib.hid ((HO3.out.alloc (.cells #[.int .i64 (X : Int), .int .i64 (Y : Int)] 36)).alloc (.cells #[.int .i64 (Y : Int)] 3))
      have R2 := (r0.alloc (.cells #[.int .i64 (X : Int), .int .i64 (Y : Int)] 36)).alloc (.cells #[.int .i64 (Y : Int)] 3)
      have P2 := (p1.alloc (.cells #[.int .i64 (X : Int), .int .i64 (Y : Int)] 36)).alloc (.cells #[.int .i64 (Y : Int)] 3)
      have Q2 := q3.alloc (.cells #[.int .i64 (Y : Int)] 3)
      have N2 := n1.alloc (.cells #[.int .i64 (Y : Int)] 3)
      have B1 : Below w.heap.size w (wr.alloc (.cells #[.int .i64 (X : Int), .int .i64 (Y : Int)] 36)) := b0.alloc hbs _
      have hq2 := q2.lt
      clear HO HO3 r0 p1 q2
      go_wp2_with (at_builtin; refine wpList_append_own_at _ rfl _ _ 27 rfl w.heap.size 3 j0 (.int .i64 0) 1 8 Try.underlying27 ji jz0 jz1 jz2 rfl (by decide) _ _ _ rfl O2.out ⟨wr.heap.size + 1, 0, none⟩ 1 1 [.int .i64 (Y : Int)] rfl rfl (news_one hn2) (by simp [Value.oneCell']) (by unfold maxLen; omega) (by omega) (by simp; omega) ?_; intro v9 w9 o9 hg9 _ _; obtain ⟨A9, c9, rfl⟩ := own_head o9; have q9 := Q2.grown hg9 (Q2.not_own O2.out (by decide)); have r9 := R2.grown hg9 (R2.not_own O2.out (by decide)); have p9 := P2.grown hg9 (P2.not_own O2.out (by decide)); have n9 := N2.grown hg9 (N2.not_own O2.out (by decide)); have O9 := own_grown O3.out O2.out (by decide) hg9; have B9 := B1.trans (app1' (HOA.out) B1.size hg9); obtain ⟨⟨s0, s1⟩, sr0, sr1⟩ := q9.cells2)
      have q10 := q9.set 1 (.slice A9 (k + 1) c9)
      have r10 := r9.far (p := ⟨w.heap.size + 1 + 1, 1, none⟩) (by dsimp only; omega) (.slice A9 (k + 1) c9)
      have p10 := p9.far (p := ⟨w.heap.size + 1 + 1, 1, none⟩) (by dsimp only; omega) (.slice A9 (k + 1) c9)
      have n10 := n9.far (p := ⟨w.heap.size + 1 + 1, 1, none⟩) (by dsimp only; omega) (.slice A9 (k + 1) c9)
      have o10 := own_far_row (k := 1) (v := .slice A9 (k + 1) c9) o9 (by decide) q9
      have O10 := own_far_row (k := 1) (v := .slice A9 (k + 1) c9) O9 (by decide) q9
      have B10 := B9.setCell (p := ⟨w.heap.size + 1 + 1, 1, none⟩) (by dsimp only; omega) (.slice A9 (k + 1) c9)
      obtain ⟨⟨s00, s11⟩, s22, -⟩ := q10.cells2
      obtain ⟨⟨n00, n11⟩, -⟩ := n10.cells2
      have rc := HC2.out _ r10
      clear s0 s1 sr0 sr1 c0 c1 fr0 fr1 m0 m1 q9 r9 p9 n9 o9 O9 B9 hg9 O2 O3 R2 P2 Q2 N2 hn2 n1 q3 HOA
      generalize World.setCell w9 _ _ = W10 at *
      refine wp_region_quiet_tail 12 (by kernel_rfl) (by kernel_rfl) ?_
      simp only [List.take_succ_cons, List.take_zero, List.drop_succ_cons, List.drop_zero]
      repeat go_big_quiet_step ((fail))
      refine wpQuiet_nil ?_
      rintro _ ⟨nq, rfl⟩
      go_wp2
      have hmin : (if z < wk then z else wk) = hvW K (k + 1) := by rw [HW1.out]; split <;> omega
      rw [hmin]
      have q11 := (q10.drewN nq).set 0 (.int .i64 (hvW K (k + 1)))
      exact ⟨⟨k + 1, A9, c9, by omega, by go_num, (r10.drewN nq).far (by dsimp only; omega) _, (p10.drewN nq).far (by dsimp only; omega) _, q11, Lib.hid (by rw [HT1.out]; exact own_far_row (o10.kept' (below_drewN nq)) (by decide) (q10.drewN nq)), Lib.hid (own_far_row (O10.kept' (below_drewN nq)) (by decide) (q10.drewN nq)), (B10.trans (below_drewN nq)).setCell (by dsimp only; omega) _⟩, by simp [intOf]; omega⟩
    · obtain rfl : k = rs.length := by omega
      have g1 : decide ((rs.length : Int) < (rs.length : Int)) = false := decide_eq_false (by omega)
      obtain ⟨⟨c0, c1⟩, -⟩ := q2.cells2
      obtain ⟨⟨d0, d1⟩, dr0, dr1⟩ := p1.cells2
      go_wp2
      have p2 : Row ((wr.setCell ⟨w.heap.size + 1, 0, none⟩ (.int .i64 (hvW K rs.length))).setCell ⟨w.heap.size + 1, 1, none⟩ (.slice A rs.length c)) (w.heap.size + 1) 69 [.int .i64 (hvW K rs.length), .slice A rs.length c] := (p1.set 0 _).set 1 _
      have HRES := Lib.hid (run_loadVar_row (P := Try.prog) _ (w.heap.size + 1) 69 69 #[.int .i64 (hvW K rs.length), .slice A rs.length c] (0, 0) _ (row_heap p2) Try.underlying69 rfl (by kernel_rfl))
      have oF := own_far_row (k := 1) (v := .slice A rs.length c) (own_far_row (k := 0) (v := .int .i64 (hvW K rs.length)) HO.out (by decide) p1) (by decide) (p1.set 0 (.int .i64 (hvW K rs.length)))
      rw [HTE.out] at oF
      exact bodyPost_ret (v := .agg #[.int .i64 (hvW K rs.length), .slice A rs.length c]) (res1 Try.results75 rfl HRES.out) rfl ⟨A, c, by rw [HNE.out], by rw [HNE.out, HCQ.out]; exact oF, (b0.setCell (by dsimp only; omega) _).setCell (by dsimp only; omega) _⟩
end Go.Proofs.Ytnnaaoobdofooaa
/- Level tables are split: mathematics. -/
namespace Go.Proofs.Ytnnaaoobdofooaa
open Go.RowKit
set_option maxHeartbeats 1000000
set_option maxRecDepth 100000
/-- Each row and each column has this sum. -/
structure Lev (K : List (List Int)) (lv : Int) : Prop where
  row : ∀ i, i < K.length → sumN (fun c => gat K i c) K.length = lv
  col : ∀ i, i < K.length → sumN (fun r => gat K r i) K.length = lv
theorem rsum_sumN (K : List (List Int)) (i : Nat) : ∀ m, rsum K i m = sumN (fun c => gat K i c) m
  | 0 => rfl
  | m + 1 => by show rsum K i m + gat K i m = sumN _ m + gat K i m; rw [rsum_sumN K i m]
theorem csum_sumN (K : List (List Int)) (i : Nat) : ∀ m, csum K i m = sumN (fun r => gat K r i) m
  | 0 => rfl
  | m + 1 => by show csum K i m + gat K m i = sumN _ m + gat K m i; rw [csum_sumN K i m]
theorem sumN_cut {g : Nat → Int} {n : Nat} (h : ∀ j, n ≤ j → g j = 0) : ∀ d, sumN g (n + d) = sumN g n
  | 0 => rfl
  | d + 1 => by
    show sumN g (n + d) + g (n + d) = _
    rw [sumN_cut h d, h _ (by omega)]; omega
theorem lev_of {K : List (List Int)} (h : IsT K) (hl : isLev K = true) : Lev K (lvN K) ∧ 0 ≤ lvN K ∧ (K.length = 0 → lvN K = 0) := by
  have hle := h.le
  have hv : lvN K = rsum K 0 10 := by unfold lvN; rw [hl]; rfl
  unfold isLev at hl
  simp only [List.all_eq_true, List.mem_range, Bool.and_eq_true, decide_eq_true_eq] at hl
  have cut : ∀ g : Nat → Int, (∀ j, K.length ≤ j → g j = 0) → sumN g 10 = sumN g K.length := fun g hg => by
    have := sumN_cut hg (10 - K.length)
    rwa [show K.length + (10 - K.length) = 10 by omega] at this
  refine ⟨⟨fun i hi => ?_, fun i hi => ?_⟩, ?_, fun h0 => ?_⟩
  · rw [hv, ← (hl i hi).1, rsum_sumN, cut _ (fun j hj => h.zero (Or.inr hj))]
  · rw [hv, ← (hl i hi).2, csum_sumN, cut _ (fun j hj => h.zero (Or.inl hj))]
  · rw [hv, rsum_sumN]
    exact sumN_nonneg (fun j _ => (h.bd 0 j).1)
  · rw [hv, rsum_sumN, cut _ (fun j hj => h.zero (Or.inr hj)), h0]; rfl
theorem sumN_const (a : Int) : ∀ n, sumN (fun _ => a) n = (n : Int) * a
  | 0 => by simp [sumN]
  | n + 1 => by
    show sumN (fun _ => a) n + a = _
    rw [sumN_const a n, show ((n + 1 : Nat) : Int) = (n : Int) + 1 from rfl, Int.add_mul, Int.one_mul]
/-- As many pairs as rows. -/
theorem lev_all {K : List (List Int)} (h : IsT K) {lv : Int} (hl : Lev K lv) (hp : 0 < lv) : mN K = K.length := by
  refine Nat.le_antisymm (mN_le K) ?_
  obtain ⟨R, C, hc, hs2⟩ : ∃ R C : Nat → Bool, Cov K R C ∧ sumN (fun i => one (R i = true)) K.length + sumN (fun i => one (C i = true)) K.length = (mN K : Int) := ⟨_, _, (own_cov h).1, (own_cov h).2⟩
  have e1 : sumN (fun r => sumN (fun c => gat K r c) K.length) K.length = (K.length : Int) * lv := by
    rw [← sumN_const]; exact sumN_congr (fun r hr => hl.row r hr)
  have e2 : sumN (fun r => sumN (fun c => gat K r c) K.length) K.length ≤ sumN (fun r => sumN (fun c => one (R r = true) * gat K r c + one (C c = true) * gat K r c) K.length) K.length := sumN_le (fun r hr => sumN_le (fun c hc2 => by
    have hb := (h.bd r c).1
    by_cases hz : gat K r c = 0
    · rw [hz]; simp
    · rcases hc r c hr hc2 hz with h1 | h1
      · have a1 : one (R r = true) = 1 := by unfold one; rw [if_pos h1]
        have a2 := Int.mul_nonneg (one_bd (C c = true)).1 hb
        rw [a1, Int.one_mul]; omega
      · have a1 : one (C c = true) = 1 := by unfold one; rw [if_pos h1]
        have a2 := Int.mul_nonneg (one_bd (R r = true)).1 hb
        rw [a1, Int.one_mul]; omega))
  have e3 : sumN (fun r => sumN (fun c => one (R r = true) * gat K r c + one (C c = true) * gat K r c) K.length) K.length = sumN (fun i => one (R i = true)) K.length * lv + sumN (fun i => one (C i = true)) K.length * lv := by
    have f1 : sumN (fun r => sumN (fun c => one (R r = true) * gat K r c + one (C c = true) * gat K r c) K.length) K.length = sumN (fun r => one (R r = true) * sumN (fun c => gat K r c) K.length + sumN (fun c => one (C c = true) * gat K r c) K.length) K.length := sumN_congr (fun r _ => by
      rw [sumN_add, ← sumN_mul])
    rw [f1, sumN_add]
    congr 1
    · rw [Int.mul_comm, sumN_mul]
      exact sumN_congr (fun r hr => by rw [hl.row r hr, Int.mul_comm])
    · rw [sumN_swap, Int.mul_comm, sumN_mul]
      exact sumN_congr (fun c hc => by rw [← sumN_mul, hl.col c hc, Int.mul_comm])
  rw [e1, e3, ← Int.add_mul, hs2] at e2
  have := Int.le_of_mul_le_mul_right e2 hp
  omega
/-- Then each row has its pair. -/
theorem all_rows {K : List (List Int)} (h : IsT K) (ha : mN K = K.length) : ∀ i, i < K.length → geti (rsP (mM K) K.length) i = i := by
  have ok := prs_ok h (mI h)
  have hlen : (prs (mM K) K.length).length = K.length := ha
  have hge : ∀ i, i < K.length → (i : Int) ≤ geti (rsP (mM K) K.length) i := fun i => by
    induction i with
    | zero => intro hi; have := (ok 0 (by omega)).r; omega
    | succ i ih =>
      intro hi
      have h1 := ih (by omega)
      have h2 := (ok (i + 1) (by omega)).up (by omega)
      rw [show i + 1 - 1 = i by omega] at h2
      omega
  have hle : ∀ d i, i + d + 1 = K.length → geti (rsP (mM K) K.length) i ≤ i := fun d => by
    induction d with
    | zero => intro i hi; have := (ok i (by omega)).r; omega
    | succ d ih =>
      intro i hi
      have h1 := ih (i + 1) (by omega)
      have h2 := (ok (i + 1) (by omega)).up (by omega)
      rw [show i + 1 - 1 = i by omega] at h2
      omega
  intro i hi
  have h1 := hge i hi
  have h2 := hle (K.length - (i + 1)) i (by omega)
  omega
def hvC (K : List (List Int)) : List Int := csP (mM K) K.length
theorem hvN_all {K : List (List Int)} (ha : mN K = K.length) : hvN K = K.length := by
  unfold hvN; rw [csP_len]; exact ha
theorem hvW_le {K : List (List Int)} : ∀ {k j : Nat}, j < k → hvW K k ≤ gat K (geti (rsP (mM K) K.length) j).toNat (geti (csP (mM K) K.length) j).toNat
  | k + 1, j, hj => by
    unfold hvW
    by_cases e : j = k
    · subst e; omega
    · have := hvW_le (K := K) (k := k) (j := j) (by omega)
      omega
theorem hvW_pos {K : List (List Int)} (h : IsT K) (ha : mN K = K.length) : ∀ k, k ≤ K.length → 1 ≤ hvW K k
  | 0, _ => by show (1 : Int) ≤ 9; omega
  | k + 1, hk => by
    have ih := hvW_pos h ha k (by omega)
    have hp := (prs_ok h (mI h) k (by rw [show (prs (mM K) K.length).length = K.length from ha]; omega)).pos
    have hb := (h.bd (geti (rsP (mM K) K.length) k).toNat (geti (csP (mM K) K.length) k).toNat).1
    unfold hvW
    omega
/-- The smallest number is met, or 9. -/
theorem hvW_met {K : List (List Int)} : ∀ k, hvW K k = 9 ∨ ∃ j, j < k ∧ hvW K k = gat K (geti (rsP (mM K) K.length) j).toNat (geti (csP (mM K) K.length) j).toNat
  | 0 => Or.inl rfl
  | k + 1 => by
    have e : hvW K (k + 1) = min (hvW K k) (gat K (geti (rsP (mM K) K.length) k).toNat (geti (csP (mM K) K.length) k).toNat) := rfl
    by_cases hlt : gat K (geti (rsP (mM K) K.length) k).toNat (geti (csP (mM K) K.length) k).toNat ≤ hvW K k
    · exact Or.inr ⟨k, by omega, by rw [e]; omega⟩
    · rcases hvW_met (K := K) k with h | ⟨j, hj, h⟩
      · exact Or.inl (by rw [e]; omega)
      · exact Or.inr ⟨j, by omega, by rw [e]; omega⟩
theorem hv_cols {K : List (List Int)} (h : IsT K) (ha : mN K = K.length) : colsOk K.length (hvC K) = true := by
  have ok := prs_ok h (mI h)
  have hlen : (prs (mM K) K.length).length = K.length := ha
  have hcl : (hvC K).length = K.length := by unfold hvC; rw [csP_len]; exact ha
  have hcg : ∀ k, k ≤ K.length → cg K.length (hvC K) k = true := fun k => by
    induction k with
    | zero => intro _; rfl
    | succ k ih =>
      intro hk
      have hc := (ok k (by omega)).c
      have hn := (ok k (by omega)).new
      refine cg_yes (ih (by omega)) hc.1 hc.2 ?_
      cases hb : (cs (hvC K) k).testBit (geti (hvC K) k).toNat
      · rfl
      · obtain ⟨j, hj, e⟩ := cs_bit hb
        rw [← Bool.not_eq_true, mb_iff] at hn
        have hcj := (ok j (by omega)).c
        exfalso
        refine hn ⟨j, hj, ?_⟩
        have e' : (geti (csP (mM K) K.length) j).toNat = (geti (csP (mM K) K.length) k).toNat := e
        omega
  unfold colsOk
  rw [hcl, hcg _ (Nat.le_refl _)]; simp
theorem hv_brs {K : List (List Int)} (h : IsT K) (ha : mN K = K.length) : ∀ k, k ≤ K.length → brs K (hvW K (hvN K)) (hvC K) k = true := fun k => by
  have hr := all_rows h ha
  induction k with
  | zero => intro _; rfl
  | succ k ih =>
    intro hk
    refine brs_yes (ih (by omega)) ?_
    have := hvW_le (K := K) (k := hvN K) (j := k) (by rw [hvN_all ha]; omega)
    rw [hr k (by omega), Int.toNat_natCast] at this
    exact Int.not_lt.2 this
theorem hv_ok {K : List (List Int)} (h : IsT K) (ha : mN K = K.length) : layOk K (hvW K (hvN K), hvC K) = true := by
  have h1 := hvW_pos h ha (hvN K) (by rw [hvN_all ha]; exact Nat.le_refl _)
  unfold layOk
  rw [decide_eq_false (show ¬ hvW K (hvN K) < 1 by omega), hv_cols h ha, hv_brs h ha _ (Nat.le_refl _)]; rfl
/-- Each column is met once. -/
theorem once {n : Nat} {xs : List Int} (hc : colsOk n xs = true) : ∀ c, c < n → sumN (fun r => one ((geti xs r).toNat = c)) n = 1 := by
  have hxl := cols_len hc
  have hcg : cg n xs n = true := by
    unfold colsOk at hc
    simp only [Bool.and_eq_true, decide_eq_true_eq] at hc
    rw [hxl] at hc; exact hc.1
  have hinj : ∀ i j, i < n → j < n → i ≠ j → (geti xs i).toNat ≠ (geti xs j).toNat := fun i j hi hj hne => by
    rcases Nat.lt_or_gt_of_ne hne with e | e
    · exact cg_ne hcg e hj
    · exact (cg_ne hcg e hi).symm
  have htot : sumN (fun c => sumN (fun r => one ((geti xs r).toNat = c)) n) n = (n : Int) := by
    rw [sumN_swap, ← sumN_one n]
    refine sumN_congr (fun r hr => ?_)
    have hx := cols_at hc hr
    have := sumN_upd (g := fun _ => 0) (h := fun c => one ((geti xs r).toNat = c)) (c := (geti xs r).toNat) (d := 1) (by unfold one; simp) (fun j hj => by unfold one; rw [if_neg (fun e => hj e.symm)]) (n := n) (by omega)
    rw [this, sumN_zero]; rfl
  intro c hcn
  have h1 := few_one (f := fun r => (geti xs r).toNat) (c := c) hinj
  have h0 : 0 ≤ sumN (fun r => one ((geti xs r).toNat = c)) n := sumN_nonneg (fun r _ => (one_bd _).1)
  apply Classical.byContradiction
  intro hne
  have hz : sumN (fun r => one ((geti xs r).toNat = c)) n = 0 := by omega
  have b1 : sumN (fun c => sumN (fun r => one ((geti xs r).toNat = c)) n) n ≤ sumN (fun d => if d = c then 0 else 1) n := sumN_le (fun d hd => by
    try dsimp only
    by_cases e : d = c
    · subst e; rw [if_pos rfl]; exact Int.le_of_eq hz
    · rw [if_neg e]; exact few_one (f := fun r => (geti xs r).toNat) (c := d) hinj)
  have b2 := sumN_upd (g := fun _ => 1) (h := fun d : Nat => if d = c then (0 : Int) else 1) (c := c) (d := -1) (by simp) (fun j hj => by simp [hj]) hcn
  rw [sumN_one] at b2
  omega
theorem sub_lev {K : List (List Int)} (h : IsT K) {lv wt : Int} {xs : List Int} (hl : Lev K lv) (hc : colsOk K.length xs = true) : Lev (subP K wt xs K.length) (lv - wt) := by
  have hg := subP_gat (wt := wt) h.row hc K.length (Nat.le_refl _)
  have hx := fun r (hr : r < K.length) => cols_at hc hr
  refine ⟨fun i hi => ?_, fun i hi => ?_⟩
  · rw [subP_len] at hi ⊢
    have := sumN_upd (g := fun c => gat K i c) (h := fun c => gat (subP K wt xs K.length) i c) (c := (geti xs i).toNat) (d := -wt) (by rw [hg, if_pos ⟨hi, rfl⟩]; omega) (fun j hj => by rw [hg, if_neg (fun e => hj e.2.symm)]) (n := K.length) (by have := hx i hi; omega)
    rw [this, hl.row i hi]; omega
  · rw [subP_len] at hi ⊢
    have e1 : sumN (fun r => gat (subP K wt xs K.length) r i) K.length = sumN (fun r => gat K r i + (-wt) * one ((geti xs r).toNat = i)) K.length := sumN_congr (fun r hr => by
      rw [hg]
      unfold one
      by_cases e : (geti xs r).toNat = i
      · rw [if_pos ⟨hr, e⟩, if_pos e]; omega
      · rw [if_neg (fun h2 => e h2.2), if_neg e]; omega)
    rw [e1, sumN_add, ← sumN_mul, once hc i hi, hl.col i hi]; omega
/-- The layers of a level table. -/
def spF : Nat → List (List Int) → Int → List Lay
  | 0, _, _ => []
  | f + 1, K, lv => if 0 < lv then (hvW K (hvN K), hvC K) :: spF f (subP K (hvW K (hvN K)) (hvC K) K.length) (lv - hvW K (hvN K)) else []
def spL (K : List (List Int)) (lv : Int) : List Lay := spF lv.toNat K lv
theorem lev_wt {K : List (List Int)} (h : IsT K) {lv : Int} (hl : Lev K lv) (hp : 0 < lv) (hn : 0 < K.length) : 1 ≤ hvW K (hvN K) ∧ hvW K (hvN K) ≤ lv ∧ hvW K (hvN K) ≤ 9 := by
  have ha := lev_all h hl hp
  have h1 := hvW_pos h ha (hvN K) (by rw [hvN_all ha]; exact Nat.le_refl _)
  have h2 := hvW_le (K := K) (k := hvN K) (j := 0) (by rw [hvN_all ha]; exact hn)
  rw [all_rows h ha 0 hn] at h2
  have h3 := sumN_ge (g := fun c => gat K 0 c) (n := K.length) (c := (geti (hvC K) 0).toNat) (fun c _ => (h.bd 0 c).1) (by have := cols_at (hv_cols h ha) hn; omega)
  rw [hl.row 0 hn] at h3
  have h4 : hvW K (hvN K) ≤ gat K 0 (geti (hvC K) 0).toNat := h2
  exact ⟨h1, by omega, (hvW_bd h _).2⟩
/-- Without a level all is 0. -/
theorem lev_zer {K : List (List Int)} (h : IsT K) (hl : Lev K 0) : zerB K = true := by
  unfold zerB
  simp only [List.all_eq_true, List.mem_range, decide_eq_true_eq]
  intro r hr c hc
  have h3 := sumN_ge (g := fun c => gat K r c) (n := K.length) (c := c) (fun c _ => (h.bd r c).1) hc
  rw [hl.row r hr] at h3
  have := (h.bd r c).1
  omega
theorem sp_step {K : List (List Int)} (h : IsT K) {lv : Int} (hl : Lev K lv) (hp : 0 < lv) (hn : 0 < K.length) :
    spL K lv = (hvW K (hvN K), hvC K) :: spL (subP K (hvW K (hvN K)) (hvC K) K.length) (lv - hvW K (hvN K)) ∧ layOk K (hvW K (hvN K), hvC K) = true ∧ IsT (subP K (hvW K (hvN K)) (hvC K) K.length) ∧ Lev (subP K (hvW K (hvN K)) (hvC K) K.length) (lv - hvW K (hvN K)) := by
  have ha := lev_all h hl hp
  obtain ⟨w1, w2, w3⟩ := lev_wt h hl hp hn
  have hok := hv_ok h ha
  have key : ∀ f g K lv, IsT K → Lev K lv → 0 < K.length → lv ≤ (f : Nat) → lv ≤ (g : Nat) → spF f K lv = spF g K lv := fun f => by
    induction f with
    | zero =>
      intro g K lv _ _ _ hf _
      cases g with
      | zero => rfl
      | succ g => show [] = if 0 < lv then _ else []; rw [if_neg (by omega)]
    | succ f ih =>
      intro g K lv hK hL hn hf hg
      by_cases hp : 0 < lv
      · cases g with
        | zero => omega
        | succ g =>
          show (if 0 < lv then _ else []) = (if 0 < lv then _ else [])
          rw [if_pos hp, if_pos hp]
          obtain ⟨v1, v2, v3⟩ := lev_wt hK hL hp hn
          have ha := lev_all hK hL hp
          congr 1
          exact ih g _ _ (subP_isT hK v1 (hv_cols hK ha) (hv_brs hK ha _ (Nat.le_refl _)) (Nat.le_refl _)) (sub_lev hK hL (hv_cols hK ha)) (by rw [subP_len]; exact hn) (by omega) (by omega)
      · show (if 0 < lv then _ else []) = _
        rw [if_neg hp]
        cases g with
        | zero => rfl
        | succ g => show [] = if 0 < lv then _ else []; rw [if_neg hp]
  have hT := subP_isT h w1 (hv_cols h ha) (hv_brs h ha _ (Nat.le_refl _)) (Nat.le_refl K.length)
  have hL := sub_lev (wt := hvW K (hvN K)) h hl (hv_cols h ha)
  refine ⟨?_, hok, hT, hL⟩
  obtain ⟨f, hf⟩ : ∃ f, lv.toNat = f + 1 := ⟨lv.toNat - 1, by omega⟩
  unfold spL
  rw [hf]
  show (if 0 < lv then _ else []) = _
  rw [if_pos hp]
  congr 1
  exact key _ _ _ _ hT hL (by rw [subP_len]; exact hn) (by omega) (by omega)
theorem sp_end {K : List (List Int)} {lv : Int} (hp : ¬ 0 < lv) : spL K lv = [] := by
  unfold spL
  rw [show lv.toNat = 0 by omega]; rfl
theorem sp_ok : ∀ (f : Nat) (K : List (List Int)) (lv : Int), IsT K → Lev K lv → 0 < K.length → 0 ≤ lv → lv ≤ f → splB K (spL K lv) = true ∧ (spL K lv).length ≤ f
  | 0, K, lv, h, hl, _, h0, hf => by
    obtain rfl : lv = 0 := by omega
    rw [sp_end (by omega)]
    exact ⟨lev_zer h hl, by simp⟩
  | f + 1, K, lv, h, hl, hn, h0, hf => by
    by_cases hp : 0 < lv
    · obtain ⟨e, hok, hT, hL⟩ := sp_step h hl hp hn
      obtain ⟨w1, w2, w3⟩ := lev_wt h hl hp hn
      obtain ⟨i1, i2⟩ := sp_ok f _ _ hT hL (by rw [subP_len]; exact hn) (by omega) (by omega)
      rw [e]
      refine ⟨?_, by rw [List.length_cons]; omega⟩
      show (layOk K _ && splB (subP K (hvW K (hvN K)) (hvC K) K.length) _) = true
      rw [hok, i1]; rfl
    · obtain rfl : lv = 0 := by omega
      rw [sp_end hp]
      exact ⟨lev_zer h hl, by simp⟩
end Go.Proofs.Ytnnaaoobdofooaa
/- More vectors than numbers have a relation. -/
namespace Go.Proofs.Ytnnaaoobdofooaa
open Go.RowKit
set_option maxHeartbeats 1000000
set_option maxRecDepth 100000
def unsk (c j : Nat) : Nat := if j < c then j else j - 1
theorem unsk_skip (c j : Nat) : unsk c (skip c j) = j := by
  unfold unsk skip
  by_cases h : j < c
  · rw [if_pos h, if_pos h]
  · rw [if_neg h, if_neg (by omega)]; omega
theorem skip_ne (c j : Nat) : skip c j ≠ c := by unfold skip; split <;> omega
theorem skip_lt {c j m : Nat} (h : j < m) (_hc : c ≤ m) : skip c j < m + 1 := by unfold skip; split <;> omega
theorem dep : ∀ (d k : Nat) (v : Nat → Nat → Int), d < k → ∃ a : Nat → Int, (∃ j, j < k ∧ a j ≠ 0) ∧ ∀ i, i < d → sumN (fun j => a j * v j i) k = 0
  | 0, k, _, hk => ⟨fun _ => 1, ⟨0, hk, by decide⟩, fun i hi => absurd hi (by omega)⟩
  | d + 1, k, v, hk => by
    by_cases hz : ∀ j, j < k → v j d = 0
    · obtain ⟨a, ha, hs⟩ := dep d k v (by omega)
      refine ⟨a, ha, fun i hi => ?_⟩
      by_cases e : i = d
      · subst e
        rw [sumN_congr (h := fun _ => 0) (fun j hj => by rw [hz j hj, Int.mul_zero]), sumN_zero]
      · exact hs i (by omega)
    · obtain ⟨c, hc, hx⟩ : ∃ c, c < k ∧ v c d ≠ 0 := by
        apply Classical.byContradiction
        intro hno
        exact hz (fun j hj => Classical.byContradiction (fun h => hno ⟨j, hj, h⟩))
      obtain ⟨m, rfl⟩ : ∃ m, k = m + 1 := ⟨k - 1, by omega⟩
      obtain ⟨b, ⟨q, hq, hbq⟩, hs⟩ := dep d m (fun j i => v c d * v (skip c j) i - v (skip c j) d * v c i) (by omega)
      let S : Int := sumN (fun q => b q * v (skip c q) d) m
      let a : Nat → Int := fun j => if j = c then -S else v c d * b (unsk c j)
      have haS : ∀ q, a (skip c q) = v c d * b q := fun q => by
        show (if skip c q = c then -S else v c d * b (unsk c (skip c q))) = _
        rw [if_neg (skip_ne c q), unsk_skip]
      have hac : a c = -S := if_pos rfl
      have hsum : ∀ i, sumN (fun j => a j * v j i) (m + 1) = sumN (fun q => v c d * b q * v (skip c q) i) m + -S * v c i := fun i => by
        have e1 := sumN_upd (g := fun j => if j = c then 0 else a j * v j i) (h := fun j => a j * v j i) (c := c) (d := -S * v c i) (by rw [if_pos rfl, hac]; omega) (fun j hj => by rw [if_neg hj]) (n := m + 1) hc
        rw [e1, sumN_skip (g := fun j => if j = c then 0 else a j * v j i) (c := c) (if_pos rfl) (show c ≤ m by omega)]
        congr 1
        refine sumN_congr (fun q _ => ?_)
        try dsimp only
        rw [if_neg (skip_ne c q), haS]
      refine ⟨a, ⟨skip c q, skip_lt hq (by omega), by rw [haS]; exact Int.mul_ne_zero hx hbq⟩, fun i hi => ?_⟩
      rw [hsum]
      have e2 : sumN (fun q => v c d * b q * v (skip c q) i) m + -S * v c i = sumN (fun q => b q * (v c d * v (skip c q) i - v (skip c q) d * v c i)) m := by
        have e3 : -S * v c i = sumN (fun q => -(b q * v (skip c q) d) * v c i) m := by
          show -(sumN (fun q => b q * v (skip c q) d) m) * v c i = _
          rw [Int.neg_mul, Int.mul_comm, ← Int.mul_neg]
          rw [show -(sumN (fun q => b q * v (skip c q) d) m) = (-1) * sumN (fun q => b q * v (skip c q) d) m by omega, sumN_mul, sumN_mul]
          refine sumN_congr (fun q _ => ?_)
          try dsimp only
          rw [Int.mul_comm (v c i), Int.neg_mul, Int.one_mul]
        rw [e3, ← sumN_add]
        refine sumN_congr (fun q _ => ?_)
        try dsimp only
        rw [Int.mul_sub, Int.neg_mul, ← Int.sub_eq_add_neg]
        congr 1
        · rw [← Int.mul_assoc, Int.mul_comm (b q)]
        · rw [Int.mul_assoc]
      rw [e2]
      by_cases e : i = d
      · subst e
        rw [sumN_congr (h := fun _ => 0) (fun q _ => by (try dsimp only); rw [Int.mul_comm (v (skip c q) i), Int.sub_self, Int.mul_zero]), sumN_zero]
      · exact hs i (by omega)
/-- Vectors of which each has a place that the later ones lack are independent. -/
theorem tri {k : Nat} {a : Nat → Int} {p : Nat → Nat → Int} (h1 : ∀ j, j < k → p j j ≠ 0) (h2 : ∀ i j, i < k → j < i → p j i = 0) (hs : ∀ j, j < k → sumN (fun i => a i * p j i) k = 0) : ∀ j, j < k → a j = 0 := by
  have key : ∀ m, m ≤ k → ∀ j, j < m → a j = 0 := fun m => by
    induction m with
    | zero => intro _ j hj; omega
    | succ m ih =>
      intro hm j hj
      by_cases e : j = m
      · subst e
        have hz := hs j (by omega)
        have e1 := sumN_upd (g := fun _ => 0) (h := fun i => if i = j then a j * p j j else 0) (c := j) (d := a j * p j j) (by rw [if_pos rfl]; omega) (fun q hq => by rw [if_neg hq]) (n := k) (by omega)
        have e2 : sumN (fun i => a i * p j i) k = sumN (fun i => if i = j then a j * p j j else 0) k := sumN_congr (fun i hi => by
          by_cases e : i = j
          · subst e; rw [if_pos rfl]
          · rw [if_neg e]
            by_cases hlt : i < j
            · rw [ih (by omega) i hlt, Int.zero_mul]
            · rw [h2 i j hi (by omega), Int.mul_zero])
        rw [e2, e1, sumN_zero] at hz
        have hz2 : a j * p j j = 0 := by omega
        rcases Int.mul_eq_zero.1 hz2 with h | h
        · exact h
        · exact absurd h (h1 j (by omega))
      · exact ih (by omega) j (by omega)
  exact key k (Nat.le_refl _)
end Go.Proofs.Ytnnaaoobdofooaa
/- Few layers: mathematics. -/
namespace Go.Proofs.Ytnnaaoobdofooaa
open Go.RowKit
/-- Each layer takes the smallest number that it meets. -/
def Met : List (List Int) → List Lay → Prop
  | _, [] => True
  | K, l :: ls => (1 ≤ l.1 ∧ colsOk K.length l.2 = true ∧ brs K l.1 l.2 K.length = true ∧ ∃ r, r < K.length ∧ gat K r (geti l.2 r).toNat = l.1) ∧ Met (subP K l.1 l.2 K.length) ls
theorem hv_met {K : List (List Int)} (h : IsT K) (ha : mN K = K.length) (hn : 0 < K.length) : ∃ r, r < K.length ∧ gat K r (geti (hvC K) r).toNat = hvW K (hvN K) := by
  have hN := hvN_all ha
  rcases hvW_met (K := K) (hvN K) with e | ⟨j, hj, e⟩
  · have := brs_at (hv_brs h ha K.length (Nat.le_refl _)) hn
    have h9 := (h.bd 0 (geti (hvC K) 0).toNat).2
    exact ⟨0, hn, by omega⟩
  · rw [hN] at hj
    rw [all_rows h ha j hj, Int.toNat_natCast] at e
    exact ⟨j, hj, e.symm⟩
theorem sp_met : ∀ (f : Nat) (K : List (List Int)) (lv : Int), IsT K → Lev K lv → 0 < K.length → lv ≤ f → Met K (spL K lv)
  | 0, K, lv, _, _, _, hf => by
    rw [sp_end (by omega)]; trivial
  | f + 1, K, lv, h, hl, hn, hf => by
    by_cases hp : 0 < lv
    · obtain ⟨e, hok, hT, hL⟩ := sp_step h hl hp hn
      obtain ⟨w1, w2, w3⟩ := lev_wt h hl hp hn
      obtain ⟨p1, p2, p3⟩ := layOk_parts hok
      rw [e]
      exact ⟨⟨p1, p2, p3, hv_met h (lev_all h hl hp) hn⟩, sp_met f _ _ hT hL (by rw [subP_len]; exact hn) (by omega)⟩
    · rw [sp_end hp]; trivial
theorem met_zero : ∀ {ls : List Lay} {K : List (List Int)} {r c : Nat}, IsT K → Met K ls → r < K.length → gat K r c = 0 → ∀ i, i < ls.length → (geti (laC ls i) r).toNat ≠ c
  | [], _, _, _, _, _, _, _, i, hi => absurd hi (by simp)
  | l :: ls, K, r, c, h, hm, hr, hz, i, hi => by
    obtain ⟨⟨m1, m2, m3, -⟩, hm2⟩ := hm
    have hne : (geti l.2 r).toNat ≠ c := fun e => by
      have := brs_at m3 hr
      rw [e, hz] at this
      omega
    cases i with
    | zero => exact hne
    | succ i =>
      exact met_zero (subP_isT h m1 m2 m3 (Nat.le_refl _)) hm2 (by rw [subP_len]; exact hr) (by rw [subP_gat h.row m2 _ (Nat.le_refl _), if_neg (fun e => hne e.2)]; exact hz) i (by simpa using hi)
theorem met_rows : ∀ {ls : List Lay} {K : List (List Int)}, IsT K → Met K ls → ∃ r : Nat → Nat, (∀ j, j < ls.length → r j < K.length ∧ colsOk K.length (laC ls j) = true) ∧ ∀ i j, i < ls.length → j < i → (geti (laC ls i) (r j)).toNat ≠ (geti (laC ls j) (r j)).toNat
  | [], _, _, _ => ⟨fun _ => 0, fun j hj => absurd hj (by simp), fun i j hi => absurd hi (by simp)⟩
  | l :: ls, K, h, hm => by
    obtain ⟨⟨m1, m2, m3, r0, hr0, e0⟩, hm2⟩ := hm
    have hT := subP_isT h m1 m2 m3 (Nat.le_refl K.length)
    obtain ⟨r, q1, q2⟩ := met_rows hT hm2
    rw [subP_len] at q1
    refine ⟨fun j => match j with | 0 => r0 | j + 1 => r j, fun j hj => ?_, fun i j hi hj => ?_⟩
    · cases j with
      | zero => exact ⟨hr0, m2⟩
      | succ j => exact q1 j (by simpa using hj)
    · cases i with
      | zero => omega
      | succ i =>
        cases j with
        | zero => exact met_zero hT hm2 (by rw [subP_len]; exact hr0) (by rw [subP_gat h.row m2 _ (Nat.le_refl _), if_pos ⟨hr0, rfl⟩]; show gat K r0 (geti l.2 r0).toNat - l.1 = 0; omega) i (by simpa using hi)
        | succ j => exact q2 i j (by simpa using hi) (by omega)
theorem once_row {y n : Nat} (h : y < n) : sumN (fun c => one (y = c)) n = 1 := by
  have e := sumN_upd (g := fun _ => 0) (h := fun c => one (y = c)) (c := y) (d := 1) (by unfold one; rw [if_pos rfl]; rfl) (fun j hj => by unfold one; rw [if_neg (fun e => hj e.symm)]) (n := n) h
  rw [e, sumN_zero]; rfl
theorem few {n k : Nat} {x : Nat → List Int} {r : Nat → Nat} (hn : 0 < n) (hx : ∀ j, j < k → r j < n ∧ colsOk n (x j) = true) (hd : ∀ i j, i < k → j < i → (geti (x i) (r j)).toNat ≠ (geti (x j) (r j)).toNat) : k ≤ (n - 1) * (n - 1) + 1 := by
  obtain ⟨m, rfl⟩ : ∃ m, n = m + 1 := ⟨n - 1, by omega⟩
  rw [Nat.add_sub_cancel]
  by_cases hk : k ≤ m * m + 1
  · exact hk
  exfalso
  obtain ⟨a, ⟨j0, hj0, ha⟩, hz⟩ := dep (m * m + 1) k (fun j i => match i with | 0 => 1 | i + 1 => one ((geti (x j) (i / m)).toNat = i % m)) (by omega)
  have h0 : sumN (fun j => a j * 1) k = 0 := hz 0 (by omega)
  have hq : ∀ u v, u < m → v < m → sumN (fun j => a j * one ((geti (x j) u).toNat = v)) k = 0 := fun u v hu hv => by
    have h1 : u * m + v < m * m := by
      have : (u + 1) * m ≤ m * m := Nat.mul_le_mul_right m hu
      rw [Nat.add_mul, Nat.one_mul] at this
      omega
    have h2 := hz (u * m + v + 1) (by omega)
    have e1 : (u * m + v) / m = u := by rw [Nat.mul_comm, Nat.mul_add_div (by omega), Nat.div_eq_of_lt hv]; rfl
    have e2 : (u * m + v) % m = v := by rw [Nat.mul_comm, Nat.mul_add_mod, Nat.mod_eq_of_lt hv]
    dsimp only at h2
    rw [e1, e2] at h2
    exact h2
  have hrow : ∀ u, u < m + 1 → sumN (fun c => sumN (fun j => a j * one ((geti (x j) u).toNat = c)) k) (m + 1) = 0 := fun u hu => by
    rw [sumN_swap]
    rw [← h0]
    refine sumN_congr (fun j hj => ?_)
    rw [← sumN_mul]
    obtain ⟨y0, y1⟩ := cols_at (hx j hj).2 hu
    rw [once_row (by omega)]
  have hcol : ∀ c, c < m + 1 → sumN (fun u => sumN (fun j => a j * one ((geti (x j) u).toNat = c)) k) (m + 1) = 0 := fun c hc => by
    rw [sumN_swap]
    rw [← h0]
    refine sumN_congr (fun j hj => ?_)
    rw [← sumN_mul, once (hx j hj).2 c hc]
  have hall1 : ∀ u, u < m → ∀ v, v < m + 1 → sumN (fun j => a j * one ((geti (x j) u).toNat = v)) k = 0 := fun u hu v hv => by
    by_cases e : v < m
    · exact hq u v hu e
    · obtain rfl : v = m := by omega
      have h1 := hrow u (by omega)
      have h2 : sumN (fun c => sumN (fun j => a j * one ((geti (x j) u).toNat = c)) k) v = 0 := by
        rw [← sumN_zero v]; exact sumN_congr (fun c hc => hq u c hu hc)
      have h3 : sumN (fun c => sumN (fun j => a j * one ((geti (x j) u).toNat = c)) k) (v + 1) = sumN (fun c => sumN (fun j => a j * one ((geti (x j) u).toNat = c)) k) v + sumN (fun j => a j * one ((geti (x j) u).toNat = v)) k := rfl
      omega
  have hall : ∀ u, u < m + 1 → ∀ v, v < m + 1 → sumN (fun j => a j * one ((geti (x j) u).toNat = v)) k = 0 := fun u hu v hv => by
    by_cases e : u < m
    · exact hall1 u e v hv
    · obtain rfl : u = m := by omega
      have h1 := hcol v hv
      have h2 : sumN (fun w => sumN (fun j => a j * one ((geti (x j) w).toNat = v)) k) u = 0 := by
        rw [← sumN_zero u]; exact sumN_congr (fun w hw => hall1 w hw v hv)
      have h3 : sumN (fun w => sumN (fun j => a j * one ((geti (x j) w).toNat = v)) k) (u + 1) = sumN (fun w => sumN (fun j => a j * one ((geti (x j) w).toNat = v)) k) u + sumN (fun j => a j * one ((geti (x j) u).toNat = v)) k := rfl
      omega
  refine ha (tri (p := fun j i => one ((geti (x i) (r j)).toNat = (geti (x j) (r j)).toNat)) (fun j _ => ?_) (fun i j hi hj => ?_) (fun j hj => ?_) j0 hj0)
  · unfold one; rw [if_pos rfl]; decide
  · unfold one; rw [if_neg (hd i j hi hj)]
  · obtain ⟨y0, y1⟩ := cols_at (hx j hj).2 (hx j hj).1
    exact hall (r j) (hx j hj).1 _ (by omega)
theorem sp_few {K : List (List Int)} {lv : Int} (h : IsT K) (hl : Lev K lv) (hn : 0 < K.length) : (spL K lv).length ≤ (K.length - 1) * (K.length - 1) + 1 := by
  obtain ⟨r, h1, h2⟩ := met_rows h (sp_met lv.toNat K lv h hl hn (by omega))
  exact few hn h1 h2
end Go.Proofs.Ytnnaaoobdofooaa
