/- The reference's densest set: the walk. -/
import Derived.Test.YtpaeagkgmbhndaaCB
import Derived.Test.YtpaeagkgmbhndaaZM
namespace Go.Proofs.Ytpaeagkgmbhndaa
open Go.RowKit
set_option maxHeartbeats 1000000
set_option maxRecDepth 100000
theorem wrap_pow {t : Nat} (h : t ≤ 17) : IntKind.i64.wrap ((2 : Int)^t) = ((2^t : Nat) : Int) := by
  have h1 : 2^t ≤ 2^17 := Nat.pow_le_pow_right (by omega) h
  rw [pow_cast]
  generalize 2^t = N at *
  exact IntWalk.i64_in _ (by omega)
theorem wrap_pow2 {t : Nat} (h : t ≤ 17) : IntKind.i64.wrap (2 * (2 : Int)^t) = ((2 * 2^t : Nat) : Int) := by
  have h1 : 2^t ≤ 2^17 := Nat.pow_le_pow_right (by omega) h
  rw [pow_cast]
  generalize 2^t = N at *
  rw [IntWalk.i64_in _ (by omega)]; omega
theorem has_rem (s k : Nat) : (((s : Int) / 2^k).tmod 2 == 1) = sHas s k := by
  have h1 : (s : Int) / 2^k = ((s / 2^k : Nat) : Int) := by rw [pow_cast]; rfl
  rw [h1]
  have h2 : (((s / 2^k : Nat) : Int)).tmod 2 = ((s / 2^k % 2 : Nat) : Int) := rfl
  rw [h2]
  unfold sHas
  rw [Nat.testBit_eq_decide_div_mod_eq]
  have h3 : s / 2^k % 2 < 2 := Nat.mod_lt _ (by omega)
  generalize s / 2^k % 2 = r at *
  rcases (by omega : r = 0 ∨ r = 1) with rfl | rfl <;> rfl
theorem tabL_off (f : Nat → Nat) {N K j : Nat} (hN : j < N) (hK : K ≤ j) : getn (tabL f N K) j = 0 := by
  unfold getn tabL
  rw [List.getD_eq_getElem?_getD, List.getElem?_map, List.getElem?_range hN]
  simp only [Option.map_some, Option.getD_some]
  rw [if_neg (by omega)]
theorem i64_and_nat (a b : Nat) (ha : a < 65536) (hb : b < 65536) : bits .and .i64 (a : Int) (b : Int) = ((a &&& b : Nat) : Int) := by
  have hx : a &&& b ≤ a := Nat.and_le_left
  show IntKind.i64.wrap ((BitVec.ofInt 64 (a : Int) &&& BitVec.ofInt 64 (b : Int)).toNat : Int) = _
  rw [BitVec.toNat_and, ofInt_u64 a (by omega), ofInt_u64 b (by omega)]
  exact IntWalk.i64_in _ (by omega)
theorem i64_or_nat (a b : Nat) (ha : a < 65536) (hb : b < 65536) : bits .or .i64 (a : Int) (b : Int) = ((a ||| b : Nat) : Int) := by
  have hx : a ||| b < 2 ^ 16 := Nat.or_lt_two_pow (by omega) (by omega)
  show IntKind.i64.wrap ((BitVec.ofInt 64 (a : Int) ||| BitVec.ofInt 64 (b : Int)).toNat : Int) = _
  rw [BitVec.toNat_or, ofInt_u64 a (by omega), ofInt_u64 b (by omega)]
  exact IntWalk.i64_in _ (by omega)
theorem wrap64_pow {t : Nat} (h : t ≤ 17) : wrap64 ((2 : Int)^t) = ((2^t : Nat) : Int) := by
  have h1 : 2^t ≤ 2^17 := Nat.pow_le_pow_right (by omega) h
  rw [pow_cast]
  generalize 2^t = N at *
  exact IntWalk.wrap64_in _ ⟨by omega, by omega⟩
theorem RefDensest_any (m : Nat) (A : Option Addr) (c : Nat) (es : List (Int × Int)) (gs : List Nat) (s p q : Nat) (w : World) (hx : es.length ≤ 1000000) (ha : PairsAt w A es) (h : readF m es = some gs) (D : Dens m gs s p q) :
    Calls Try.prog 19 #[.int .i64 m, .slice A es.length c] w fun e w' => ∃ v, e = .returned v ∧ w'.ownsRow w.heap.size 3 1 v (ms s).length (intv (ms s)) ∧ Below w.heap.size w w' := by
  obtain ⟨i0, hi, hz0, hz1, hz2⟩ := info_parts info3
  obtain ⟨hm1, hm2, hg, hI⟩ := readF_ok h
  have hm : m ≤ 16 := by omega
  have hm1' : 1 ≤ m := by omega
  have HP0 := Lib.hid (Part.start h)
  have HH := Lib.hid h
  have HD := Lib.hid D
  have HWP := Lib.hid (wrap64_pow (t := m) (by omega))
  clear h D hm1 hm2 hg hI
  go_enter Try.func19, Try.ntmps19
  go_wp2_with (at_make; refine wpList_make_full _ rfl _ _ 24 rfl w.heap.size 3 i0 (.int .i64 0) 1 Try.underlying24 hi hz0 hz1 .i64 .i64 _ _ m rfl rfl rfl rfl (by rw [hz2]; omega) (by unfold maxLen; omega) (Nat.le_refl _) ?_; intro w4 o3 hg4; have r4 := own_made o3; have hb4 : Below w.heap.size w w4 := (Below.refl _ _).grown hg4 (Nat.le_refl _) (by simp); clear o3 hg4)
  rw [HWP.out]
  have hN1 : 2^m ≤ 2^16 := Nat.pow_le_pow_right (by omega) hm
  have hN0 : 0 < 2^m := Nat.pow_pos (by omega)
  obtain ⟨N, hN⟩ : ∃ N : Nat, N = 2^m := ⟨_, rfl⟩
  rw [← hN] at hN1 hN0 ⊢
  have HN := Lib.hid hN
  clear hN
  go_loopw [7] (fun i wr => ∃ (k : Nat) (gk : List Nat), k ≤ es.length ∧ i = .int .i64 k ∧ Hid (Part m es gs k gk) ∧ Row wr w.heap.size 3 (intv (nrL m gk)) ∧ Below w.heap.size w wr) (fun i _ => es.length - (intOf i).toNat)
  case atStart => exact ⟨0, Z16, by omega, rfl, HP0, by show Row w4 _ 3 (intv (nrL m (List.replicate 16 0))); rw [← nrL_start]; exact r4, hb4⟩
  case round =>
    clear r4 hb4
    obtain ⟨k, gk, hk, rfl, hp, hr, hbr⟩ := hrel
    by_cases hlt : k < es.length
    · obtain ⟨b, o, rfl, hb1, hc⟩ := (ha.below hbr) (by omega)
      obtain ⟨c1, c2⟩ := hc k hlt
      obtain ⟨ea, eb, e1, e2, hab, hbm, hp2, hset, hla, hlb⟩ := hp.out.more hlt
      have HP2 := Lib.hid hp2
      have HSET := Lib.hid hset
      rw [e1] at c1
      rw [e2] at c2
      clear hc e1 e2 hp2 hset
      have d5 : wr.cell? ⟨w.heap.size, ea, none⟩ = some (.int .i64 (near gk ea)) := by have := intv_row (i := ea) hr (by rw [nrL_len]; omega); rwa [nrL_at _ (by omega)] at this
      have f5 := hr.free ea
      have d6 : wr.cell? ⟨w.heap.size, eb, none⟩ = some (.int .i64 (near gk eb)) := by have := intv_row (i := eb) hr (by rw [nrL_len]; omega); rwa [nrL_at _ (by omega)] at this
      have f6 := hr.free eb
      have hne : ea ≠ eb := by omega
      have hwa := wrap_pow (t := ea) (by omega)
      have hwb := wrap_pow (t := eb) (by omega)
      have hla2 : 2^ea < 2^16 := Nat.pow_lt_pow_right (by omega) (by omega)
      have hlb2 : 2^eb < 2^16 := Nat.pow_lt_pow_right (by omega) (by omega)
      generalize 2^ea = Pa at *
      generalize 2^eb = Pb at *
      generalize near gk ea = Na at *
      generalize near gk eb = Nb at *
      go_wp2
      go_quiet (fail)
      go_wp2
      refine wp_region_quiet_tail 10 (by kernel_rfl) (by kernel_rfl) ?_
      simp only [List.take_succ_cons, List.take_zero, List.drop_succ_cons, List.drop_zero]
      repeat go_big_quiet_step ((fail))
      refine wpQuiet_nil ?_
      rintro _ ⟨nq, rfl⟩
      go_wp2
      refine wp_region_quiet_tail 10 (by kernel_rfl) (by kernel_rfl) ?_
      simp only [List.take_succ_cons, List.take_zero, List.drop_succ_cons, List.drop_zero]
      repeat go_big_quiet_step ((fail))
      refine wpQuiet_nil ?_
      rintro _ ⟨nq, rfl⟩
      go_wp2
      go_roundw
      case rel =>
        refine ⟨k + 1, addE gk ea eb, by omega, by go_num, HP2, ?_, ?_⟩
        · have h5 : ∀ N1 N2, Row ((((wr.drewN N1).setCell ⟨w.heap.size, ea, none⟩ (.int .i64 ((Na + Pb : Nat) : Int))).drewN N2).setCell ⟨w.heap.size, eb, none⟩ (.int .i64 ((Nb + Pa : Nat) : Int))) w.heap.size 3 (intv (nrL m (addE gk ea eb))) := fun N1 N2 => by
            have := (((hr.drewN N1).set ea (.int .i64 ((Na + Pb : Nat) : Int))).drewN N2).set eb (.int .i64 ((Nb + Pa : Nat) : Int))
            rw [intv_set, intv_set, HSET.out] at this
            exact this
          exact h5 _ _
        · exact (((hbr.trans (below_drewN _)).setCell (by dsimp only; omega) _).trans (below_drewN _)).setCell (by dsimp only; omega) _
      case measure => simp [intOf]; omega
    · obtain rfl : k = es.length := by omega
      have hgk := hp.out.done
      subst hgk
      clear HP0 hp
      obtain ⟨mk, hmk⟩ : ∃ mk : World → World, ∀ W : World, (Instr.makeSlice 24 (.int .i64 (N : Int)) (.int .i64 (N : Int))).run Try.prog W = .ok (.slice (some ⟨W.heap.size, 0, none⟩) N N) (mk W) ∧ (mk W).ownsRow W.heap.size 3 1 (.slice (some ⟨W.heap.size, 0, none⟩) N N) N (madeCells (Value.int .i64 0).cells (N * 1)).toList ∧ W.grownBy (mk W) none :=
        ⟨fun W => Classical.choose (run_make_full (P := Try.prog) W W.heap.size 24 3 i0 (.int .i64 0) 1 Try.underlying24 hi hz0 hz1 .i64 .i64 N (by rw [hz2]; omega) (by unfold maxLen; omega) (Nat.le_refl _)), fun W => Classical.choose_spec (run_make_full (P := Try.prog) W W.heap.size 24 3 i0 (.int .i64 0) 1 Try.underlying24 hi hz0 hz1 .i64 .i64 N (by rw [hz2]; omega) (by unfold maxLen; omega) (Nat.le_refl _))⟩
      have hrun := fun W => (hmk W).1
      have HMK := Lib.hid (fun W => (hmk W).2)
      clear hmk
      have q1' : Row (mk wr.drew) wr.heap.size 3 (intv (List.replicate N 0)) := own_made (HMK.out wr.drew).1
      have q2 : Row (mk (mk wr.drew)) (mk wr.drew).heap.size 3 (intv (List.replicate N 0)) := own_made (HMK.out (mk wr.drew)).1
      have z0 := hr.lt
      have z1 := q1'.lt
      have z2 := q2.lt
      have q0 : Row (mk (mk wr.drew)) w.heap.size 3 (intv (nrL m gk)) := ((hr.drew).grown (HMK.out wr.drew).2 (by first | (simp; done) | (simp; omega) | omega)).grown (HMK.out (mk wr.drew)).2 (by first | (simp; done) | (simp; omega) | omega)
      have q1 : Row (mk (mk wr.drew)) wr.heap.size 3 (intv (List.replicate N 0)) := q1'.grown (HMK.out (mk wr.drew)).2 (by first | (simp; done) | (simp; omega) | omega)
      have q3 : Below w.heap.size w (mk (mk wr.drew)) := ((hbr.drew).grown (HMK.out wr.drew).2 (by first | (simp; done) | (simp; omega) | omega) (by simp)).grown (HMK.out (mk wr.drew)).2 (by first | (simp; done) | (simp; omega) | omega) (by simp)
      have q1e : Row (mk (mk wr.drew)) wr.heap.size 3 (intv (tabL (eg gk) N 1)) := by rw [← tabL_start (eg_zero gk)]; exact q1
      have q2e : Row (mk (mk wr.drew)) (mk wr.drew).heap.size 3 (intv (tabL (eg gk) N 1)) := by rw [← tabL_start (eg_zero gk)]; exact q2
      rw [tabL_start (f := pc 16) (by decide)] at q1 q2
      clear hr hbr q1'
      go_wp2
      have hT : (fun _ : World => True) wr := trivial
      go_region_held3 (fun _ => True) (trivial) (fail)
      all_goals go_wp2
      all_goals
        generalize mk (mk wr.drew) = W5 at *
        generalize (mk wr.drew).heap.size = g2 at *
        generalize wr.heap.size = g1 at *
        clear hrun HMK
      · go_loopw [12, 13, 14, 15, 16] (fun t b z a k wr => ∃ (T B Z Al K : Nat), 1 ≤ K ∧ K ≤ N ∧ t = .int .i64 T ∧ b = .int .i64 B ∧ z = .int .i64 Z ∧ a = .int .i64 Al ∧ k = .int .i64 K ∧ Hid (BestI gk K B Z Al) ∧ Hid (2^T ≤ K ∧ K ≤ 2^(T+1)) ∧ Row wr w.heap.size 3 (intv (nrL m gk)) ∧ Row wr g1 3 (intv (tabL (pc 16) N K)) ∧ Row wr g2 3 (intv (tabL (eg gk) N K)) ∧ Below w.heap.size w wr) (fun _ _ _ _ k _ => N - (intOf k).toNat)
        case atStart => exact ⟨0, 0, 1, 0, 1, by omega, by omega, rfl, rfl, rfl, rfl, rfl, Lib.hid (BestI.start gk), Lib.hid (by decide), q0, q1, q2e, q3⟩
        case round =>
          clear q0 q1 q2 q3
          obtain ⟨T, B, Z, Al, K, hK1, hKN, rfl, rfl, rfl, rfl, rfl, HB, hp, hr0, h1, h2, hbr⟩ := hrel
          by_cases hlt : K < N
          · have hK65 : K < 65536 := by omega
            have hT16 : T < 16 := by
              by_cases e : T < 16
              · exact e
              · have h1 : 2^16 ≤ 2^T := Nat.pow_le_pow_right (by omega) (by omega)
                have := hp.out
                omega
            have hpw : IntKind.i64.wrap (2 * (2 : Int)^T) = ((2^(T+1) : Nat) : Int) := by rw [wrap_pow2 (by omega), Nat.pow_succ]; congr 1; omega
            by_cases htop : 2^(T+1) ≤ K
            · have hlo := htop
              have hhi : K < 2^(T+1+1) := by rw [Nat.pow_succ]; have := hp.out; have : 0 < 2^(T+1) := Nat.pow_pos (by omega); omega
              have HPP := Lib.hid (show 2^(T+1) ≤ K + 1 ∧ K + 1 ≤ 2^(T+1+1) from ⟨by omega, hhi⟩)
              have hTm : T + 1 < m := by
                by_cases e : T + 1 < m
                · exact e
                · have h1 : 2^m ≤ 2^(T + 1) := Nat.pow_le_pow_right (by omega) (by omega)
                  have := HN.out
                  omega
              have hbit := top_bit (K := K) (t := T + 1) hlo hhi
              have hless := top_less (K := K) (t := T + 1) hK65 (by omega) hlo hhi
              have hpc := pc_without (s := K) (v := T + 1) hK65 (by omega) hbit
              have heg := eg_top (K := K) (t := T + 1) HH.out hK65 (by omega) hbit
              rw [hless] at hpc heg
              have hwp := wrap_pow (t := T + 1) (by omega)
              clear hbit hless
              have hP0 : 0 < 2^(T + 1) := Nat.pow_pos (by omega)
              have hQP : 2^(T + 1 + 1) = 2^(T + 1) * 2 := Nat.pow_succ ..
              generalize hQQ : 2^(T + 1 + 1) = Q at *
              have HQQ := Lib.hid hQQ
              clear hQQ
              generalize hPP : 2^(T + 1) = P at *
              have HPQ := Lib.hid hPP
              clear hPP
              have hg1 : decide ((P : Int) ≤ K) = true := decide_eq_true (by omega)
              have hg2 : decide (P ≤ K) = true := decide_eq_true (by omega)
              obtain ⟨L, hL⟩ : ∃ L, L = K - P := ⟨_, rfl⟩
              rw [← hL] at hpc heg
              have hwl : IntKind.i64.wrap ((K : Int) - P) = (L : Int) := by rw [IntWalk.i64_in _ (by omega)]; omega
              have hLK : L < K := by omega
              have hLK1 : L ≠ K := by omega
              have hLK2 : K ≠ L := by omega
              clear hL
              have hnt := Rows16.near_lt (readF_ok HH.out).2.2.1 (T + 1)
              have d0 : wr.cell? ⟨w.heap.size, T + 1, none⟩ = some (.int .i64 (near gk (T + 1))) := by have := intv_row (i := T + 1) hr0 (by rw [nrL_len]; omega); rwa [nrL_at _ (by omega)] at this
              have hand := i64_and_nat L (near gk (T + 1)) (by omega) hnt
              have hML : L &&& near gk (T + 1) ≤ L := Nat.and_le_left
              have heg2 : eg gk K = eg gk L + pc 16 (L &&& near gk (T + 1)) := heg
              have d1 : wr.cell? ⟨g1, L, none⟩ = some (.int .i64 (pc 16 L)) := by have := intv_row (i := L) h1 (by rw [tabL_len]; omega); rwa [tabL_at _ (by omega) hLK] at this
              have d2 : wr.cell? ⟨g2, L, none⟩ = some (.int .i64 (eg gk L)) := by have := intv_row (i := L) h2 (by rw [tabL_len]; omega); rwa [tabL_at _ (by omega) hLK] at this
              have d3 : wr.cell? ⟨g1, L &&& near gk (T + 1), none⟩ = some (.int .i64 (pc 16 (L &&& near gk (T + 1)))) := by have := intv_row (i := L &&& near gk (T + 1)) h1 (by rw [tabL_len]; omega); rwa [tabL_at _ (by omega) (by omega)] at this
              have d4 : wr.cell? ⟨g1, K, none⟩ = some (.int .i64 (0 : Nat)) := by have := intv_row (i := K) h1 (by rw [tabL_len]; omega); rwa [tabL_off _ (by omega) (Nat.le_refl _)] at this
              have d5 : wr.cell? ⟨g2, K, none⟩ = some (.int .i64 (0 : Nat)) := by have := intv_row (i := K) h2 (by rw [tabL_len]; omega); rwa [tabL_off _ (by omega) (Nat.le_refl _)] at this
              have hgg1 : g1 ≠ g2 := by omega
              have hgg2 : g2 ≠ g1 := by omega
              have f1 := h1.free K
              have f2 := h2.free K
              have hM16 := pc_le 16 (L &&& near gk (T + 1))
              have hL16 := pc_le 16 L
              have hEL := eg_le gk L
              have hEK := eg_le gk K
              have hK16 := pc_le 16 K
              have HPC := Lib.hid hpc
              have HEG := Lib.hid heg2
              rw [heg2] at hEK
              rw [← hpc] at hK16
              clear heg heg2 hpc
              generalize near gk (T + 1) = nt at *
              generalize hM : L &&& nt = M at *
              have hMK : M ≠ K := by omega
              have hMK2 : K ≠ M := by omega
              clear hM
              generalize hA1 : pc 16 L = pL at *
              generalize hA2 : pc 16 M = pM at *
              generalize hA3 : eg gk L = eL at *
              have hz0 := HB.out.s0
              have hz16 := HB.out.s16
              have hb128 := HB.out.b128
              have hal := HB.out.lt
              obtain ⟨X1, hX1⟩ : ∃ X, X = (eL + pM) * Z := ⟨_, rfl⟩
              obtain ⟨X2, hX2⟩ : ∃ X, X = B * (pL + 1) := ⟨_, rfl⟩
              have xb1 : X1 ≤ 128 * 16 := by rw [hX1]; exact Nat.mul_le_mul hEK hz16
              have xb2 : X2 ≤ 128 * 17 := by rw [hX2]; exact Nat.mul_le_mul hb128 (by omega)
              have hw1 : IntKind.i64.wrap (((eL : Int) + pM) * Z) = X1 := by rw [hX1, Int.natCast_mul, Int.natCast_add]; exact IntWalk.i64_in _ (by rw [← Int.natCast_add, ← Int.natCast_mul, ← hX1]; omega)
              have hw2 : IntKind.i64.wrap ((B : Int) * ((pL : Int) + 1)) = X2 := by rw [hX2, Int.natCast_mul, Int.natCast_add]; exact IntWalk.i64_in _ (by rw [← Int.natCast_one, ← Int.natCast_add, ← Int.natCast_mul, ← hX2]; omega)
              have HX1 := Lib.hid hX1
              have HX2 := Lib.hid hX2
              clear hX1 hX2
              have hB1 : ∀ N2 N3 : Nat, Row ((((wr.setCell ⟨g1, K, none⟩ (.int .i64 ((pL + 1 : Nat) : Int))).drewN N2).setCell ⟨g2, K, none⟩ (.int .i64 ((eL + pM : Nat) : Int))).drewN N3) g1 3 (intv (tabL (pc 16) N (K + 1))) := fun N2 N3 => by
                have h := h1.set K (.int .i64 ((pL + 1 : Nat) : Int))
                have e : (tabL (pc 16) N K).set K (pL + 1) = tabL (pc 16) N (K + 1) := by rw [HPC.out]; exact tabL_set _
                rw [intv_set, e] at h
                exact ((h.drewN N2).far (by first | omega | (dsimp only; omega)) _).drewN N3
              have hB2 : ∀ N2 N3 : Nat, Row ((((wr.setCell ⟨g1, K, none⟩ (.int .i64 ((pL + 1 : Nat) : Int))).drewN N2).setCell ⟨g2, K, none⟩ (.int .i64 ((eL + pM : Nat) : Int))).drewN N3) g2 3 (intv (tabL (eg gk) N (K + 1))) := fun N2 N3 => by
                have h := ((h2.far (p := ⟨g1, K, none⟩) (by first | omega | (dsimp only; omega)) (.int .i64 ((pL + 1 : Nat) : Int))).drewN N2).set K (.int .i64 ((eL + pM : Nat) : Int))
                have e : (tabL (eg gk) N K).set K (eL + pM) = tabL (eg gk) N (K + 1) := by rw [← HEG.out]; exact tabL_set _
                rw [intv_set, e] at h
                exact h.drewN N3
              have hB0 : ∀ N2 N3 : Nat, Row ((((wr.setCell ⟨g1, K, none⟩ (.int .i64 ((pL + 1 : Nat) : Int))).drewN N2).setCell ⟨g2, K, none⟩ (.int .i64 ((eL + pM : Nat) : Int))).drewN N3) w.heap.size 3 (intv (nrL m gk)) := fun N2 N3 =>
                (((hr0.far (by first | omega | (dsimp only; omega)) _).drewN N2).far (by first | omega | (dsimp only; omega)) _).drewN N3
              have hBB : ∀ N2 N3 : Nat, Below w.heap.size w ((((wr.setCell ⟨g1, K, none⟩ (.int .i64 ((pL + 1 : Nat) : Int))).drewN N2).setCell ⟨g2, K, none⟩ (.int .i64 ((eL + pM : Nat) : Int))).drewN N3) := fun N2 N3 =>
                (((hbr.setCell (by first | omega | (dsimp only; omega)) _).trans (below_drewN N2)).setCell (by first | omega | (dsimp only; omega)) _).trans (below_drewN N3)
              have HB0 := Lib.hid hB0
              have HB1 := Lib.hid hB1
              have HB2 := Lib.hid hB2
              have HBB := Lib.hid hBB
              clear hB0 hB1 hB2 hBB
              rcases Nat.lt_trichotomy X1 X2 with hx12 | hx12 | hx12
              · have hc1 : decide ((X2 : Int) < X1) = false := decide_eq_false (by omega)
                have hc2 : decide (X2 < X1) = false := decide_eq_false (by omega)
                have hc3 : ((X1 : Int) == X2) = false := by simp; omega
                have hc4 : (X1 == X2) = false := by simp; omega
                go_wp2
                refine wp_region_quiet_tail 17 (by kernel_rfl) (by kernel_rfl) ?_
                simp only [List.take_succ_cons, List.take_zero, List.drop_succ_cons, List.drop_zero]
                repeat go_big_quiet_step ((fail))
                refine wpQuiet_nil ?_
                rintro _ ⟨nq, rfl⟩
                go_wp2
                go_quiet (fail)
                go_wp2
                go_roundw
                case rel => exact ⟨T + 1, B, Z, Al, K + 1, by omega, by omega, by go_num, rfl, rfl, rfl, by go_num, Lib.hid (HB.out.less hK1 (by rw [HEG.out, ← HPC.out, ← HX1.out, ← HX2.out]; omega)), Lib.hid (by rw [HPQ.out, HQQ.out]; exact HPP.out), HB0.out _ _, HB1.out _ _, HB2.out _ _, HBB.out _ _⟩
                case measure => simp [intOf]; omega
              · have hor := i64_or_nat Al K hal hK65
                have hc1 : decide ((X2 : Int) < X1) = false := decide_eq_false (by omega)
                have hc2 : decide (X2 < X1) = false := decide_eq_false (by omega)
                have hc3 : ((X1 : Int) == X2) = true := by simp; omega
                have hc4 : (X1 == X2) = true := by simp; omega
                go_wp2
                refine wp_region_quiet_tail 17 (by kernel_rfl) (by kernel_rfl) ?_
                simp only [List.take_succ_cons, List.take_zero, List.drop_succ_cons, List.drop_zero]
                repeat go_big_quiet_step ((fail))
                refine wpQuiet_nil ?_
                rintro _ ⟨nq, rfl⟩
                go_wp2
                go_quiet (fail)
                go_wp2
                go_roundw
                case rel => exact ⟨T + 1, B, Z, Al ||| K, K + 1, by omega, by omega, by go_num, rfl, rfl, rfl, by go_num, Lib.hid (HB.out.same hK1 hK65 (by rw [HEG.out, ← HPC.out, ← HX1.out, ← HX2.out]; omega)), Lib.hid (by rw [HPQ.out, HQQ.out]; exact HPP.out), HB0.out _ _, HB1.out _ _, HB2.out _ _, HBB.out _ _⟩
                case measure => simp [intOf]; omega
              · have hc1 : decide ((X2 : Int) < X1) = true := decide_eq_true (by omega)
                have hc2 : decide (X2 < X1) = true := decide_eq_true (by omega)
                go_wp2
                refine wp_region_quiet_tail 17 (by kernel_rfl) (by kernel_rfl) ?_
                simp only [List.take_succ_cons, List.take_zero, List.drop_succ_cons, List.drop_zero]
                repeat go_big_quiet_step ((fail))
                refine wpQuiet_nil ?_
                rintro _ ⟨nq, rfl⟩
                go_wp2
                go_quiet (fail)
                go_wp2
                go_roundw
                case rel => exact ⟨T + 1, eL + pM, pL + 1, K, K + 1, by omega, by omega, by go_num, by go_num, by go_num, rfl, by go_num, Lib.hid (by have := HB.out.more hK1 hK65 (by rw [HEG.out, ← HPC.out, ← HX1.out, ← HX2.out]; omega); rwa [HEG.out, ← HPC.out] at this), Lib.hid (by rw [HPQ.out, HQQ.out]; exact HPP.out), HB0.out _ _, HB1.out _ _, HB2.out _ _, HBB.out _ _⟩
                case measure => simp [intOf]; omega
            · have hlo := hp.out.1
              have hhi : K < 2^(T+1) := by omega
              have HPP := Lib.hid (show 2^T ≤ K + 1 ∧ K + 1 ≤ 2^(T+1) from ⟨by omega, hhi⟩)
              have hTm : T < m := by
                by_cases e : T < m
                · exact e
                · have h1 : 2^m ≤ 2^(T) := Nat.pow_le_pow_right (by omega) (by omega)
                  have := HN.out
                  omega
              have hbit := top_bit (K := K) (t := T) hlo hhi
              have hless := top_less (K := K) (t := T) hK65 (by omega) hlo hhi
              have hpc := pc_without (s := K) (v := T) hK65 (by omega) hbit
              have heg := eg_top (K := K) (t := T) HH.out hK65 (by omega) hbit
              rw [hless] at hpc heg
              have hwp := wrap_pow (t := T) (by omega)
              clear hbit hless
              have hP0 : 0 < 2^(T) := Nat.pow_pos (by omega)
              have hQP : 2^(T + 1) = 2^(T) * 2 := Nat.pow_succ ..
              generalize hQQ : 2^(T + 1) = Q at *
              have HQQ := Lib.hid hQQ
              clear hQQ
              generalize hPP : 2^(T) = P at *
              have HPQ := Lib.hid hPP
              clear hPP
              have hg1 : decide ((Q : Int) ≤ K) = false := decide_eq_false (by omega)
              have hg2 : decide (Q ≤ K) = false := decide_eq_false (by omega)
              obtain ⟨L, hL⟩ : ∃ L, L = K - P := ⟨_, rfl⟩
              rw [← hL] at hpc heg
              have hwl : IntKind.i64.wrap ((K : Int) - P) = (L : Int) := by rw [IntWalk.i64_in _ (by omega)]; omega
              have hLK : L < K := by omega
              have hLK1 : L ≠ K := by omega
              have hLK2 : K ≠ L := by omega
              clear hL
              have hnt := Rows16.near_lt (readF_ok HH.out).2.2.1 (T)
              have d0 : wr.cell? ⟨w.heap.size, T, none⟩ = some (.int .i64 (near gk (T))) := by have := intv_row (i := T) hr0 (by rw [nrL_len]; omega); rwa [nrL_at _ (by omega)] at this
              have hand := i64_and_nat L (near gk (T)) (by omega) hnt
              have hML : L &&& near gk (T) ≤ L := Nat.and_le_left
              have heg2 : eg gk K = eg gk L + pc 16 (L &&& near gk (T)) := heg
              have d1 : wr.cell? ⟨g1, L, none⟩ = some (.int .i64 (pc 16 L)) := by have := intv_row (i := L) h1 (by rw [tabL_len]; omega); rwa [tabL_at _ (by omega) hLK] at this
              have d2 : wr.cell? ⟨g2, L, none⟩ = some (.int .i64 (eg gk L)) := by have := intv_row (i := L) h2 (by rw [tabL_len]; omega); rwa [tabL_at _ (by omega) hLK] at this
              have d3 : wr.cell? ⟨g1, L &&& near gk (T), none⟩ = some (.int .i64 (pc 16 (L &&& near gk (T)))) := by have := intv_row (i := L &&& near gk (T)) h1 (by rw [tabL_len]; omega); rwa [tabL_at _ (by omega) (by omega)] at this
              have d4 : wr.cell? ⟨g1, K, none⟩ = some (.int .i64 (0 : Nat)) := by have := intv_row (i := K) h1 (by rw [tabL_len]; omega); rwa [tabL_off _ (by omega) (Nat.le_refl _)] at this
              have d5 : wr.cell? ⟨g2, K, none⟩ = some (.int .i64 (0 : Nat)) := by have := intv_row (i := K) h2 (by rw [tabL_len]; omega); rwa [tabL_off _ (by omega) (Nat.le_refl _)] at this
              have hgg1 : g1 ≠ g2 := by omega
              have hgg2 : g2 ≠ g1 := by omega
              have f1 := h1.free K
              have f2 := h2.free K
              have hM16 := pc_le 16 (L &&& near gk (T))
              have hL16 := pc_le 16 L
              have hEL := eg_le gk L
              have hEK := eg_le gk K
              have hK16 := pc_le 16 K
              have HPC := Lib.hid hpc
              have HEG := Lib.hid heg2
              rw [heg2] at hEK
              rw [← hpc] at hK16
              clear heg heg2 hpc
              generalize near gk (T) = nt at *
              generalize hM : L &&& nt = M at *
              have hMK : M ≠ K := by omega
              have hMK2 : K ≠ M := by omega
              clear hM
              generalize hA1 : pc 16 L = pL at *
              generalize hA2 : pc 16 M = pM at *
              generalize hA3 : eg gk L = eL at *
              have hz0 := HB.out.s0
              have hz16 := HB.out.s16
              have hb128 := HB.out.b128
              have hal := HB.out.lt
              obtain ⟨X1, hX1⟩ : ∃ X, X = (eL + pM) * Z := ⟨_, rfl⟩
              obtain ⟨X2, hX2⟩ : ∃ X, X = B * (pL + 1) := ⟨_, rfl⟩
              have xb1 : X1 ≤ 128 * 16 := by rw [hX1]; exact Nat.mul_le_mul hEK hz16
              have xb2 : X2 ≤ 128 * 17 := by rw [hX2]; exact Nat.mul_le_mul hb128 (by omega)
              have hw1 : IntKind.i64.wrap (((eL : Int) + pM) * Z) = X1 := by rw [hX1, Int.natCast_mul, Int.natCast_add]; exact IntWalk.i64_in _ (by rw [← Int.natCast_add, ← Int.natCast_mul, ← hX1]; omega)
              have hw2 : IntKind.i64.wrap ((B : Int) * ((pL : Int) + 1)) = X2 := by rw [hX2, Int.natCast_mul, Int.natCast_add]; exact IntWalk.i64_in _ (by rw [← Int.natCast_one, ← Int.natCast_add, ← Int.natCast_mul, ← hX2]; omega)
              have HX1 := Lib.hid hX1
              have HX2 := Lib.hid hX2
              clear hX1 hX2
              have hB1 : ∀ N2 N3 : Nat, Row ((((wr.setCell ⟨g1, K, none⟩ (.int .i64 ((pL + 1 : Nat) : Int))).drewN N2).setCell ⟨g2, K, none⟩ (.int .i64 ((eL + pM : Nat) : Int))).drewN N3) g1 3 (intv (tabL (pc 16) N (K + 1))) := fun N2 N3 => by
                have h := h1.set K (.int .i64 ((pL + 1 : Nat) : Int))
                have e : (tabL (pc 16) N K).set K (pL + 1) = tabL (pc 16) N (K + 1) := by rw [HPC.out]; exact tabL_set _
                rw [intv_set, e] at h
                exact ((h.drewN N2).far (by first | omega | (dsimp only; omega)) _).drewN N3
              have hB2 : ∀ N2 N3 : Nat, Row ((((wr.setCell ⟨g1, K, none⟩ (.int .i64 ((pL + 1 : Nat) : Int))).drewN N2).setCell ⟨g2, K, none⟩ (.int .i64 ((eL + pM : Nat) : Int))).drewN N3) g2 3 (intv (tabL (eg gk) N (K + 1))) := fun N2 N3 => by
                have h := ((h2.far (p := ⟨g1, K, none⟩) (by first | omega | (dsimp only; omega)) (.int .i64 ((pL + 1 : Nat) : Int))).drewN N2).set K (.int .i64 ((eL + pM : Nat) : Int))
                have e : (tabL (eg gk) N K).set K (eL + pM) = tabL (eg gk) N (K + 1) := by rw [← HEG.out]; exact tabL_set _
                rw [intv_set, e] at h
                exact h.drewN N3
              have hB0 : ∀ N2 N3 : Nat, Row ((((wr.setCell ⟨g1, K, none⟩ (.int .i64 ((pL + 1 : Nat) : Int))).drewN N2).setCell ⟨g2, K, none⟩ (.int .i64 ((eL + pM : Nat) : Int))).drewN N3) w.heap.size 3 (intv (nrL m gk)) := fun N2 N3 =>
                (((hr0.far (by first | omega | (dsimp only; omega)) _).drewN N2).far (by first | omega | (dsimp only; omega)) _).drewN N3
              have hBB : ∀ N2 N3 : Nat, Below w.heap.size w ((((wr.setCell ⟨g1, K, none⟩ (.int .i64 ((pL + 1 : Nat) : Int))).drewN N2).setCell ⟨g2, K, none⟩ (.int .i64 ((eL + pM : Nat) : Int))).drewN N3) := fun N2 N3 =>
                (((hbr.setCell (by first | omega | (dsimp only; omega)) _).trans (below_drewN N2)).setCell (by first | omega | (dsimp only; omega)) _).trans (below_drewN N3)
              have HB0 := Lib.hid hB0
              have HB1 := Lib.hid hB1
              have HB2 := Lib.hid hB2
              have HBB := Lib.hid hBB
              clear hB0 hB1 hB2 hBB
              rcases Nat.lt_trichotomy X1 X2 with hx12 | hx12 | hx12
              · have hc1 : decide ((X2 : Int) < X1) = false := decide_eq_false (by omega)
                have hc2 : decide (X2 < X1) = false := decide_eq_false (by omega)
                have hc3 : ((X1 : Int) == X2) = false := by simp; omega
                have hc4 : (X1 == X2) = false := by simp; omega
                go_wp2
                refine wp_region_quiet_tail 17 (by kernel_rfl) (by kernel_rfl) ?_
                simp only [List.take_succ_cons, List.take_zero, List.drop_succ_cons, List.drop_zero]
                repeat go_big_quiet_step ((fail))
                refine wpQuiet_nil ?_
                rintro _ ⟨nq, rfl⟩
                go_wp2
                go_quiet (fail)
                go_wp2
                go_roundw
                case rel => exact ⟨T, B, Z, Al, K + 1, by omega, by omega, rfl, rfl, rfl, rfl, by go_num, Lib.hid (HB.out.less hK1 (by rw [HEG.out, ← HPC.out, ← HX1.out, ← HX2.out]; omega)), Lib.hid (by rw [HPQ.out, HQQ.out]; exact HPP.out), HB0.out _ _, HB1.out _ _, HB2.out _ _, HBB.out _ _⟩
                case measure => simp [intOf]; omega
              · have hor := i64_or_nat Al K hal hK65
                have hc1 : decide ((X2 : Int) < X1) = false := decide_eq_false (by omega)
                have hc2 : decide (X2 < X1) = false := decide_eq_false (by omega)
                have hc3 : ((X1 : Int) == X2) = true := by simp; omega
                have hc4 : (X1 == X2) = true := by simp; omega
                go_wp2
                refine wp_region_quiet_tail 17 (by kernel_rfl) (by kernel_rfl) ?_
                simp only [List.take_succ_cons, List.take_zero, List.drop_succ_cons, List.drop_zero]
                repeat go_big_quiet_step ((fail))
                refine wpQuiet_nil ?_
                rintro _ ⟨nq, rfl⟩
                go_wp2
                go_quiet (fail)
                go_wp2
                go_roundw
                case rel => exact ⟨T, B, Z, Al ||| K, K + 1, by omega, by omega, rfl, rfl, rfl, rfl, by go_num, Lib.hid (HB.out.same hK1 hK65 (by rw [HEG.out, ← HPC.out, ← HX1.out, ← HX2.out]; omega)), Lib.hid (by rw [HPQ.out, HQQ.out]; exact HPP.out), HB0.out _ _, HB1.out _ _, HB2.out _ _, HBB.out _ _⟩
                case measure => simp [intOf]; omega
              · have hc1 : decide ((X2 : Int) < X1) = true := decide_eq_true (by omega)
                have hc2 : decide (X2 < X1) = true := decide_eq_true (by omega)
                go_wp2
                refine wp_region_quiet_tail 17 (by kernel_rfl) (by kernel_rfl) ?_
                simp only [List.take_succ_cons, List.take_zero, List.drop_succ_cons, List.drop_zero]
                repeat go_big_quiet_step ((fail))
                refine wpQuiet_nil ?_
                rintro _ ⟨nq, rfl⟩
                go_wp2
                go_quiet (fail)
                go_wp2
                go_roundw
                case rel => exact ⟨T, eL + pM, pL + 1, K, K + 1, by omega, by omega, rfl, by go_num, by go_num, rfl, by go_num, Lib.hid (by have := HB.out.more hK1 hK65 (by rw [HEG.out, ← HPC.out, ← HX1.out, ← HX2.out]; omega); rwa [HEG.out, ← HPC.out] at this), Lib.hid (by rw [HPQ.out, HQQ.out]; exact HPP.out), HB0.out _ _, HB1.out _ _, HB2.out _ _, HBB.out _ _⟩
                case measure => simp [intOf]; omega
          · have hKN' : K = N := by omega
            subst hKN'
            have hal : Al = s := BestI.done hm (by have h := HB.out; have hn := HN.out; rw [hn] at h; exact h) HD.out
            subst hal
            have hlow : ∀ v, sHas Al v = true → v < m := HD.out.sub
            have hs65 := HD.out.lt
            have HUP := Lib.hid (upTo_ms hm hlow)
            clear HB hr0 h1 h2 hlow
            go_wp2
            go_loopw [20, 21] (fun o v W => ∃ k : Nat, k ≤ m ∧ v = .int .i64 k ∧ W.ownsRow w.heap.size 3 1 o (upTo Al k).length (intv (upTo Al k)) ∧ Below w.heap.size w W) (fun _ v _ => m - (intOf v).toNat)
            case atStart => exact ⟨0, by omega, rfl, ⟨rfl, .inl ⟨rfl, rfl⟩⟩, hbr⟩
            case round =>
              clear hbr
              obtain ⟨k, hk, rfl, ho, hb⟩ := hrel
              obtain ⟨A', c', e', hl', hi'⟩ := own_ints ho
              subst e'
              clear hl' hi'
              by_cases hlt : k < m
              · have hrem := has_rem Al k
                cases hs : sHas Al k
                · rw [hs] at hrem
                  have HUN := Lib.hid (upTo_no hs)
                  clear hs
                  go_wp2
                  go_roundw
                  case rel => exact ⟨k + 1, by omega, by go_num, by rw [HUN.out]; exact ho, hb⟩
                  case measure => simp [intOf]; omega
                · rw [hs] at hrem
                  have HUN := Lib.hid (upTo_yes hs)
                  have hul : (upTo Al k).length ≤ 16 := by have := List.length_filter_le (sHas Al) (List.range k); rw [List.length_range] at this; show ((List.range k).filter (sHas Al)).length ≤ 16; omega
                  clear hs
                  go_wp2_with (at_builtin; refine wpList_append_own_at _ rfl (.tmp 146) (.tmp 148) 24 rfl w.heap.size 3 i0 (.int .i64 0) 1 8 Try.underlying24 hi hz0 hz1 hz2 rfl (by decide) _ _ _ rfl (ho.alloc _) ⟨wr.heap.size, 0, none⟩ 1 1 [.int .i64 k] rfl rfl (news_one (row_new (by simp))) (by simp [Value.oneCell']) (by unfold maxLen; omega) (by have := hb.size; omega) (by have := hb.size; simp; omega) ?_; intro v9 w9 hn9 hg9 _ hat9)
                  obtain ⟨hb9, -⟩ := app1 ho hb.size hg9
                  have e1 : (upTo Al (k + 1)).length = (upTo Al k).length + 1 := by rw [HUN.out]; simp
                  have e2 : intv (upTo Al (k + 1)) = intv (upTo Al k) ++ [.int .i64 k] := by rw [HUN.out]; simp [intv]
                  have E1 := Lib.hid e1
                  have E2 := Lib.hid e2
                  clear e1 e2
                  go_roundw
                  case rel => exact ⟨k + 1, by omega, by go_num, by rw [E1.out, E2.out]; exact hn9, hb.trans (hb9.mono (by have := hb.size; omega))⟩
                  case measure => simp [intOf]; omega
              · obtain rfl : k = m := by omega
                go_wp2
                go_ret
                rw [← HUP.out]
                exact ⟨_, rfl, ho, hb⟩
      · go_loopw [12, 13, 14, 15, 16] (fun t b z a k wr => ∃ (T B Z Al K : Nat), 1 ≤ K ∧ K ≤ N ∧ t = .int .i64 T ∧ b = .int .i64 B ∧ z = .int .i64 Z ∧ a = .int .i64 Al ∧ k = .int .i64 K ∧ Hid (BestI gk K B Z Al) ∧ Hid (2^T ≤ K ∧ K ≤ 2^(T+1)) ∧ Row wr w.heap.size 3 (intv (nrL m gk)) ∧ Row wr g2 3 (intv (tabL (pc 16) N K)) ∧ Row wr g1 3 (intv (tabL (eg gk) N K)) ∧ Below w.heap.size w wr) (fun _ _ _ _ k _ => N - (intOf k).toNat)
        case atStart => exact ⟨0, 0, 1, 0, 1, by omega, by omega, rfl, rfl, rfl, rfl, rfl, Lib.hid (BestI.start gk), Lib.hid (by decide), q0, q2, q1e, q3⟩
        case round =>
          clear q0 q1 q2 q3
          obtain ⟨T, B, Z, Al, K, hK1, hKN, rfl, rfl, rfl, rfl, rfl, HB, hp, hr0, h1, h2, hbr⟩ := hrel
          by_cases hlt : K < N
          · have hK65 : K < 65536 := by omega
            have hT16 : T < 16 := by
              by_cases e : T < 16
              · exact e
              · have h1 : 2^16 ≤ 2^T := Nat.pow_le_pow_right (by omega) (by omega)
                have := hp.out
                omega
            have hpw : IntKind.i64.wrap (2 * (2 : Int)^T) = ((2^(T+1) : Nat) : Int) := by rw [wrap_pow2 (by omega), Nat.pow_succ]; congr 1; omega
            by_cases htop : 2^(T+1) ≤ K
            · have hlo := htop
              have hhi : K < 2^(T+1+1) := by rw [Nat.pow_succ]; have := hp.out; have : 0 < 2^(T+1) := Nat.pow_pos (by omega); omega
              have HPP := Lib.hid (show 2^(T+1) ≤ K + 1 ∧ K + 1 ≤ 2^(T+1+1) from ⟨by omega, hhi⟩)
              have hTm : T + 1 < m := by
                by_cases e : T + 1 < m
                · exact e
                · have h1 : 2^m ≤ 2^(T + 1) := Nat.pow_le_pow_right (by omega) (by omega)
                  have := HN.out
                  omega
              have hbit := top_bit (K := K) (t := T + 1) hlo hhi
              have hless := top_less (K := K) (t := T + 1) hK65 (by omega) hlo hhi
              have hpc := pc_without (s := K) (v := T + 1) hK65 (by omega) hbit
              have heg := eg_top (K := K) (t := T + 1) HH.out hK65 (by omega) hbit
              rw [hless] at hpc heg
              have hwp := wrap_pow (t := T + 1) (by omega)
              clear hbit hless
              have hP0 : 0 < 2^(T + 1) := Nat.pow_pos (by omega)
              have hQP : 2^(T + 1 + 1) = 2^(T + 1) * 2 := Nat.pow_succ ..
              generalize hQQ : 2^(T + 1 + 1) = Q at *
              have HQQ := Lib.hid hQQ
              clear hQQ
              generalize hPP : 2^(T + 1) = P at *
              have HPQ := Lib.hid hPP
              clear hPP
              have hg1 : decide ((P : Int) ≤ K) = true := decide_eq_true (by omega)
              have hg2 : decide (P ≤ K) = true := decide_eq_true (by omega)
              obtain ⟨L, hL⟩ : ∃ L, L = K - P := ⟨_, rfl⟩
              rw [← hL] at hpc heg
              have hwl : IntKind.i64.wrap ((K : Int) - P) = (L : Int) := by rw [IntWalk.i64_in _ (by omega)]; omega
              have hLK : L < K := by omega
              have hLK1 : L ≠ K := by omega
              have hLK2 : K ≠ L := by omega
              clear hL
              have hnt := Rows16.near_lt (readF_ok HH.out).2.2.1 (T + 1)
              have d0 : wr.cell? ⟨w.heap.size, T + 1, none⟩ = some (.int .i64 (near gk (T + 1))) := by have := intv_row (i := T + 1) hr0 (by rw [nrL_len]; omega); rwa [nrL_at _ (by omega)] at this
              have hand := i64_and_nat L (near gk (T + 1)) (by omega) hnt
              have hML : L &&& near gk (T + 1) ≤ L := Nat.and_le_left
              have heg2 : eg gk K = eg gk L + pc 16 (L &&& near gk (T + 1)) := heg
              have d1 : wr.cell? ⟨g2, L, none⟩ = some (.int .i64 (pc 16 L)) := by have := intv_row (i := L) h1 (by rw [tabL_len]; omega); rwa [tabL_at _ (by omega) hLK] at this
              have d2 : wr.cell? ⟨g1, L, none⟩ = some (.int .i64 (eg gk L)) := by have := intv_row (i := L) h2 (by rw [tabL_len]; omega); rwa [tabL_at _ (by omega) hLK] at this
              have d3 : wr.cell? ⟨g2, L &&& near gk (T + 1), none⟩ = some (.int .i64 (pc 16 (L &&& near gk (T + 1)))) := by have := intv_row (i := L &&& near gk (T + 1)) h1 (by rw [tabL_len]; omega); rwa [tabL_at _ (by omega) (by omega)] at this
              have d4 : wr.cell? ⟨g2, K, none⟩ = some (.int .i64 (0 : Nat)) := by have := intv_row (i := K) h1 (by rw [tabL_len]; omega); rwa [tabL_off _ (by omega) (Nat.le_refl _)] at this
              have d5 : wr.cell? ⟨g1, K, none⟩ = some (.int .i64 (0 : Nat)) := by have := intv_row (i := K) h2 (by rw [tabL_len]; omega); rwa [tabL_off _ (by omega) (Nat.le_refl _)] at this
              have hgg1 : g2 ≠ g1 := by omega
              have hgg2 : g1 ≠ g2 := by omega
              have f1 := h1.free K
              have f2 := h2.free K
              have hM16 := pc_le 16 (L &&& near gk (T + 1))
              have hL16 := pc_le 16 L
              have hEL := eg_le gk L
              have hEK := eg_le gk K
              have hK16 := pc_le 16 K
              have HPC := Lib.hid hpc
              have HEG := Lib.hid heg2
              rw [heg2] at hEK
              rw [← hpc] at hK16
              clear heg heg2 hpc
              generalize near gk (T + 1) = nt at *
              generalize hM : L &&& nt = M at *
              have hMK : M ≠ K := by omega
              have hMK2 : K ≠ M := by omega
              clear hM
              generalize hA1 : pc 16 L = pL at *
              generalize hA2 : pc 16 M = pM at *
              generalize hA3 : eg gk L = eL at *
              have hz0 := HB.out.s0
              have hz16 := HB.out.s16
              have hb128 := HB.out.b128
              have hal := HB.out.lt
              obtain ⟨X1, hX1⟩ : ∃ X, X = (eL + pM) * Z := ⟨_, rfl⟩
              obtain ⟨X2, hX2⟩ : ∃ X, X = B * (pL + 1) := ⟨_, rfl⟩
              have xb1 : X1 ≤ 128 * 16 := by rw [hX1]; exact Nat.mul_le_mul hEK hz16
              have xb2 : X2 ≤ 128 * 17 := by rw [hX2]; exact Nat.mul_le_mul hb128 (by omega)
              have hw1 : IntKind.i64.wrap (((eL : Int) + pM) * Z) = X1 := by rw [hX1, Int.natCast_mul, Int.natCast_add]; exact IntWalk.i64_in _ (by rw [← Int.natCast_add, ← Int.natCast_mul, ← hX1]; omega)
              have hw2 : IntKind.i64.wrap ((B : Int) * ((pL : Int) + 1)) = X2 := by rw [hX2, Int.natCast_mul, Int.natCast_add]; exact IntWalk.i64_in _ (by rw [← Int.natCast_one, ← Int.natCast_add, ← Int.natCast_mul, ← hX2]; omega)
              have HX1 := Lib.hid hX1
              have HX2 := Lib.hid hX2
              clear hX1 hX2
              have hB1 : ∀ N2 N3 : Nat, Row ((((wr.setCell ⟨g2, K, none⟩ (.int .i64 ((pL + 1 : Nat) : Int))).drewN N2).setCell ⟨g1, K, none⟩ (.int .i64 ((eL + pM : Nat) : Int))).drewN N3) g2 3 (intv (tabL (pc 16) N (K + 1))) := fun N2 N3 => by
                have h := h1.set K (.int .i64 ((pL + 1 : Nat) : Int))
                have e : (tabL (pc 16) N K).set K (pL + 1) = tabL (pc 16) N (K + 1) := by rw [HPC.out]; exact tabL_set _
                rw [intv_set, e] at h
                exact ((h.drewN N2).far (by first | omega | (dsimp only; omega)) _).drewN N3
              have hB2 : ∀ N2 N3 : Nat, Row ((((wr.setCell ⟨g2, K, none⟩ (.int .i64 ((pL + 1 : Nat) : Int))).drewN N2).setCell ⟨g1, K, none⟩ (.int .i64 ((eL + pM : Nat) : Int))).drewN N3) g1 3 (intv (tabL (eg gk) N (K + 1))) := fun N2 N3 => by
                have h := ((h2.far (p := ⟨g2, K, none⟩) (by first | omega | (dsimp only; omega)) (.int .i64 ((pL + 1 : Nat) : Int))).drewN N2).set K (.int .i64 ((eL + pM : Nat) : Int))
                have e : (tabL (eg gk) N K).set K (eL + pM) = tabL (eg gk) N (K + 1) := by rw [← HEG.out]; exact tabL_set _
                rw [intv_set, e] at h
                exact h.drewN N3
              have hB0 : ∀ N2 N3 : Nat, Row ((((wr.setCell ⟨g2, K, none⟩ (.int .i64 ((pL + 1 : Nat) : Int))).drewN N2).setCell ⟨g1, K, none⟩ (.int .i64 ((eL + pM : Nat) : Int))).drewN N3) w.heap.size 3 (intv (nrL m gk)) := fun N2 N3 =>
                (((hr0.far (by first | omega | (dsimp only; omega)) _).drewN N2).far (by first | omega | (dsimp only; omega)) _).drewN N3
              have hBB : ∀ N2 N3 : Nat, Below w.heap.size w ((((wr.setCell ⟨g2, K, none⟩ (.int .i64 ((pL + 1 : Nat) : Int))).drewN N2).setCell ⟨g1, K, none⟩ (.int .i64 ((eL + pM : Nat) : Int))).drewN N3) := fun N2 N3 =>
                (((hbr.setCell (by first | omega | (dsimp only; omega)) _).trans (below_drewN N2)).setCell (by first | omega | (dsimp only; omega)) _).trans (below_drewN N3)
              have HB0 := Lib.hid hB0
              have HB1 := Lib.hid hB1
              have HB2 := Lib.hid hB2
              have HBB := Lib.hid hBB
              clear hB0 hB1 hB2 hBB
              rcases Nat.lt_trichotomy X1 X2 with hx12 | hx12 | hx12
              · have hc1 : decide ((X2 : Int) < X1) = false := decide_eq_false (by omega)
                have hc2 : decide (X2 < X1) = false := decide_eq_false (by omega)
                have hc3 : ((X1 : Int) == X2) = false := by simp; omega
                have hc4 : (X1 == X2) = false := by simp; omega
                go_wp2
                refine wp_region_quiet_tail 17 (by kernel_rfl) (by kernel_rfl) ?_
                simp only [List.take_succ_cons, List.take_zero, List.drop_succ_cons, List.drop_zero]
                repeat go_big_quiet_step ((fail))
                refine wpQuiet_nil ?_
                rintro _ ⟨nq, rfl⟩
                go_wp2
                go_quiet (fail)
                go_wp2
                go_roundw
                case rel => exact ⟨T + 1, B, Z, Al, K + 1, by omega, by omega, by go_num, rfl, rfl, rfl, by go_num, Lib.hid (HB.out.less hK1 (by rw [HEG.out, ← HPC.out, ← HX1.out, ← HX2.out]; omega)), Lib.hid (by rw [HPQ.out, HQQ.out]; exact HPP.out), HB0.out _ _, HB1.out _ _, HB2.out _ _, HBB.out _ _⟩
                case measure => simp [intOf]; omega
              · have hor := i64_or_nat Al K hal hK65
                have hc1 : decide ((X2 : Int) < X1) = false := decide_eq_false (by omega)
                have hc2 : decide (X2 < X1) = false := decide_eq_false (by omega)
                have hc3 : ((X1 : Int) == X2) = true := by simp; omega
                have hc4 : (X1 == X2) = true := by simp; omega
                go_wp2
                refine wp_region_quiet_tail 17 (by kernel_rfl) (by kernel_rfl) ?_
                simp only [List.take_succ_cons, List.take_zero, List.drop_succ_cons, List.drop_zero]
                repeat go_big_quiet_step ((fail))
                refine wpQuiet_nil ?_
                rintro _ ⟨nq, rfl⟩
                go_wp2
                go_quiet (fail)
                go_wp2
                go_roundw
                case rel => exact ⟨T + 1, B, Z, Al ||| K, K + 1, by omega, by omega, by go_num, rfl, rfl, rfl, by go_num, Lib.hid (HB.out.same hK1 hK65 (by rw [HEG.out, ← HPC.out, ← HX1.out, ← HX2.out]; omega)), Lib.hid (by rw [HPQ.out, HQQ.out]; exact HPP.out), HB0.out _ _, HB1.out _ _, HB2.out _ _, HBB.out _ _⟩
                case measure => simp [intOf]; omega
              · have hc1 : decide ((X2 : Int) < X1) = true := decide_eq_true (by omega)
                have hc2 : decide (X2 < X1) = true := decide_eq_true (by omega)
                go_wp2
                refine wp_region_quiet_tail 17 (by kernel_rfl) (by kernel_rfl) ?_
                simp only [List.take_succ_cons, List.take_zero, List.drop_succ_cons, List.drop_zero]
                repeat go_big_quiet_step ((fail))
                refine wpQuiet_nil ?_
                rintro _ ⟨nq, rfl⟩
                go_wp2
                go_quiet (fail)
                go_wp2
                go_roundw
                case rel => exact ⟨T + 1, eL + pM, pL + 1, K, K + 1, by omega, by omega, by go_num, by go_num, by go_num, rfl, by go_num, Lib.hid (by have := HB.out.more hK1 hK65 (by rw [HEG.out, ← HPC.out, ← HX1.out, ← HX2.out]; omega); rwa [HEG.out, ← HPC.out] at this), Lib.hid (by rw [HPQ.out, HQQ.out]; exact HPP.out), HB0.out _ _, HB1.out _ _, HB2.out _ _, HBB.out _ _⟩
                case measure => simp [intOf]; omega
            · have hlo := hp.out.1
              have hhi : K < 2^(T+1) := by omega
              have HPP := Lib.hid (show 2^T ≤ K + 1 ∧ K + 1 ≤ 2^(T+1) from ⟨by omega, hhi⟩)
              have hTm : T < m := by
                by_cases e : T < m
                · exact e
                · have h1 : 2^m ≤ 2^(T) := Nat.pow_le_pow_right (by omega) (by omega)
                  have := HN.out
                  omega
              have hbit := top_bit (K := K) (t := T) hlo hhi
              have hless := top_less (K := K) (t := T) hK65 (by omega) hlo hhi
              have hpc := pc_without (s := K) (v := T) hK65 (by omega) hbit
              have heg := eg_top (K := K) (t := T) HH.out hK65 (by omega) hbit
              rw [hless] at hpc heg
              have hwp := wrap_pow (t := T) (by omega)
              clear hbit hless
              have hP0 : 0 < 2^(T) := Nat.pow_pos (by omega)
              have hQP : 2^(T + 1) = 2^(T) * 2 := Nat.pow_succ ..
              generalize hQQ : 2^(T + 1) = Q at *
              have HQQ := Lib.hid hQQ
              clear hQQ
              generalize hPP : 2^(T) = P at *
              have HPQ := Lib.hid hPP
              clear hPP
              have hg1 : decide ((Q : Int) ≤ K) = false := decide_eq_false (by omega)
              have hg2 : decide (Q ≤ K) = false := decide_eq_false (by omega)
              obtain ⟨L, hL⟩ : ∃ L, L = K - P := ⟨_, rfl⟩
              rw [← hL] at hpc heg
              have hwl : IntKind.i64.wrap ((K : Int) - P) = (L : Int) := by rw [IntWalk.i64_in _ (by omega)]; omega
              have hLK : L < K := by omega
              have hLK1 : L ≠ K := by omega
              have hLK2 : K ≠ L := by omega
              clear hL
              have hnt := Rows16.near_lt (readF_ok HH.out).2.2.1 (T)
              have d0 : wr.cell? ⟨w.heap.size, T, none⟩ = some (.int .i64 (near gk (T))) := by have := intv_row (i := T) hr0 (by rw [nrL_len]; omega); rwa [nrL_at _ (by omega)] at this
              have hand := i64_and_nat L (near gk (T)) (by omega) hnt
              have hML : L &&& near gk (T) ≤ L := Nat.and_le_left
              have heg2 : eg gk K = eg gk L + pc 16 (L &&& near gk (T)) := heg
              have d1 : wr.cell? ⟨g2, L, none⟩ = some (.int .i64 (pc 16 L)) := by have := intv_row (i := L) h1 (by rw [tabL_len]; omega); rwa [tabL_at _ (by omega) hLK] at this
              have d2 : wr.cell? ⟨g1, L, none⟩ = some (.int .i64 (eg gk L)) := by have := intv_row (i := L) h2 (by rw [tabL_len]; omega); rwa [tabL_at _ (by omega) hLK] at this
              have d3 : wr.cell? ⟨g2, L &&& near gk (T), none⟩ = some (.int .i64 (pc 16 (L &&& near gk (T)))) := by have := intv_row (i := L &&& near gk (T)) h1 (by rw [tabL_len]; omega); rwa [tabL_at _ (by omega) (by omega)] at this
              have d4 : wr.cell? ⟨g2, K, none⟩ = some (.int .i64 (0 : Nat)) := by have := intv_row (i := K) h1 (by rw [tabL_len]; omega); rwa [tabL_off _ (by omega) (Nat.le_refl _)] at this
              have d5 : wr.cell? ⟨g1, K, none⟩ = some (.int .i64 (0 : Nat)) := by have := intv_row (i := K) h2 (by rw [tabL_len]; omega); rwa [tabL_off _ (by omega) (Nat.le_refl _)] at this
              have hgg1 : g2 ≠ g1 := by omega
              have hgg2 : g1 ≠ g2 := by omega
              have f1 := h1.free K
              have f2 := h2.free K
              have hM16 := pc_le 16 (L &&& near gk (T))
              have hL16 := pc_le 16 L
              have hEL := eg_le gk L
              have hEK := eg_le gk K
              have hK16 := pc_le 16 K
              have HPC := Lib.hid hpc
              have HEG := Lib.hid heg2
              rw [heg2] at hEK
              rw [← hpc] at hK16
              clear heg heg2 hpc
              generalize near gk (T) = nt at *
              generalize hM : L &&& nt = M at *
              have hMK : M ≠ K := by omega
              have hMK2 : K ≠ M := by omega
              clear hM
              generalize hA1 : pc 16 L = pL at *
              generalize hA2 : pc 16 M = pM at *
              generalize hA3 : eg gk L = eL at *
              have hz0 := HB.out.s0
              have hz16 := HB.out.s16
              have hb128 := HB.out.b128
              have hal := HB.out.lt
              obtain ⟨X1, hX1⟩ : ∃ X, X = (eL + pM) * Z := ⟨_, rfl⟩
              obtain ⟨X2, hX2⟩ : ∃ X, X = B * (pL + 1) := ⟨_, rfl⟩
              have xb1 : X1 ≤ 128 * 16 := by rw [hX1]; exact Nat.mul_le_mul hEK hz16
              have xb2 : X2 ≤ 128 * 17 := by rw [hX2]; exact Nat.mul_le_mul hb128 (by omega)
              have hw1 : IntKind.i64.wrap (((eL : Int) + pM) * Z) = X1 := by rw [hX1, Int.natCast_mul, Int.natCast_add]; exact IntWalk.i64_in _ (by rw [← Int.natCast_add, ← Int.natCast_mul, ← hX1]; omega)
              have hw2 : IntKind.i64.wrap ((B : Int) * ((pL : Int) + 1)) = X2 := by rw [hX2, Int.natCast_mul, Int.natCast_add]; exact IntWalk.i64_in _ (by rw [← Int.natCast_one, ← Int.natCast_add, ← Int.natCast_mul, ← hX2]; omega)
              have HX1 := Lib.hid hX1
              have HX2 := Lib.hid hX2
              clear hX1 hX2
              have hB1 : ∀ N2 N3 : Nat, Row ((((wr.setCell ⟨g2, K, none⟩ (.int .i64 ((pL + 1 : Nat) : Int))).drewN N2).setCell ⟨g1, K, none⟩ (.int .i64 ((eL + pM : Nat) : Int))).drewN N3) g2 3 (intv (tabL (pc 16) N (K + 1))) := fun N2 N3 => by
                have h := h1.set K (.int .i64 ((pL + 1 : Nat) : Int))
                have e : (tabL (pc 16) N K).set K (pL + 1) = tabL (pc 16) N (K + 1) := by rw [HPC.out]; exact tabL_set _
                rw [intv_set, e] at h
                exact ((h.drewN N2).far (by first | omega | (dsimp only; omega)) _).drewN N3
              have hB2 : ∀ N2 N3 : Nat, Row ((((wr.setCell ⟨g2, K, none⟩ (.int .i64 ((pL + 1 : Nat) : Int))).drewN N2).setCell ⟨g1, K, none⟩ (.int .i64 ((eL + pM : Nat) : Int))).drewN N3) g1 3 (intv (tabL (eg gk) N (K + 1))) := fun N2 N3 => by
                have h := ((h2.far (p := ⟨g2, K, none⟩) (by first | omega | (dsimp only; omega)) (.int .i64 ((pL + 1 : Nat) : Int))).drewN N2).set K (.int .i64 ((eL + pM : Nat) : Int))
                have e : (tabL (eg gk) N K).set K (eL + pM) = tabL (eg gk) N (K + 1) := by rw [← HEG.out]; exact tabL_set _
                rw [intv_set, e] at h
                exact h.drewN N3
              have hB0 : ∀ N2 N3 : Nat, Row ((((wr.setCell ⟨g2, K, none⟩ (.int .i64 ((pL + 1 : Nat) : Int))).drewN N2).setCell ⟨g1, K, none⟩ (.int .i64 ((eL + pM : Nat) : Int))).drewN N3) w.heap.size 3 (intv (nrL m gk)) := fun N2 N3 =>
                (((hr0.far (by first | omega | (dsimp only; omega)) _).drewN N2).far (by first | omega | (dsimp only; omega)) _).drewN N3
              have hBB : ∀ N2 N3 : Nat, Below w.heap.size w ((((wr.setCell ⟨g2, K, none⟩ (.int .i64 ((pL + 1 : Nat) : Int))).drewN N2).setCell ⟨g1, K, none⟩ (.int .i64 ((eL + pM : Nat) : Int))).drewN N3) := fun N2 N3 =>
                (((hbr.setCell (by first | omega | (dsimp only; omega)) _).trans (below_drewN N2)).setCell (by first | omega | (dsimp only; omega)) _).trans (below_drewN N3)
              have HB0 := Lib.hid hB0
              have HB1 := Lib.hid hB1
              have HB2 := Lib.hid hB2
              have HBB := Lib.hid hBB
              clear hB0 hB1 hB2 hBB
              rcases Nat.lt_trichotomy X1 X2 with hx12 | hx12 | hx12
              · have hc1 : decide ((X2 : Int) < X1) = false := decide_eq_false (by omega)
                have hc2 : decide (X2 < X1) = false := decide_eq_false (by omega)
                have hc3 : ((X1 : Int) == X2) = false := by simp; omega
                have hc4 : (X1 == X2) = false := by simp; omega
                go_wp2
                refine wp_region_quiet_tail 17 (by kernel_rfl) (by kernel_rfl) ?_
                simp only [List.take_succ_cons, List.take_zero, List.drop_succ_cons, List.drop_zero]
                repeat go_big_quiet_step ((fail))
                refine wpQuiet_nil ?_
                rintro _ ⟨nq, rfl⟩
                go_wp2
                go_quiet (fail)
                go_wp2
                go_roundw
                case rel => exact ⟨T, B, Z, Al, K + 1, by omega, by omega, rfl, rfl, rfl, rfl, by go_num, Lib.hid (HB.out.less hK1 (by rw [HEG.out, ← HPC.out, ← HX1.out, ← HX2.out]; omega)), Lib.hid (by rw [HPQ.out, HQQ.out]; exact HPP.out), HB0.out _ _, HB1.out _ _, HB2.out _ _, HBB.out _ _⟩
                case measure => simp [intOf]; omega
              · have hor := i64_or_nat Al K hal hK65
                have hc1 : decide ((X2 : Int) < X1) = false := decide_eq_false (by omega)
                have hc2 : decide (X2 < X1) = false := decide_eq_false (by omega)
                have hc3 : ((X1 : Int) == X2) = true := by simp; omega
                have hc4 : (X1 == X2) = true := by simp; omega
                go_wp2
                refine wp_region_quiet_tail 17 (by kernel_rfl) (by kernel_rfl) ?_
                simp only [List.take_succ_cons, List.take_zero, List.drop_succ_cons, List.drop_zero]
                repeat go_big_quiet_step ((fail))
                refine wpQuiet_nil ?_
                rintro _ ⟨nq, rfl⟩
                go_wp2
                go_quiet (fail)
                go_wp2
                go_roundw
                case rel => exact ⟨T, B, Z, Al ||| K, K + 1, by omega, by omega, rfl, rfl, rfl, rfl, by go_num, Lib.hid (HB.out.same hK1 hK65 (by rw [HEG.out, ← HPC.out, ← HX1.out, ← HX2.out]; omega)), Lib.hid (by rw [HPQ.out, HQQ.out]; exact HPP.out), HB0.out _ _, HB1.out _ _, HB2.out _ _, HBB.out _ _⟩
                case measure => simp [intOf]; omega
              · have hc1 : decide ((X2 : Int) < X1) = true := decide_eq_true (by omega)
                have hc2 : decide (X2 < X1) = true := decide_eq_true (by omega)
                go_wp2
                refine wp_region_quiet_tail 17 (by kernel_rfl) (by kernel_rfl) ?_
                simp only [List.take_succ_cons, List.take_zero, List.drop_succ_cons, List.drop_zero]
                repeat go_big_quiet_step ((fail))
                refine wpQuiet_nil ?_
                rintro _ ⟨nq, rfl⟩
                go_wp2
                go_quiet (fail)
                go_wp2
                go_roundw
                case rel => exact ⟨T, eL + pM, pL + 1, K, K + 1, by omega, by omega, rfl, by go_num, by go_num, rfl, by go_num, Lib.hid (by have := HB.out.more hK1 hK65 (by rw [HEG.out, ← HPC.out, ← HX1.out, ← HX2.out]; omega); rwa [HEG.out, ← HPC.out] at this), Lib.hid (by rw [HPQ.out, HQQ.out]; exact HPP.out), HB0.out _ _, HB1.out _ _, HB2.out _ _, HBB.out _ _⟩
                case measure => simp [intOf]; omega
          · have hKN' : K = N := by omega
            subst hKN'
            have hal : Al = s := BestI.done hm (by have h := HB.out; have hn := HN.out; rw [hn] at h; exact h) HD.out
            subst hal
            have hlow : ∀ v, sHas Al v = true → v < m := HD.out.sub
            have hs65 := HD.out.lt
            have HUP := Lib.hid (upTo_ms hm hlow)
            clear HB hr0 h1 h2 hlow
            go_wp2
            go_loopw [20, 21] (fun o v W => ∃ k : Nat, k ≤ m ∧ v = .int .i64 k ∧ W.ownsRow w.heap.size 3 1 o (upTo Al k).length (intv (upTo Al k)) ∧ Below w.heap.size w W) (fun _ v _ => m - (intOf v).toNat)
            case atStart => exact ⟨0, by omega, rfl, ⟨rfl, .inl ⟨rfl, rfl⟩⟩, hbr⟩
            case round =>
              clear hbr
              obtain ⟨k, hk, rfl, ho, hb⟩ := hrel
              obtain ⟨A', c', e', hl', hi'⟩ := own_ints ho
              subst e'
              clear hl' hi'
              by_cases hlt : k < m
              · have hrem := has_rem Al k
                cases hs : sHas Al k
                · rw [hs] at hrem
                  have HUN := Lib.hid (upTo_no hs)
                  clear hs
                  go_wp2
                  go_roundw
                  case rel => exact ⟨k + 1, by omega, by go_num, by rw [HUN.out]; exact ho, hb⟩
                  case measure => simp [intOf]; omega
                · rw [hs] at hrem
                  have HUN := Lib.hid (upTo_yes hs)
                  have hul : (upTo Al k).length ≤ 16 := by have := List.length_filter_le (sHas Al) (List.range k); rw [List.length_range] at this; show ((List.range k).filter (sHas Al)).length ≤ 16; omega
                  clear hs
                  go_wp2_with (at_builtin; refine wpList_append_own_at _ rfl (.tmp 146) (.tmp 148) 24 rfl w.heap.size 3 i0 (.int .i64 0) 1 8 Try.underlying24 hi hz0 hz1 hz2 rfl (by decide) _ _ _ rfl (ho.alloc _) ⟨wr.heap.size, 0, none⟩ 1 1 [.int .i64 k] rfl rfl (news_one (row_new (by simp))) (by simp [Value.oneCell']) (by unfold maxLen; omega) (by have := hb.size; omega) (by have := hb.size; simp; omega) ?_; intro v9 w9 hn9 hg9 _ hat9)
                  obtain ⟨hb9, -⟩ := app1 ho hb.size hg9
                  have e1 : (upTo Al (k + 1)).length = (upTo Al k).length + 1 := by rw [HUN.out]; simp
                  have e2 : intv (upTo Al (k + 1)) = intv (upTo Al k) ++ [.int .i64 k] := by rw [HUN.out]; simp [intv]
                  have E1 := Lib.hid e1
                  have E2 := Lib.hid e2
                  clear e1 e2
                  go_roundw
                  case rel => exact ⟨k + 1, by omega, by go_num, by rw [E1.out, E2.out]; exact hn9, hb.trans (hb9.mono (by have := hb.size; omega))⟩
                  case measure => simp [intOf]; omega
              · obtain rfl : k = m := by omega
                go_wp2
                go_ret
                rw [← HUP.out]
                exact ⟨_, rfl, ho, hb⟩
end Go.Proofs.Ytpaeagkgmbhndaa
