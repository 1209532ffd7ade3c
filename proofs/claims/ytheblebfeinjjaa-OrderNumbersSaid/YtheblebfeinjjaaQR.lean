/- The reference's numbers of an order. -/
import Derived.Test.YtheblebfeinjjaaQN
import Derived.Test.YtheblebfeinjjaaNO
import Derived.Test.YtheblebfeinjjaaQI
import Derived.Test.YtheblebfeinjjaaNW
import Derived.Test.YtheblebfeinjjaaPI
namespace Go.Proofs.Ytheblebfeinjjaa
open Go.RowKit
set_option maxHeartbeats 1000000
set_option maxRecDepth 100000
theorem gtN_lt {l : List Int} (h : IsO l) {k : Nat} (hk : k < l.length) : (isRb l k = true ↔ gtN l k < geti l k) := by
  rw [isRb_iff]
  cases k with
  | zero =>
    have := h.lo 0 hk
    show geti l 0 = geti l 0 ↔ (0 : Int) < geti l 0
    constructor
    · intro _; omega
    · intro _; rfl
  | succ k =>
    have e : mxN l (k + 1) = if geti l (k + 1) ≤ mxN l k then mxN l k else geti l (k + 1) := rfl
    show mxN l (k + 1) = geti l (k + 1) ↔ mxN l k < geti l (k + 1)
    by_cases h2 : geti l (k + 1) ≤ mxN l k
    · rw [e, if_pos h2]
      constructor
      · intro h3
        obtain ⟨i, hi, e2⟩ := mxN_is l k
        exact absurd (e2.trans h3) (h.ne (k + 1) i hk (by omega))
      · intro h3; omega
    · rw [e, if_neg h2]
      constructor
      · intro _; omega
      · intro _; rfl
theorem gtN_next {l : List Int} {k : Nat} (h : isRb l k = false) : gtN l (k + 1) = gtN l k := (gtN_rec h).symm
theorem gtN_bd {l : List Int} (h : IsO l) : ∀ k, k ≤ l.length → 0 ≤ gtN l k ∧ gtN l k ≤ 12
  | 0, _ => ⟨Int.le_refl _, by show (0 : Int) ≤ 12; omega⟩
  | k + 1, hk => by
    have := mxN_bound h (k := k) (by omega)
    have := h.le
    show 0 ≤ mxN l k ∧ mxN l k ≤ 12
    omega
theorem num_step {l : List Int} {x m a b d e : Int} (k : Nat) {G1 G2 G3 : Bool} {P1 P2 P3 : Prop} [Decidable P1] [Decidable P2] [Decidable P3] (g1 : decide P1 = G1) (g2 : decide P2 = G2) (g3 : decide P3 = G3)
    (HM : ∀ k, majN l (k + 1) = majN l k + if isDb l k then k else 0) (HC : ∀ f k, cntN f (k + 1) = cntN f k + if f k then 1 else 0)
    (hd : isDb l k = decide P1) (he : isEb l k = decide P2) (hr : isRb l k = true ↔ P3) (h4 : ∀ k, isRb l k = true → gtN l (k + 1) = geti l k) (h2 : ∀ k, isRb l k = false → gtN l (k + 1) = gtN l k)
    (hm : m = gtN l k) (hE : a = (majN l k : Nat) ∧ b = (cntN (isDb l) k : Nat) ∧ d = (cntN (isEb l) k : Nat) ∧ e = (cntN (isRb l) k : Nat)) (hx : geti l k = x) :
    (if G3 then x else m) = gtN l (k + 1) ∧ ((if G1 then a + (k : Int) else a) = (majN l (k + 1) : Nat) ∧ (if G1 then b + 1 else b) = (cntN (isDb l) (k + 1) : Nat) ∧ (if G2 then d + 1 else d) = (cntN (isEb l) (k + 1) : Nat) ∧ (if G3 then e + 1 else e) = (cntN (isRb l) (k + 1) : Nat)) := by
  have hr2 : isRb l k = G3 := by
    rw [← g3]
    by_cases h : P3
    · rw [hr.2 h, decide_eq_true h]
    · rw [decide_eq_false h]; cases h5 : isRb l k
      · rfl
      · exact absurd (hr.1 h5) h
  rw [HM, HC, HC, HC, hd, he, g1, g2, hr2]
  obtain ⟨rfl, rfl, rfl, rfl⟩ := hE
  have H4 := h4 k
  have H2 := h2 k
  rw [hr2] at H4 H2
  refine ⟨?_, ?_, ?_, ?_, ?_⟩
  · cases G3
    · exact hm.trans (H2 rfl).symm
    · exact hx.symm.trans (H4 rfl).symm
  · cases G1 <;> simp
  · cases G1 <;> simp
  · cases G2 <;> simp
  · cases G3 <;> simp
theorem refNumbers_any (A : Option Addr) (c : Nat) (l : List Int) (w : World) (h : IsO l) (ha : IntsAt w A l) :
    Calls Try.prog 22 #[.slice A l.length c] w fun e w' => e = .returned (.agg (iv (nmL l)).toArray) ∧ Below w.heap.size w w' := by
  have hle := h.le
  have HT := Lib.hid (fun w ha => refTable_any A c l w (by omega) ha)
  have HC := Lib.hid (fun w ha => refCycles_any A c l w h ha)
  have HA := Lib.hid ha
  have HS := Lib.hid (fun A c w ha => total_any A c (tabL l) w (by rw [tabL_len]; omega) (fun k hk => by rw [tabL_len] at hk; have := sumN_tab l hle k hk; omega) ha)
  have HH := Lib.hid h
  obtain ⟨N, HN⟩ : ∃ N, Hid (nmL l = N) := ⟨_, Lib.hid rfl⟩
  rw [HN.out]
  clear h ha
  go_enter Try.func22, Try.ntmps22
  go_wp2_with (go_at_call 25; fail)
  have q0 : Row (w.alloc (.cells Z6.toArray 25)) w.heap.size 25 Z6 := row_new rfl
  have b0 : Below w.heap.size w (w.alloc (.cells Z6.toArray 25)) := by (repeat (first | exact Below.refl _ _ | assumption | (refine Below.setCell ?_ (by first | exact Nat.le_refl _ | omega | (simp; done) | (simp; omega)) _) | (refine Below.trans ?_ (below_drewN _)) | (refine Below.drew ?_) | (refine Below.alloc ?_ (by first | exact Nat.le_refl _ | omega | (simp; done) | (simp; omega)) _) | (refine below_row ?_ (by first | exact Nat.le_refl _ | omega | (simp; done) | (simp; omega)) _)))
  have HTL := Lib.hid (tabL_len l)
  refine (HT.out _ (HA.out.below b0)).mono ?_
  rintro e w1 ⟨v1, rfl, o1, b1⟩
  obtain ⟨A1, c1, e1, -, -, i1⟩ := own_intsI o1
  rw [HTL.out] at e1
  subst e1
  replace q0 := q0.below b1
  replace b0 := b0.trans (b1.mono b0.size)
  have HS1 := HS.out A1 c1 w1 i1
  rw [HTL.out] at HS1
  have HS2 := Lib.hid HS1
  clear b1 o1 i1 HT HS HS1
  go_wp2_with (go_at_call 55; fail)
  refine HS2.out.mono ?_
  rintro e w2 ⟨rfl, rfl⟩
  go_wp2_with (go_at_call 56; fail)
  refine (HC.out _ (HA.out.below b0)).mono ?_
  rintro e w3 ⟨A3, c3, cs, rfl, o3, -, b3⟩
  replace q0 := q0.below b3
  replace b0 := b0.trans (b3.mono b0.size)
  have HCL : Hid ((cyT l l.length).length = cntN (isGb l) l.length) := Lib.hid (cyT_len l _)
  rw [HCL.out]
  clear o3 b3 HC HS2
  have HR1 := Lib.hid (fun k (hk : k < l.length) => gtN_lt HH.out hk)
  have HR2 := Lib.hid (fun k (h2 : isRb l k = false) => gtN_next h2)
  have HR3 := Lib.hid (fun k (hk : k ≤ l.length) => gtN_bd HH.out k hk)
  have HR4 : Hid (∀ k, isRb l k = true → gtN l (k + 1) = geti l k) := Lib.hid (fun k h2 => isRb_iff.1 h2)
  have HV := Lib.hid (fun k (hk : k < l.length) => (⟨HH.out.lo k hk, HH.out.hi k hk⟩ : 1 ≤ geti l k ∧ geti l k ≤ l.length))
  have HM : Hid (∀ k, majN l (k + 1) = majN l k + if isDb l k then k else 0) := Lib.hid (fun k => rfl)
  have HCN : Hid (∀ f k, cntN f (k + 1) = cntN f k + if f k then 1 else 0) := Lib.hid (fun f k => rfl)
  have HDB : Hid (∀ k, 0 < k → isDb l k = decide (geti l k < geti l (k - 1))) := Lib.hid (fun k hk => by unfold isDb; rw [decide_eq_true hk]; simp)
  have HEB : Hid (∀ k : Nat, isEb l k = decide ((k : Int) + 1 < geti l k)) := Lib.hid (fun k => rfl)
  have hcb := cntN_le (isGb l) l.length
  have hsb := sumN_tab l hle l.length (Nat.le_refl _)
  have HNM : Hid (N = [sumN (tabL l) l.length, (majN l l.length : Nat), (cntN (isDb l) l.length : Nat), (cntN (isEb l) l.length : Nat), (cntN (isGb l) l.length : Nat), (cntN (isRb l) l.length : Nat)]) := Lib.hid (HN.out.symm.trans rfl)
  clear HN
  generalize sumN (tabL l) l.length = s at *
  generalize cntN (isGb l) l.length = cy at *
  have t0 : Row (w3.alloc (.cells #[.int .i64 s, .int .i64 0, .int .i64 0, .int .i64 0, .int .i64 (cy : Int), .int .i64 0] 25)) w3.heap.size 25 (iv [s, 0, 0, 0, (cy : Int), 0]) := row_new rfl
  have q1 := q0.alloc (.cells #[.int .i64 s, .int .i64 0, .int .i64 0, .int .i64 0, .int .i64 (cy : Int), .int .i64 0] 25)
  have b1 := b0.alloc b0.size (.cells #[.int .i64 s, .int .i64 0, .int .i64 0, .int .i64 0, .int .i64 (cy : Int), .int .i64 0] 25)
  have hbz := b0.size
  have hql := q0.lt
  go_wp2
  go_loopw [4, 5] (fun mv i wr => ∃ (k : Nat) (m a b d e : Int), k ≤ l.length ∧ i = .int .i64 k ∧ mv = .int .i64 m ∧ Hid (m = gtN l k) ∧ Hid (a = (majN l k : Nat) ∧ b = (cntN (isDb l) k : Nat) ∧ d = (cntN (isEb l) k : Nat) ∧ e = (cntN (isRb l) k : Nat)) ∧ 0 ≤ a ∧ a ≤ 12 * k ∧ 0 ≤ b ∧ b ≤ k ∧ 0 ≤ d ∧ d ≤ k ∧ 0 ≤ e ∧ e ≤ k ∧ Row wr w3.heap.size 25 (iv [s, a, b, d, (cy : Int), e]) ∧ Row wr w.heap.size 25 Z6 ∧ Below w.heap.size w wr) (fun _ i _ => l.length - (intOf i).toNat)
  case atStart => exact ⟨0, 0, 0, 0, 0, 0, by omega, rfl, rfl, Lib.hid rfl, Lib.hid ⟨rfl, rfl, rfl, rfl⟩, by omega, by omega, by omega, by omega, by omega, by omega, by omega, by omega, t0, q1, b1⟩
  case round =>
    clear t0 q1 b1 q0 b0
    obtain ⟨k, m, a, b, d, e, hk, rfl, rfl, HMX, HE, ha0, ha1, hb0, hb1, hd0, hd1, he0, he1, t0, q0, b0⟩ := hrel
    by_cases hlt : k < l.length
    · obtain ⟨bA, oA, hAe, hbA, f1⟩ := HA.out (by omega)
      replace f1 := fun k hk => (b0.cell hbA).trans (f1 k hk)
      subst hAe
      have dk := f1 k hlt
      obtain ⟨v1, v2⟩ := HV.out k hlt
      have hm := HR3.out k hk
      rw [← HMX.out] at hm
      obtain ⟨hm1, hm2⟩ := hm
      have HCC : Hid (∀ V : World, Row V w3.heap.size 25 (iv [s, a, b, d, (cy : Int), e]) → (V.cell? ⟨w3.heap.size, 1, none⟩ = some (.int .i64 a) ∧ V.cell? ⟨w3.heap.size, 2, none⟩ = some (.int .i64 b) ∧ V.cell? ⟨w3.heap.size, 3, none⟩ = some (.int .i64 d) ∧ V.cell? ⟨w3.heap.size, 5, none⟩ = some (.int .i64 e))) := Lib.hid (fun V h => ⟨ivR h (i := 1) (by simp), ivR h (i := 2) (by simp), ivR h (i := 3) (by simp), ivR h (i := 5) (by simp)⟩)
      by_cases hk0 : 0 < k
      · have dk1 := f1 (k - 1) (by omega)
        have hki : (k : Int) - 1 = ((k - 1 : Nat) : Int) := by omega
        have g0 : decide (0 < (k : Int)) = true := decide_eq_true (by omega)
        have HD := Lib.hid (HDB.out k hk0)
        have HEE := Lib.hid (HEB.out k)
        have HRR := Lib.hid (HR1.out k hlt)
        obtain ⟨x, hx⟩ : ∃ x, geti l k = x := ⟨_, rfl⟩
        obtain ⟨y, hy⟩ : ∃ y, geti l (k - 1) = y := ⟨_, rfl⟩
        rw [hx] at HD HEE HRR dk v1 v2
        rw [hy] at HD dk1
        rw [← HMX.out] at HRR
        cases g1 : decide (x < y) <;> cases g2 : decide ((k : Int) + 1 < x) <;> cases g3 : decide (m < x)
        all_goals
          go_wp2
          refine wp_region_quiet_lit (by kernel_rfl) (by kernel_rfl) ?_
          repeat go_big_quiet_step ((fail))
          refine wpQuiet_nil ?_
          rintro _ ⟨nq, rfl⟩
          replace t0 := t0.drewN nq
          replace q0 := q0.drewN nq
          replace b0 := b0.trans (below_drewN nq)
          replace dk : (wr.drewN nq).cell? ⟨bA, oA + k, none⟩ = some (.int .i64 x) := dk
          generalize wr.drewN nq = W at *
          obtain ⟨c1, c2, c3, c5⟩ := HCC.out W t0
          have f1 := t0.free 1
          have f2 := t0.free 2
          have f3 := t0.free 3
          have f5 := t0.free 5
          clear dk1
        · go_wp2
          have HN2 := num_step k g1 g2 g3 HM.out HCN.out HD.out HEE.out HRR.out HR4.out HR2.out HMX.out HE.out hx
          refine ⟨⟨k + 1, m, a, b, d, e, by omega, rfl, rfl, Lib.hid HN2.1, Lib.hid HN2.2, by omega, by omega, by omega, by omega, by omega, by omega, by omega, by omega, ?_, ?_, ?_⟩, by simp [intOf]; omega⟩
          · exact t0
          · exact q0
          · exact b0
        · go_wp2
          have HN2 := num_step k g1 g2 g3 HM.out HCN.out HD.out HEE.out HRR.out HR4.out HR2.out HMX.out HE.out hx
          refine ⟨⟨k + 1, x, a, b, d, e + 1, by omega, rfl, rfl, Lib.hid HN2.1, Lib.hid HN2.2, by omega, by omega, by omega, by omega, by omega, by omega, by omega, by omega, ?_, ?_, ?_⟩, by simp [intOf]; omega⟩
          · exact (t0.set 5 (.int .i64 (e + 1)))
          · exact (Row.far q0 (p := ⟨w3.heap.size, 5, none⟩) (Nat.ne_of_lt hql) (.int .i64 (e + 1)))
          · exact (b0.setCell (p := ⟨w3.heap.size, 5, none⟩) hbz (.int .i64 (e + 1)))
        · go_wp2
          have HN2 := num_step k g1 g2 g3 HM.out HCN.out HD.out HEE.out HRR.out HR4.out HR2.out HMX.out HE.out hx
          refine ⟨⟨k + 1, m, a, b, d + 1, e, by omega, rfl, rfl, Lib.hid HN2.1, Lib.hid HN2.2, by omega, by omega, by omega, by omega, by omega, by omega, by omega, by omega, ?_, ?_, ?_⟩, by simp [intOf]; omega⟩
          · exact (t0.set 3 (.int .i64 (d + 1)))
          · exact (Row.far q0 (p := ⟨w3.heap.size, 3, none⟩) (Nat.ne_of_lt hql) (.int .i64 (d + 1)))
          · exact (b0.setCell (p := ⟨w3.heap.size, 3, none⟩) hbz (.int .i64 (d + 1)))
        · go_wp2
          have HN2 := num_step k g1 g2 g3 HM.out HCN.out HD.out HEE.out HRR.out HR4.out HR2.out HMX.out HE.out hx
          refine ⟨⟨k + 1, x, a, b, d + 1, e + 1, by omega, rfl, rfl, Lib.hid HN2.1, Lib.hid HN2.2, by omega, by omega, by omega, by omega, by omega, by omega, by omega, by omega, ?_, ?_, ?_⟩, by simp [intOf]; omega⟩
          · exact ((t0.set 3 (.int .i64 (d + 1))).set 5 (.int .i64 (e + 1)))
          · exact (Row.far (Row.far q0 (p := ⟨w3.heap.size, 3, none⟩) (Nat.ne_of_lt hql) (.int .i64 (d + 1))) (p := ⟨w3.heap.size, 5, none⟩) (Nat.ne_of_lt hql) (.int .i64 (e + 1)))
          · exact ((b0.setCell (p := ⟨w3.heap.size, 3, none⟩) hbz (.int .i64 (d + 1))).setCell (p := ⟨w3.heap.size, 5, none⟩) hbz (.int .i64 (e + 1)))
        · go_wp2
          have HN2 := num_step k g1 g2 g3 HM.out HCN.out HD.out HEE.out HRR.out HR4.out HR2.out HMX.out HE.out hx
          refine ⟨⟨k + 1, m, a + (k : Int), b + 1, d, e, by omega, rfl, rfl, Lib.hid HN2.1, Lib.hid HN2.2, by omega, by omega, by omega, by omega, by omega, by omega, by omega, by omega, ?_, ?_, ?_⟩, by simp [intOf]; omega⟩
          · exact ((t0.set 1 (.int .i64 (a + (k : Int)))).set 2 (.int .i64 (b + 1)))
          · exact (Row.far (Row.far q0 (p := ⟨w3.heap.size, 1, none⟩) (Nat.ne_of_lt hql) (.int .i64 (a + (k : Int)))) (p := ⟨w3.heap.size, 2, none⟩) (Nat.ne_of_lt hql) (.int .i64 (b + 1)))
          · exact ((b0.setCell (p := ⟨w3.heap.size, 1, none⟩) hbz (.int .i64 (a + (k : Int)))).setCell (p := ⟨w3.heap.size, 2, none⟩) hbz (.int .i64 (b + 1)))
        · go_wp2
          have HN2 := num_step k g1 g2 g3 HM.out HCN.out HD.out HEE.out HRR.out HR4.out HR2.out HMX.out HE.out hx
          refine ⟨⟨k + 1, x, a + (k : Int), b + 1, d, e + 1, by omega, rfl, rfl, Lib.hid HN2.1, Lib.hid HN2.2, by omega, by omega, by omega, by omega, by omega, by omega, by omega, by omega, ?_, ?_, ?_⟩, by simp [intOf]; omega⟩
          · exact (((t0.set 1 (.int .i64 (a + (k : Int)))).set 2 (.int .i64 (b + 1))).set 5 (.int .i64 (e + 1)))
          · exact (Row.far (Row.far (Row.far q0 (p := ⟨w3.heap.size, 1, none⟩) (Nat.ne_of_lt hql) (.int .i64 (a + (k : Int)))) (p := ⟨w3.heap.size, 2, none⟩) (Nat.ne_of_lt hql) (.int .i64 (b + 1))) (p := ⟨w3.heap.size, 5, none⟩) (Nat.ne_of_lt hql) (.int .i64 (e + 1)))
          · exact (((b0.setCell (p := ⟨w3.heap.size, 1, none⟩) hbz (.int .i64 (a + (k : Int)))).setCell (p := ⟨w3.heap.size, 2, none⟩) hbz (.int .i64 (b + 1))).setCell (p := ⟨w3.heap.size, 5, none⟩) hbz (.int .i64 (e + 1)))
        · go_wp2
          have HN2 := num_step k g1 g2 g3 HM.out HCN.out HD.out HEE.out HRR.out HR4.out HR2.out HMX.out HE.out hx
          refine ⟨⟨k + 1, m, a + (k : Int), b + 1, d + 1, e, by omega, rfl, rfl, Lib.hid HN2.1, Lib.hid HN2.2, by omega, by omega, by omega, by omega, by omega, by omega, by omega, by omega, ?_, ?_, ?_⟩, by simp [intOf]; omega⟩
          · exact (((t0.set 1 (.int .i64 (a + (k : Int)))).set 2 (.int .i64 (b + 1))).set 3 (.int .i64 (d + 1)))
          · exact (Row.far (Row.far (Row.far q0 (p := ⟨w3.heap.size, 1, none⟩) (Nat.ne_of_lt hql) (.int .i64 (a + (k : Int)))) (p := ⟨w3.heap.size, 2, none⟩) (Nat.ne_of_lt hql) (.int .i64 (b + 1))) (p := ⟨w3.heap.size, 3, none⟩) (Nat.ne_of_lt hql) (.int .i64 (d + 1)))
          · exact (((b0.setCell (p := ⟨w3.heap.size, 1, none⟩) hbz (.int .i64 (a + (k : Int)))).setCell (p := ⟨w3.heap.size, 2, none⟩) hbz (.int .i64 (b + 1))).setCell (p := ⟨w3.heap.size, 3, none⟩) hbz (.int .i64 (d + 1)))
        · go_wp2
          have HN2 := num_step k g1 g2 g3 HM.out HCN.out HD.out HEE.out HRR.out HR4.out HR2.out HMX.out HE.out hx
          refine ⟨⟨k + 1, x, a + (k : Int), b + 1, d + 1, e + 1, by omega, rfl, rfl, Lib.hid HN2.1, Lib.hid HN2.2, by omega, by omega, by omega, by omega, by omega, by omega, by omega, by omega, ?_, ?_, ?_⟩, by simp [intOf]; omega⟩
          · exact ((((t0.set 1 (.int .i64 (a + (k : Int)))).set 2 (.int .i64 (b + 1))).set 3 (.int .i64 (d + 1))).set 5 (.int .i64 (e + 1)))
          · exact (Row.far (Row.far (Row.far (Row.far q0 (p := ⟨w3.heap.size, 1, none⟩) (Nat.ne_of_lt hql) (.int .i64 (a + (k : Int)))) (p := ⟨w3.heap.size, 2, none⟩) (Nat.ne_of_lt hql) (.int .i64 (b + 1))) (p := ⟨w3.heap.size, 3, none⟩) (Nat.ne_of_lt hql) (.int .i64 (d + 1))) (p := ⟨w3.heap.size, 5, none⟩) (Nat.ne_of_lt hql) (.int .i64 (e + 1)))
          · exact ((((b0.setCell (p := ⟨w3.heap.size, 1, none⟩) hbz (.int .i64 (a + (k : Int)))).setCell (p := ⟨w3.heap.size, 2, none⟩) hbz (.int .i64 (b + 1))).setCell (p := ⟨w3.heap.size, 3, none⟩) hbz (.int .i64 (d + 1))).setCell (p := ⟨w3.heap.size, 5, none⟩) hbz (.int .i64 (e + 1)))
      · obtain rfl : k = 0 := by omega
        have g0 : decide (0 < ((0 : Nat) : Int)) = false := rfl
        have HD : Hid (isDb l 0 = decide (0 < ((0 : Nat) : Int))) := Lib.hid rfl
        have HEE := Lib.hid (HEB.out 0)
        have HRR := Lib.hid (HR1.out 0 hlt)
        obtain ⟨x, hx⟩ : ∃ x, geti l 0 = x := ⟨_, rfl⟩
        rw [hx] at HEE HRR dk v1 v2
        rw [← HMX.out] at HRR
        replace HEE : Hid (isEb l 0 = decide ((1 : Int) < x)) := Lib.hid HEE.out
        cases g2 : decide ((1 : Int) < x) <;> cases g3 : decide (m < x)
        all_goals
          go_wp2
          refine wp_region_quiet_lit (by kernel_rfl) (by kernel_rfl) ?_
          repeat go_big_quiet_step ((fail))
          refine wpQuiet_nil ?_
          rintro _ ⟨nq, rfl⟩
          replace t0 := t0.drewN nq
          replace q0 := q0.drewN nq
          replace b0 := b0.trans (below_drewN nq)
          replace dk : (wr.drewN nq).cell? ⟨bA, oA, none⟩ = some (.int .i64 x) := dk
          generalize wr.drewN nq = W at *
          obtain ⟨c1, c2, c3, c5⟩ := HCC.out W t0
          have f1 := t0.free 1
          have f2 := t0.free 2
          have f3 := t0.free 3
          have f5 := t0.free 5
        · go_wp2
          have HN2 := num_step 0 g0 g2 g3 HM.out HCN.out HD.out HEE.out HRR.out HR4.out HR2.out HMX.out HE.out hx
          refine ⟨⟨0 + 1, m, a, b, d, e, by omega, rfl, rfl, Lib.hid HN2.1, Lib.hid HN2.2, by omega, by omega, by omega, by omega, by omega, by omega, by omega, by omega, ?_, ?_, ?_⟩, by simp [intOf]; omega⟩
          · exact t0
          · exact q0
          · exact b0
        · go_wp2
          have HN2 := num_step 0 g0 g2 g3 HM.out HCN.out HD.out HEE.out HRR.out HR4.out HR2.out HMX.out HE.out hx
          refine ⟨⟨0 + 1, x, a, b, d, e + 1, by omega, rfl, rfl, Lib.hid HN2.1, Lib.hid HN2.2, by omega, by omega, by omega, by omega, by omega, by omega, by omega, by omega, ?_, ?_, ?_⟩, by simp [intOf]; omega⟩
          · exact (t0.set 5 (.int .i64 (e + 1)))
          · exact (Row.far q0 (p := ⟨w3.heap.size, 5, none⟩) (Nat.ne_of_lt hql) (.int .i64 (e + 1)))
          · exact (b0.setCell (p := ⟨w3.heap.size, 5, none⟩) hbz (.int .i64 (e + 1)))
        · go_wp2
          have HN2 := num_step 0 g0 g2 g3 HM.out HCN.out HD.out HEE.out HRR.out HR4.out HR2.out HMX.out HE.out hx
          refine ⟨⟨0 + 1, m, a, b, d + 1, e, by omega, rfl, rfl, Lib.hid HN2.1, Lib.hid HN2.2, by omega, by omega, by omega, by omega, by omega, by omega, by omega, by omega, ?_, ?_, ?_⟩, by simp [intOf]; omega⟩
          · exact (t0.set 3 (.int .i64 (d + 1)))
          · exact (Row.far q0 (p := ⟨w3.heap.size, 3, none⟩) (Nat.ne_of_lt hql) (.int .i64 (d + 1)))
          · exact (b0.setCell (p := ⟨w3.heap.size, 3, none⟩) hbz (.int .i64 (d + 1)))
        · go_wp2
          have HN2 := num_step 0 g0 g2 g3 HM.out HCN.out HD.out HEE.out HRR.out HR4.out HR2.out HMX.out HE.out hx
          refine ⟨⟨0 + 1, x, a, b, d + 1, e + 1, by omega, rfl, rfl, Lib.hid HN2.1, Lib.hid HN2.2, by omega, by omega, by omega, by omega, by omega, by omega, by omega, by omega, ?_, ?_, ?_⟩, by simp [intOf]; omega⟩
          · exact ((t0.set 3 (.int .i64 (d + 1))).set 5 (.int .i64 (e + 1)))
          · exact (Row.far (Row.far q0 (p := ⟨w3.heap.size, 3, none⟩) (Nat.ne_of_lt hql) (.int .i64 (d + 1))) (p := ⟨w3.heap.size, 5, none⟩) (Nat.ne_of_lt hql) (.int .i64 (e + 1)))
          · exact ((b0.setCell (p := ⟨w3.heap.size, 3, none⟩) hbz (.int .i64 (d + 1))).setCell (p := ⟨w3.heap.size, 5, none⟩) hbz (.int .i64 (e + 1)))
    · obtain rfl : k = l.length := by omega
      have HX := HNM.out
      obtain ⟨e1, e2, e3, e4⟩ := HE.out
      rw [← e1, ← e2, ← e3, ← e4] at HX
      have HLM : N.length = 6 := by rw [HX]; rfl
      rw [← HX] at t0
      have HRL : Hid (Row wr w3.heap.size 25 (iv N)) := Lib.hid t0
      clear HNM HE HX t0
      have hi6 : (Try.prog.info? 25).map (·.size) = some (iv N).toArray.size := by rw [List.size_toArray, iv_len, HLM]; exact info25
      have hs6 : Z6.toArray.size = (iv N).toArray.size := by rw [List.size_toArray, List.size_toArray, iv_len, HLM]; rfl
      go_wp2_with (first
        | ((with_reducible refine (?_ : wpList _ _ _ (Oper.mk (some 67) _ _ _ _ _ :: _) _ _)); refine wpList_load_row rfl 25 (.tmp 3) rfl w3.heap.size rfl 25 (iv N).toArray (0, 0) _ (row_heap HRL.out) Try.underlying25 rfl hi6 ?_)
        | (with_reducible refine (?_ : wpList _ _ _ (Oper.mk _ (Op.store 25 (.tmp 2) _) _ _ _ _ :: _) _ _); refine wpList_store_row rfl 25 (.tmp 2) (.tmp 67) rfl w.heap.size (iv N).toArray rfl rfl 25 Z6.toArray (row_heap q0) hi6 hs6 (iv_all _) ?_))
      exact bodyPost_ret (v := .agg (iv N).toArray) (res1 Try.results22 rfl (load25v (by rw [iv_len, HLM]) (q0.row (iv N)))) rfl ⟨rfl, below_row b0 (Nat.le_refl _) _⟩
end Go.Proofs.Ytheblebfeinjjaa
