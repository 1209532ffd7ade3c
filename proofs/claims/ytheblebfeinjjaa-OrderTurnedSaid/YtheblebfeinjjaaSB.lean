/- OrderTurned, walked; the row. -/
import Derived.Test.YtheblebfeinjjaaSE
import Derived.Test.YtheblebfeinjjaaSG
import Derived.Test.YtheblebfeinjjaaSF
import Derived.Test.YtheblebfeinjjaaSD
import Derived.Test.YtheblebfeinjjaaNX
import Derived.Test.YtheblebfeinjjaaOC
/- The reference's order of the written one. -/
namespace Go.Proofs.Ytheblebfeinjjaa
open Go.RowKit
set_option maxHeartbeats 1000000
set_option maxRecDepth 100000
theorem gtN_lt {l : List Int} (h : IsO l) {k : Nat} (hk : k < l.length) : (isRb l k = true ↔ gtN l k < geti l k) := by
  rw [isRb_iff]
  cases k with
  | zero =>
    have := h.lo 0 hk
    show geti l 0 = geti l 0 ↔ (0 : Int) < geti l 0
    constructor
    · intro _; omega
    · intro _; rfl
  | succ k =>
    have e : mxN l (k + 1) = if geti l (k + 1) ≤ mxN l k then mxN l k else geti l (k + 1) := rfl
    show mxN l (k + 1) = geti l (k + 1) ↔ mxN l k < geti l (k + 1)
    by_cases h2 : geti l (k + 1) ≤ mxN l k
    · rw [e, if_pos h2]
      constructor
      · intro h3
        obtain ⟨i, hi, e2⟩ := mxN_is l k
        exact absurd (e2.trans h3) (h.ne (k + 1) i hk (by omega))
      · intro h3; omega
    · rw [e, if_neg h2]
      constructor
      · intro _; omega
      · intro _; rfl
/-- The cells before the number at k is followed. -/
def rcN (l : List Int) (k : Nat) : List Int := if isRb l k then cyS l k else (cyS l k).set ((geti l (k - 1)).toNat - 1) (geti l k)
theorem rcN_len (l : List Int) (k : Nat) : (rcN l k).length = l.length := by
  have := cyS_len l k
  unfold rcN
  split
  · exact this
  · rw [List.length_set]; exact this
theorem rcN_last (l : List Int) (k : Nat) : (rcN l k).set ((geti l k).toNat - 1) (mxN l k) = cyS l (k + 1) := rfl
theorem rcN_next {l : List Int} {k : Nat} (h : isRb l (k + 1) = false) : (rcN l k).set ((geti l k).toNat - 1) (geti l (k + 1)) = rcN l (k + 1) := by
  have e : rcN l (k + 1) = (cyS l (k + 1)).set ((geti l k).toNat - 1) (geti l (k + 1)) := by
    unfold rcN
    rw [if_neg (by rw [h]; decide)]
    rfl
  rw [e, ← rcN_last, List.set_set]
theorem rcN_rec {l : List Int} {k : Nat} (h : isRb l k = true) : rcN l k = cyS l k := by unfold rcN; rw [if_pos h]
/-- A group's numbers up to 'end'. -/
def GrpAt (l : List Int) (i e : Nat) : Prop := ∀ j, i ≤ j → j < e → mxN l j = geti l i ∧ (i < j → isRb l j = false)
theorem GrpAt.one {l : List Int} {i : Nat} (h : isRb l i = true) : GrpAt l i (i + 1) := fun j h1 h2 => by
  obtain rfl : j = i := by omega
  exact ⟨isRb_iff.1 h, fun h3 => absurd h3 (by omega)⟩
theorem GrpAt.more {l : List Int} {i e : Nat} (h : GrpAt l i e) (hi : i < e) (hr : isRb l e = false) : GrpAt l i (e + 1) := fun j h1 h2 => by
  by_cases hj : j < e
  · exact h j h1 hj
  · obtain rfl : j = e := by omega
    refine ⟨?_, fun _ => hr⟩
    obtain ⟨m, rfl⟩ : ∃ m, j = m + 1 := ⟨j - 1, by omega⟩
    rw [mxN_rec hr]
    exact (h m (by omega) (by omega)).1
theorem GrpAt.rec {l : List Int} (ho : IsO l) {i e : Nat} (h : GrpAt l i e) (hi : i < e) (he : e < l.length) : (isRb l e = true ↔ ¬ geti l e < geti l i) := by
  obtain ⟨m, rfl⟩ : ∃ m, e = m + 1 := ⟨e - 1, by omega⟩
  have h1 := gtN_lt ho he
  have h2 : gtN l (m + 1) = geti l i := (h m (by omega) (by omega)).1
  have h3 := ho.ne (m + 1) i he (by omega)
  rw [h2] at h1
  rw [h1]
  omega
theorem refCycled_any (A : Option Addr) (c : Nat) (l : List Int) (w : World) (h : IsO l) (ha : IntsAt w A l) :
    Calls Try.prog 36 #[.slice A l.length c] w fun e w' => ∃ v, e = .returned v ∧ w'.ownsRow w.heap.size 3 1 v l.length (iv (cyd l)) ∧ Below w.heap.size w w' := by
  have HA := Lib.hid ha
  have HH := Lib.hid h
  have hle := h.le
  have hmk := make_ints l.length (by omega)
  clear ha
  go_enter Try.func36, Try.ntmps36
  have q0 : Row (w.alloc (.cells (iv (List.replicate l.length 0)).toArray 3)) w.heap.size 3 (iv (cyS l 0)) := row_new rfl
  have b0 : Below w.heap.size w (w.alloc (.cells (iv (List.replicate l.length 0)).toArray 3)) := by (repeat (first | exact Below.refl _ _ | assumption | (refine Below.setCell ?_ (by first | exact Nat.le_refl _ | omega | (simp; done) | (simp; omega)) _) | (refine Below.trans ?_ (below_drewN _)) | (refine Below.drew ?_) | (refine Below.alloc ?_ (by first | exact Nat.le_refl _ | omega | (simp; done) | (simp; omega)) _) | (refine below_row ?_ (by first | exact Nat.le_refl _ | omega | (simp; done) | (simp; omega)) _)))
  have HV := Lib.hid (fun (k : Nat) (hk : k < l.length) => (⟨h.lo k hk, h.hi k hk⟩ : 1 ≤ geti l k ∧ geti l k ≤ l.length))
  have HL := Lib.hid (cyS_len l)
  have HZ := Lib.hid (isRb_zero l)
  have HRL := Lib.hid (rcN_len l)
  clear h
  go_wp2
  clear hmk
  go_loopw [4] (fun i wr => ∃ k : Nat, k ≤ l.length ∧ (k = l.length ∨ isRb l k = true) ∧ i = .int .i64 k ∧ Row wr w.heap.size 3 (iv (cyS l k)) ∧ Below w.heap.size w wr) (fun i _ => l.length - (intOf i).toNat)
  case atStart => exact ⟨0, by omega, Or.inr HZ.out, rfl, q0, b0⟩
  case round =>
    clear q0 b0
    obtain ⟨k, hk, hkr, rfl, q0, b0⟩ := hrel
    by_cases hlt : k < l.length
    · have hkr2 : isRb l k = true := by
        rcases hkr with h | h
        · omega
        · exact h
      have HG0 := Lib.hid (GrpAt.one hkr2)
      have HK := Lib.hid hkr2
      clear hkr hkr2
      have g1 : decide ((k : Int) < (l.length : Int)) = true := decide_eq_true (by omega)
      obtain ⟨bA, oA, hAe, hbA, f1⟩ := HA.out (by omega)
      subst hAe
      have HF := Lib.hid (fun (V : World) (hb : Below w.heap.size w V) (j : Nat) (hj : j < l.length) => (hb.cell (p := ⟨bA, oA + j, none⟩) hbA).trans (f1 j hj))
      clear f1
      obtain ⟨x, hx⟩ : ∃ x, geti l k = x := ⟨_, rfl⟩
      go_wp2
      go_loopw [5] (fun e wr => ∃ t : Nat, k < t ∧ t ≤ l.length ∧ e = .int .i64 t ∧ Hid (GrpAt l k t) ∧ Row wr w.heap.size 3 (iv (cyS l k)) ∧ Below w.heap.size w wr) (fun e _ => l.length - (intOf e).toNat)
      case atStart => exact ⟨k + 1, by omega, by omega, by go_num, HG0, q0, b0⟩
      case round =>
        clear q0 b0 HG0
        obtain ⟨t, hkt, ht, rfl, HG, q0, b0⟩ := hrel
        by_cases htl : t < l.length
        · have g2 : decide ((t : Int) < (l.length : Int)) = true := decide_eq_true (by omega)
          have HR := Lib.hid (HG.out.rec HH.out hkt htl)
          have HMO := Lib.hid (fun hr => HG.out.more hkt hr)
          have dk := HF.out _ b0 k hlt
          have dt := HF.out _ b0 t htl
          obtain ⟨y, hy⟩ : ∃ y, geti l t = y := ⟨_, rfl⟩
          rw [hx] at dk
          rw [hy] at dt
          cases g3 : decide (y < x)
          · have hr : isRb l t = true := HR.out.2 (by rw [hx, hy]; simpa using g3)
            have hex : t = l.length ∨ isRb l t = true := Or.inr hr
            go_wp2
            refine wp_region_quiet_lit (by kernel_rfl) (by kernel_rfl) ?_
            repeat go_big_quiet_step ((fail))
            refine wpQuiet_nil ?_
            rintro _ ⟨nq, rfl⟩
            replace q0 := q0.drewN nq
            replace b0 := b0.trans (below_drewN nq)
            clear dk dt g3 hr g2
            generalize wr.drewN nq = V at *
            have q1 : Row V w.heap.size 3 (iv (rcN l k)) := by rw [rcN_rec HK.out]; exact q0
            have HEX := Lib.hid hex
            clear q0 hex
            go_wp2
            go_loopw [6] (fun kv wr => ∃ (j : Nat) (Z : List Int), k ≤ j ∧ j ≤ t ∧ kv = .int .i64 j ∧ Hid (Z = if j = t then cyS l t else rcN l j) ∧ Z.length = l.length ∧ Row wr w.heap.size 3 (iv Z) ∧ Below w.heap.size w wr) (fun kv _ => t - (intOf kv).toNat)
            case atStart => exact ⟨k, _, by omega, by omega, rfl, Lib.hid (by rw [if_neg (by omega)]), HRL.out k, q1, b0⟩
            case round =>
              clear q1 b0
              obtain ⟨j, Z, hkj, hjt, rfl, HZZ, hzl, q1, b0⟩ := hrel
              by_cases hj : j < t
              · have g5 : decide ((j : Int) < (t : Int)) = true := decide_eq_true (by omega)
                have HZ2 : Hid (Z = rcN l j) := Lib.hid (by rw [HZZ.out, if_neg (by omega)])
                obtain ⟨v1, v2⟩ := HV.out j (by omega)
                have dj := HF.out _ b0 j (by omega)
                have dk := HF.out _ b0 k hlt
                have f0 := q1.free ((geti l j).toNat - 1)
                have e0 := ivR q1 (i := (geti l j).toNat - 1) (by omega)
                have HM := Lib.hid ((HG.out j hkj hj).1)
                have HLA := Lib.hid (rcN_last l j)
                obtain ⟨v, hv⟩ : ∃ v, geti l j = v := ⟨_, rfl⟩
                rw [hv] at v1 v2 dj f0 e0 HLA
                rw [hx] at dk HM
                rw [HM.out, ← HZ2.out] at HLA
                by_cases hn : j + 1 < t
                · have g6 : decide ((j : Int) + 1 < (t : Int)) = true := decide_eq_true (by omega)
                  have dn := HF.out _ b0 (j + 1) (by omega)
                  have HNX := Lib.hid (rcN_next ((HG.out (j + 1) (by omega) hn).2 (by omega)))
                  rw [hv, ← HZ2.out] at HNX
                  obtain ⟨y2, hy2⟩ : ∃ y2, geti l (j + 1) = y2 := ⟨_, rfl⟩
                  rw [hy2] at dn HNX
                  replace dn : wr.cell? ⟨bA, oA + (j + 1), none⟩ = some (.int .i64 y2) := dn
                  go_wp2
                  refine ⟨⟨j + 1, Z.set (v.toNat - 1) y2, by omega, by omega, rfl, Lib.hid (by rw [if_neg (by omega)]; exact HNX.out), by rw [List.length_set]; exact hzl, ?_, b0.setCell (by dsimp only; omega) _⟩, by simp [intOf]; omega⟩
                  have h := q1.set (v.toNat - 1) (.int .i64 y2)
                  rw [iv_set] at h
                  exact h
                · have g6 : decide ((j : Int) + 1 < (t : Int)) = false := decide_eq_false (by omega)
                  have e6 : j + 1 = t := by omega
                  have HE6 := Lib.hid e6
                  clear e6
                  go_wp2
                  refine ⟨⟨j + 1, Z.set (v.toNat - 1) x, by omega, by omega, rfl, Lib.hid (by rw [if_pos HE6.out, HLA.out, HE6.out]), by rw [List.length_set]; exact hzl, ?_, b0.setCell (by dsimp only; omega) _⟩, by simp [intOf]; omega⟩
                  have h := q1.set (v.toNat - 1) (.int .i64 x)
                  rw [iv_set] at h
                  exact h
              · have ej : j = t := by omega
                have hZ : Z = cyS l t := by rw [HZZ.out, if_pos ej]
                have g5 : decide ((j : Int) < (t : Int)) = false := decide_eq_false (by omega)
                rw [hZ] at q1
                clear hZ HZZ hzl ej
                go_wp2
                exact ⟨⟨t, by omega, HEX.out, rfl, q1, b0⟩, by simp [intOf]; omega⟩
          · have hr : isRb l t = false := by
              have := HR.out
              rw [hx, hy] at this
              have g4 : y < x := by simpa using g3
              cases h5 : isRb l t
              · rfl
              · exact absurd g4 (this.1 h5)
            have HG2 := Lib.hid (HMO.out hr)
            go_wp2
            refine wp_region_quiet_lit (by kernel_rfl) (by kernel_rfl) ?_
            repeat go_big_quiet_step ((fail))
            refine wpQuiet_nil ?_
            rintro _ ⟨nq, rfl⟩
            replace q0 := q0.drewN nq
            replace b0 := b0.trans (below_drewN nq)
            go_wp2
            exact ⟨⟨t + 1, by omega, by omega, rfl, HG2, q0, b0⟩, by simp [intOf]; omega⟩
        · obtain rfl : t = l.length := by omega
          have hex : l.length = l.length ∨ isRb l l.length = true := Or.inl rfl
          have g2 : decide ((l.length : Int) < (l.length : Int)) = false := decide_eq_false (by omega)
          go_wp2
          refine wp_region_quiet_lit (by kernel_rfl) (by kernel_rfl) ?_
          repeat go_big_quiet_step ((fail))
          refine wpQuiet_nil ?_
          rintro _ ⟨nq, rfl⟩
          replace q0 := q0.drewN nq
          replace b0 := b0.trans (below_drewN nq)
          clear g2
          generalize wr.drewN nq = V at *
          have q1 : Row V w.heap.size 3 (iv (rcN l k)) := by rw [rcN_rec HK.out]; exact q0
          have HEX := Lib.hid hex
          clear q0 hex
          go_wp2
          go_loopw [6] (fun kv wr => ∃ (j : Nat) (Z : List Int), k ≤ j ∧ j ≤ l.length ∧ kv = .int .i64 j ∧ Hid (Z = if j = l.length then cyS l l.length else rcN l j) ∧ Z.length = l.length ∧ Row wr w.heap.size 3 (iv Z) ∧ Below w.heap.size w wr) (fun kv _ => l.length - (intOf kv).toNat)
          case atStart => exact ⟨k, _, by omega, by omega, rfl, Lib.hid (by rw [if_neg (by omega)]), HRL.out k, q1, b0⟩
          case round =>
            clear q1 b0
            obtain ⟨j, Z, hkj, hjt, rfl, HZZ, hzl, q1, b0⟩ := hrel
            by_cases hj : j < l.length
            · have g5 : decide ((j : Int) < (l.length : Int)) = true := decide_eq_true (by omega)
              have HZ2 : Hid (Z = rcN l j) := Lib.hid (by rw [HZZ.out, if_neg (by omega)])
              obtain ⟨v1, v2⟩ := HV.out j (by omega)
              have dj := HF.out _ b0 j (by omega)
              have dk := HF.out _ b0 k hlt
              have f0 := q1.free ((geti l j).toNat - 1)
              have e0 := ivR q1 (i := (geti l j).toNat - 1) (by omega)
              have HM := Lib.hid ((HG.out j hkj hj).1)
              have HLA := Lib.hid (rcN_last l j)
              obtain ⟨v, hv⟩ : ∃ v, geti l j = v := ⟨_, rfl⟩
              rw [hv] at v1 v2 dj f0 e0 HLA
              rw [hx] at dk HM
              rw [HM.out, ← HZ2.out] at HLA
              by_cases hn : j + 1 < l.length
              · have g6 : decide ((j : Int) + 1 < (l.length : Int)) = true := decide_eq_true (by omega)
                have dn := HF.out _ b0 (j + 1) (by omega)
                have HNX := Lib.hid (rcN_next ((HG.out (j + 1) (by omega) hn).2 (by omega)))
                rw [hv, ← HZ2.out] at HNX
                obtain ⟨y2, hy2⟩ : ∃ y2, geti l (j + 1) = y2 := ⟨_, rfl⟩
                rw [hy2] at dn HNX
                replace dn : wr.cell? ⟨bA, oA + (j + 1), none⟩ = some (.int .i64 y2) := dn
                go_wp2
                refine ⟨⟨j + 1, Z.set (v.toNat - 1) y2, by omega, by omega, rfl, Lib.hid (by rw [if_neg (by omega)]; exact HNX.out), by rw [List.length_set]; exact hzl, ?_, b0.setCell (by dsimp only; omega) _⟩, by simp [intOf]; omega⟩
                have h := q1.set (v.toNat - 1) (.int .i64 y2)
                rw [iv_set] at h
                exact h
              · have g6 : decide ((j : Int) + 1 < (l.length : Int)) = false := decide_eq_false (by omega)
                have e6 : j + 1 = l.length := by omega
                have HE6 := Lib.hid e6
                clear e6
                go_wp2
                refine ⟨⟨j + 1, Z.set (v.toNat - 1) x, by omega, by omega, rfl, Lib.hid (by rw [if_pos HE6.out, HLA.out, HE6.out]), by rw [List.length_set]; exact hzl, ?_, b0.setCell (by dsimp only; omega) _⟩, by simp [intOf]; omega⟩
                have h := q1.set (v.toNat - 1) (.int .i64 x)
                rw [iv_set] at h
                exact h
            · have ej : j = l.length := by omega
              have hZ : Z = cyS l l.length := by rw [HZZ.out, if_pos ej]
              have g5 : decide ((j : Int) < (l.length : Int)) = false := decide_eq_false (by omega)
              rw [hZ] at q1
              clear hZ HZZ hzl ej
              go_wp2
              exact ⟨⟨l.length, by omega, Or.inl rfl, rfl, q1, b0⟩, by simp [intOf]; omega⟩
    · obtain rfl : k = l.length := by omega
      go_wp2
      go_ret
      exact ⟨_, rfl, row_own q0 (HL.out _) (by omega), b0⟩
end Go.Proofs.Ytheblebfeinjjaa
/- OrderTurned, walked. -/
namespace Go.Proofs.Ytheblebfeinjjaa
open Go.RowKit
set_option maxHeartbeats 1000000
set_option maxRecDepth 100000
theorem OrderTurned_any (A : Option Addr) (c : Nat) (a : List Int) (w : World) (hx : a.length ≤ c) (hc : c ≤ maxLen) (ha : IntsAt w A a) :
    Calls Try.prog 5 #[.slice A a.length c] w fun e w' => e = .returned (.bool true) ∧ Below w.heap.size w w' := by
  have HT := Lib.hid (list_copy_any A c a w hx hc ha)
  have hO : (a.take 13).length ≤ 13 := by rw [List.length_take]; omega
  clear ha hx hc
  generalize a.take 13 = O at *
  cases hok : okO O
  · have HC0 := Lib.hid (fun A c w hw => refOrder_any A c O w (by omega) hw)
    rw [hok] at HC0
    have HC1 := Lib.hid (fun A c w hw => Second_no A c O w (by omega) hok hw)
    have HC2 := Lib.hid (fun A c w hw => First_no A c O w (by omega) hok hw)
    have HC3 := Lib.hid (fun A c w hw => Written_no A c O w (by omega) hok hw)
    have HC4 := Lib.hid (fun A c w hw => Cycled_no A c O w (by omega) hok hw)
    go_enter Try.func5, Try.ntmps5
    go_wp2_with (go_at_call 15; fail)
    refine HT.out.mono ?_
    rintro e w1 ⟨v1, n1, rfl, o1, b1⟩
    obtain ⟨A1, c1, rfl, hn0, -, i1⟩ := own_intsI o1
    subst hn0
    have I1 := Lib.hid i1
    clear HT o1 i1
    go_wp2_with (go_at_call 29; fail)
    refine (HC1.out _ _ _ I1.out).mono ?_
    rintro e x3 ⟨rfl, z3⟩
    replace I1 := Lib.hid (I1.out.below z3)
    replace b1 := b1.trans (z3.mono b1.size)
    clear HC1 z3
    go_wp2_with (go_at_call 30; fail)
    refine (HC2.out _ _ _ I1.out).mono ?_
    rintro e x4 ⟨rfl, z3⟩
    replace I1 := Lib.hid (I1.out.below z3)
    replace b1 := b1.trans (z3.mono b1.size)
    clear HC2 z3
    go_wp2_with (go_at_call 31; fail)
    refine (HC3.out _ _ _ I1.out).mono ?_
    rintro e x5 ⟨rfl, z3⟩
    replace I1 := Lib.hid (I1.out.below z3)
    replace b1 := b1.trans (z3.mono b1.size)
    clear HC3 z3
    go_wp2_with (go_at_call 32; fail)
    refine (HC4.out _ _ _ I1.out).mono ?_
    rintro e x6 ⟨rfl, z3⟩
    replace I1 := Lib.hid (I1.out.below z3)
    replace b1 := b1.trans (z3.mono b1.size)
    clear HC4 z3
    go_wp2_with (go_at_call 20; fail)
    refine (HC0.out _ _ _ I1.out).mono ?_
    rintro e x7 ⟨rfl, z3⟩
    replace I1 := Lib.hid (I1.out.below z3)
    replace b1 := b1.trans (z3.mono b1.size)
    clear HC0 z3
    clear I1
    go_wp2_with (go_at_call 21; fail)
    refine (awake_any _).mono ?_
    rintro e y3 ⟨rfl, b16⟩
    replace b1 := b1.trans (b16.mono b1.size)
    clear b16
    go_wp2
    go_ret
    exact ⟨rfl, b1⟩
  · have ho := okO_iff.1 hok
    have hO12 := ho.le
    have HC0 := Lib.hid (fun A c w hw => refOrder_any A c O w (by omega) hw)
    rw [hok] at HC0
    have HL1 : Hid ((sec O).length = O.length) := Lib.hid (sec_len O)
    have HL2 : Hid ((fst' O).length = O.length) := Lib.hid (fstN_len O _)
    have HL3 : Hid ((wr' O).length = O.length) := Lib.hid (wr_len ho)
    have HL4 : Hid ((cyd O).length = O.length) := Lib.hid (cyd_len O)
    have HC1 := fun A c w hw => Second_yes A c O w ho hw
    have HC2 := fun A c w hw => First_yes A c O w ho hw
    have HC3 := fun A c w hw => Written_yes A c O w ho hw
    have HC4 := fun A c w hw => Cycled_yes A c O w ho hw
    have HR1 := Lib.hid (fun A c w hw => refSecond_any A c O w (by omega) hw)
    have HR2 := Lib.hid (fun A c w hc hw => refFirst_any A c O w (by omega) hc hw)
    have HR3 := fun A c w hw => refWritten_any A c O w ho hw
    have HR4 := Lib.hid (fun A c w hw => refCycled_any A c O w ho hw)
    rw [HL1.out] at HC1
    rw [HL2.out] at HC2
    rw [HL3.out] at HC3 HR3
    rw [HL4.out] at HC4
    replace HC1 := Lib.hid HC1
    replace HC2 := Lib.hid HC2
    replace HC3 := Lib.hid HC3
    replace HC4 := Lib.hid HC4
    replace HR3 := Lib.hid HR3
    clear hok ho
    generalize sec O = S1 at *
    generalize fst' O = S2 at *
    generalize wr' O = S3 at *
    generalize cyd O = S4 at *
    go_enter Try.func5, Try.ntmps5
    go_wp2_with (go_at_call 15; fail)
    refine HT.out.mono ?_
    rintro e w1 ⟨v1, n1, rfl, o1, b1⟩
    obtain ⟨A1, c1, rfl, hn0, hc1, i1⟩ := own_intsI o1
    subst hn0
    have I1 := Lib.hid i1
    clear HT o1 i1
    go_wp2_with (go_at_call 29; fail)
    refine (HC1.out _ _ _ I1.out).mono ?_
    rintro e x3 ⟨B1, d1, rfl, o3, z3⟩
    obtain ⟨A4', c4', e4, -, -, i4⟩ := own_intsI o3
    rw [HL1.out] at e4
    injection e4 with e41 e42 e43
    subst e41 e43
    have J1 := Lib.hid i4
    replace I1 := Lib.hid (I1.out.below z3)
    replace b1 := b1.trans (z3.mono b1.size)
    clear HC1 z3 o3 i4 e42
    go_wp2_with (go_at_call 30; fail)
    refine (HC2.out _ _ _ I1.out).mono ?_
    rintro e x4 ⟨B2, d2, rfl, o3, z3⟩
    obtain ⟨A4', c4', e4, -, -, i4⟩ := own_intsI o3
    rw [HL2.out] at e4
    injection e4 with e41 e42 e43
    subst e41 e43
    have J2 := Lib.hid i4
    replace J1 := Lib.hid (J1.out.below z3)
    replace I1 := Lib.hid (I1.out.below z3)
    replace b1 := b1.trans (z3.mono b1.size)
    clear HC2 z3 o3 i4 e42
    go_wp2_with (go_at_call 31; fail)
    refine (HC3.out _ _ _ I1.out).mono ?_
    rintro e x5 ⟨B3, d3, rfl, o3, z3⟩
    obtain ⟨A4', c4', e4, -, -, i4⟩ := own_intsI o3
    rw [HL3.out] at e4
    injection e4 with e41 e42 e43
    subst e41 e43
    have J3 := Lib.hid i4
    replace J1 := Lib.hid (J1.out.below z3)
    replace J2 := Lib.hid (J2.out.below z3)
    replace I1 := Lib.hid (I1.out.below z3)
    replace b1 := b1.trans (z3.mono b1.size)
    clear HC3 z3 o3 i4 e42
    go_wp2_with (go_at_call 32; fail)
    refine (HC4.out _ _ _ I1.out).mono ?_
    rintro e x6 ⟨B4, d4, rfl, o3, z3⟩
    obtain ⟨A4', c4', e4, -, -, i4⟩ := own_intsI o3
    rw [HL4.out] at e4
    injection e4 with e41 e42 e43
    subst e41 e43
    have J4 := Lib.hid i4
    replace J1 := Lib.hid (J1.out.below z3)
    replace J2 := Lib.hid (J2.out.below z3)
    replace J3 := Lib.hid (J3.out.below z3)
    replace I1 := Lib.hid (I1.out.below z3)
    replace b1 := b1.trans (z3.mono b1.size)
    clear HC4 z3 o3 i4 e42
    go_wp2_with (go_at_call 20; fail)
    refine (HC0.out _ _ _ I1.out).mono ?_
    rintro e x7 ⟨rfl, z7⟩
    replace I1 := Lib.hid (I1.out.below z7)
    replace J1 := Lib.hid (J1.out.below z7)
    replace J2 := Lib.hid (J2.out.below z7)
    replace J3 := Lib.hid (J3.out.below z7)
    replace J4 := Lib.hid (J4.out.below z7)
    replace b1 := b1.trans (z7.mono b1.size)
    clear HC0 z7
    go_wp2_with (go_at_call 33; fail)
    refine (HR1.out _ _ _ I1.out).mono ?_
    rintro e x10 ⟨v, rfl, o9, z9⟩
    obtain ⟨A9, c9, e9, -, -, i9⟩ := own_intsI o9
    rw [HL1.out] at e9
    subst e9
    have I9 := Lib.hid i9
    replace I1 := Lib.hid (I1.out.below z9)
    replace J1 := Lib.hid (J1.out.below z9)
    replace J2 := Lib.hid (J2.out.below z9)
    replace J3 := Lib.hid (J3.out.below z9)
    replace J4 := Lib.hid (J4.out.below z9)
    replace b1 := b1.trans (z9.mono b1.size)
    clear HR1 z9 o9 i9
    go_wp2_with (go_at_call 23; fail)
    refine (ints_yes B1 A9 d1 c9 S1 O.length x10 HL1.out (by omega) J1.out I9.out).mono ?_
    rintro e y1 ⟨rfl, n1, rfl⟩
    replace I1 := Lib.hid (I1.out.drewN n1)
    replace J2 := Lib.hid (J2.out.drewN n1)
    replace J3 := Lib.hid (J3.out.drewN n1)
    replace J4 := Lib.hid (J4.out.drewN n1)
    replace b1 := b1.trans (below_drewN n1)
    clear J1 I9
    generalize x10.drewN n1 = W1 at *
    go_wp2_with (go_at_call 34; fail)
    refine (HR2.out _ _ _ hc1 I1.out).mono ?_
    rintro e x11 ⟨v, rfl, o9, z9⟩
    obtain ⟨A9, c9, e9, -, -, i9⟩ := own_intsI o9
    rw [HL2.out] at e9
    subst e9
    have I9 := Lib.hid i9
    replace I1 := Lib.hid (I1.out.below z9)
    replace J2 := Lib.hid (J2.out.below z9)
    replace J3 := Lib.hid (J3.out.below z9)
    replace J4 := Lib.hid (J4.out.below z9)
    replace b1 := b1.trans (z9.mono b1.size)
    clear HR2 z9 o9 i9
    go_wp2_with (go_at_call 23; fail)
    refine (ints_yes B2 A9 d2 c9 S2 O.length x11 HL2.out (by omega) J2.out I9.out).mono ?_
    rintro e y1 ⟨rfl, n1, rfl⟩
    replace I1 := Lib.hid (I1.out.drewN n1)
    replace J3 := Lib.hid (J3.out.drewN n1)
    replace J4 := Lib.hid (J4.out.drewN n1)
    replace b1 := b1.trans (below_drewN n1)
    clear J2 I9
    generalize x11.drewN n1 = W2 at *
    go_wp2_with (go_at_call 35; fail)
    refine (HR3.out _ _ _ I1.out).mono ?_
    rintro e x12 ⟨v, rfl, o9, z9⟩
    obtain ⟨A9, c9, e9, -, -, i9⟩ := own_intsI o9
    rw [HL3.out] at e9
    subst e9
    have I9 := Lib.hid i9
    replace I1 := Lib.hid (I1.out.below z9)
    replace J3 := Lib.hid (J3.out.below z9)
    replace J4 := Lib.hid (J4.out.below z9)
    replace b1 := b1.trans (z9.mono b1.size)
    clear HR3 z9 o9 i9
    go_wp2_with (go_at_call 23; fail)
    refine (ints_yes B3 A9 d3 c9 S3 O.length x12 HL3.out (by omega) J3.out I9.out).mono ?_
    rintro e y1 ⟨rfl, n1, rfl⟩
    replace I1 := Lib.hid (I1.out.drewN n1)
    replace J4 := Lib.hid (J4.out.drewN n1)
    replace b1 := b1.trans (below_drewN n1)
    clear J3 I9
    generalize x12.drewN n1 = W3 at *
    go_wp2_with (go_at_call 36; fail)
    refine (HR4.out _ _ _ I1.out).mono ?_
    rintro e x13 ⟨v, rfl, o9, z9⟩
    obtain ⟨A9, c9, e9, -, -, i9⟩ := own_intsI o9
    rw [HL4.out] at e9
    subst e9
    have I9 := Lib.hid i9
    replace I1 := Lib.hid (I1.out.below z9)
    replace J4 := Lib.hid (J4.out.below z9)
    replace b1 := b1.trans (z9.mono b1.size)
    clear HR4 z9 o9 i9
    go_wp2_with (go_at_call 23; fail)
    refine (ints_yes B4 A9 d4 c9 S4 O.length x13 HL4.out (by omega) J4.out I9.out).mono ?_
    rintro e y1 ⟨rfl, n1, rfl⟩
    replace I1 := Lib.hid (I1.out.drewN n1)
    replace b1 := b1.trans (below_drewN n1)
    clear J4 I9
    generalize x13.drewN n1 = W4 at *
    go_wp2_with (go_at_call 21; refine (awake_any _).mono ?_; rintro e y3 ⟨rfl, b16⟩; replace b1 := b1.trans (b16.mono b1.size); clear b16)
    go_ret
    exact ⟨rfl, b1⟩
end Go.Proofs.Ytheblebfeinjjaa
/- OrderTurned returns true for every input: on an order Second, First, Written and Cycled answer as a plain reading of their definitions; elsewhere nothing with Bad. No condition. -/
namespace Go.Proofs.Ytheblebfeinjjaa
open Go.ChangeShapes Go.WideShapes Go.ChangeAt Go.RowKit
set_option maxRecDepth 100000
theorem orderTurned_lifted (os : Os) (started : os.Started) (H : Type) (enc : TypeId × Value → H) :
    ReturnsInHanded {} Try.checked os 5 .any (Rows.orderTurnedSpec.pre6 enc Try.prog Try.f5 Rows.orderTurnedRow.domain false) (Rows.orderTurnedSpec.post enc Try.prog Try.f5 false true false false) := by
  refine returnsInHanded_of_change (C := Try.checked) Try.own started (by kernel_rfl) Try.func5
    (ChangeSpec.witness6 (enc := enc) (C := Try.checked) false ⟨#[], #[.slice none 0 0], []⟩ 8 (by kernel_rfl) (by kernel_rfl) (by kernel_rfl) (by kernel_rfl)) ?_
  intro W base args ds gs before hval0 hW hcnd _
  have hval : ∀ (j : Nat) t v, Try.f5.params[j]? = some t → args[j]? = some v → Value.okWide Try.prog W .any base t v := hval0
  have hW' := hW
  obtain ⟨p, q, hA0, hV, rfl, hfz, hnd⟩ := hW
  have hA : DataW.TrodAll enc Try.prog W 0 (fun _ => true) true Try.f5.params.toList args.toList ds p := hA0
  rw [Try.params5] at hA hval
  obtain ⟨v0, d0, rfl, rfl, h0⟩ := trodAll_one hA
  obtain ⟨rfl, rfl⟩ := trodVars_none hV
  obtain ⟨A0, c0, xs0, rfl, hx0, hc0, ha0⟩ := open_list Try.underlying22 (hval 0 22 v0 rfl rfl) h0
  refine (OrderTurned_any A0 c0 xs0 W hx0 hc0 ha0).mono fun e W' ⟨he, hg⟩ => ?_
  subst he
  exact ⟨_, rfl, law_post Try.laidOut Try.underlying4 rfl rfl (by rw [Try.params5]; exact of_decide_eq_true (by kernel_rfl)) hW' rfl rfl rfl hg⟩
theorem orderTurned_holds : Rows.OrderTurnedSaid :=
  OpenClaim.holds_of_wide 5 Try.f5 rfl rfl rfl rfl rfl rfl rfl ⟨rfl, rfl, rfl, rfl, rfl⟩ rfl rfl rfl rfl rfl (by kernel_rfl) Try.func5 (by kernel_rfl)
    (of_decide_eq_true (by kernel_rfl)) (by unfold Func.isWrapper; first | (rw [if_pos (by decide +kernel)]; kernel_rfl) | (rw [if_neg (by decide +kernel)]; exact ⟨rfl, rfl⟩))
    (fun os started H enc _ => orderTurned_lifted os started H enc)
#print axioms orderTurned_holds
end Go.Proofs.Ytheblebfeinjjaa
