/- The cycled order. -/
import Derived.Test.YtheblebfeinjjaaQC
import Derived.Test.YtheblebfeinjjaaPE
import Derived.Test.YtheblebfeinjjaaNW
/- The order of the written cycles, walked. -/
namespace Go.Proofs.Ytheblebfeinjjaa
open Go.RowKit
set_option maxHeartbeats 1000000
set_option maxRecDepth 100000
theorem mxN_bound {l : List Int} (h : IsO l) {k : Nat} (hk : k < l.length) : 1 ≤ mxN l k ∧ mxN l k ≤ l.length := by
  obtain ⟨i, hi, e⟩ := mxN_is l k
  rw [← e]
  exact ⟨h.lo i (by omega), h.hi i (by omega)⟩
/-- The greatest number that has been seen. -/
def gtN (l : List Int) : Nat → Int
  | 0 => 0
  | k + 1 => mxN l k
theorem gtN_rec {l : List Int} {k : Nat} (h : isRb l k = false) : gtN l k = mxN l k := by
  cases k with
  | zero => rw [isRb_zero] at h; cases h
  | succ k => exact (mxN_rec h).symm
theorem cycled_any (l : List Int) (w : World) (h : IsO l) : Calls Try.prog 63 #[arr l] w fun e w' => e = .returned (arr (cyd l)) ∧ Below w.heap.size w w' := by
  have hle := h.le
  have hpl := pad_len hle
  have r0 : Row (((w.alloc (.cells (iv (pad l)).toArray 50)).alloc (.cells Z12.toArray 50)).alloc (.cells Z12.toArray 50)) w.heap.size 50 (iv (pad l)) := ((row_new rfl).alloc _).alloc _
  have q0 : Row (((w.alloc (.cells (iv (pad l)).toArray 50)).alloc (.cells Z12.toArray 50)).alloc (.cells Z12.toArray 50)) (w.heap.size + 1) 50 Z12 := (row_new (by simp)).alloc _
  have t0 : Row (((w.alloc (.cells (iv (pad l)).toArray 50)).alloc (.cells Z12.toArray 50)).alloc (.cells Z12.toArray 50)) (w.heap.size + 1 + 1) 50 (iv (pad (cyS l 0))) := by
    rw [show cyS l 0 = List.replicate l.length 0 from rfl, pad_zeros hle]; exact row_new (by simp)
  have b0 : Below w.heap.size w (((w.alloc (.cells (iv (pad l)).toArray 50)).alloc (.cells Z12.toArray 50)).alloc (.cells Z12.toArray 50)) := by (repeat (first | exact Below.refl _ _ | assumption | (refine Below.setCell ?_ (by first | exact Nat.le_refl _ | omega | (simp; done) | (simp; omega)) _) | (refine Below.trans ?_ (below_drewN _)) | (refine Below.drew ?_) | (refine Below.alloc ?_ (by first | exact Nat.le_refl _ | omega | (simp; done) | (simp; omega)) _) | (refine below_row ?_ (by first | exact Nat.le_refl _ | omega | (simp; done) | (simp; omega)) _)))
  have hi := info50_iv hpl
  have HL := Lib.hid (fun w => length_any l w h)
  have HV := Lib.hid (fun (k : Nat) (hk : k < l.length) => (⟨h.lo k hk, h.hi k hk⟩ : 1 ≤ geti l k ∧ geti l k ≤ l.length))
  have HM := Lib.hid (fun (k : Nat) (hk : k < l.length) => mxN_bound h hk)
  have HR := Lib.hid (fun (k : Nat) w (hk : k < l.length) => isRecord_any l k w hle hk)
  have hwp : (pad (cyd l)).length = 12 := pad_len (h.cyd).le
  have hiw := info50_iv hwp
  have HP : Hid (∀ k, (pad (cyS l k)).length = 12) := Lib.hid (fun k => pad_len (by rw [cyS_len]; exact hle))
  have HPS : Hid (∀ (q : List Int) (i : Nat) (x : Int), q.length = l.length → i < l.length → (pad q).set i x = pad (q.set i x)) := Lib.hid (fun q i x hq hi => pad_sets (by omega))
  have HYL : Hid (∀ k, (cyS l k).length = l.length) := Lib.hid (cyS_len l)
  have HST : Hid (∀ k, cyS l (k + 1) = (if isRb l k then cyS l k else (cyS l k).set ((geti l (k - 1)).toNat - 1) (geti l k)).set ((geti l k).toNat - 1) (mxN l k)) := Lib.hid (fun k => rfl)
  have HGR : Hid (∀ k, isRb l k = false → gtN l k = mxN l k ∧ 0 < k) := Lib.hid (fun k hk => ⟨gtN_rec hk, by
    rcases Nat.eq_zero_or_pos k with e | e
    · subst e; rw [isRb_zero] at hk; cases hk
    · exact e⟩)
  have HNE : Hid (∀ k, 0 < k → k < l.length → ¬ (geti l (k - 1)).toNat - 1 = (geti l k).toNat - 1) := Lib.hid (fun k h0 hk e => by
    have := h.place (i := k - 1) (j := k) (by omega) hk e
    omega)
  have HGY : Hid (∀ k, isRb l k = true → mxN l k = geti l k) := Lib.hid (fun k hk => isRb_iff.1 hk)
  unfold arr at HL HR ⊢
  clear h
  go_enter Try.func63, Try.ntmps63
  go_wp2_with (first
    | (refine wpList_load_row rfl 50 (.tmp 1) rfl w.heap.size rfl 50 (iv (pad l)).toArray (0, 0) _ (row_heap r0) Try.underlying50 rfl hi ?_)
    | (go_at_call 72; refine (HL.out _).mono ?_; rintro e w2 ⟨rfl, b2⟩; replace r0 := r0.below b2; replace q0 := q0.below b2; replace t0 := t0.below b2; replace b0 := b0.trans (b2.mono b0.size)))
  go_loopw [4, 8] (fun m i wr => ∃ k : Nat, k ≤ l.length ∧ i = .int .i64 k ∧ m = .int .i64 (gtN l k) ∧ Row wr (w.heap.size + 1 + 1) 50 (iv (pad (cyS l k))) ∧ Row wr w.heap.size 50 (iv (pad l)) ∧ Row wr (w.heap.size + 1) 50 Z12 ∧ Below w.heap.size w wr) (fun _ i _ => l.length - (intOf i).toNat)
  case atStart => exact ⟨0, by omega, rfl, rfl, t0, r0, q0, b0⟩
  case round =>
    clear r0 q0 b0 t0
    obtain ⟨k, hk, rfl, rfl, t0, r0, q0, b0⟩ := hrel
    by_cases hlt : k < l.length
    · obtain ⟨v1, v2⟩ := HV.out k hlt
      obtain ⟨m1, m2⟩ := HM.out k hlt
      have HRK := Lib.hid (fun w => HR.out k w hlt)
      have HS := Lib.hid (HST.out k)
      have HG : Hid (gtN l (k + 1) = mxN l k) := Lib.hid rfl
      have hyl := HYL.out k
      cases hr : isRb l k
      · obtain ⟨hg, hk0⟩ := HGR.out k hr
        obtain ⟨v3, v4⟩ := HV.out (k - 1) (by omega)
        have hki : (k : Int) - 1 = ((k - 1 : Nat) : Int) := by omega
        have hS1 := HPS.out (cyS l k) ((geti l (k - 1)).toNat - 1) (geti l k) hyl (by omega)
        have hS2 := HPS.out ((cyS l k).set ((geti l (k - 1)).toNat - 1) (geti l k)) ((geti l k).toNat - 1) (mxN l k) (by rw [List.length_set]; exact hyl) (by omega)
        rw [hr] at HRK HS
        have HS3 : Hid (cyS l (k + 1) = ((cyS l k).set ((geti l (k - 1)).toNat - 1) (geti l k)).set ((geti l k).toNat - 1) (mxN l k)) := HS
        rw [← HS3.out] at hS2
        have HS1 := Lib.hid hS1
        have HS2 := Lib.hid hS2
        have hp1 : (pad ((cyS l k).set ((geti l (k - 1)).toNat - 1) (geti l k))).length = 12 := pad_len (by rw [List.length_set]; omega)
        have HP1 := Lib.hid hp1
        have HPK := Lib.hid (HP.out k)
        rw [hg]
        have hne := HNE.out k hk0 hlt
        clear hS1 hS2 HS HS3 hr hg hyl hp1
        have HD0 := Lib.hid (fun (W : World) (h : Row W w.heap.size 50 (iv (pad l))) => (by have := ivR h (i := k) (by omega); rwa [pad_at] at this : W.cell? ⟨w.heap.size, k, none⟩ = some (.int .i64 (geti l k))))
        have HD1 := Lib.hid (fun (W : World) (h : Row W w.heap.size 50 (iv (pad l))) => (by have := ivR h (i := k - 1) (by omega); rwa [pad_at] at this : W.cell? ⟨w.heap.size, k - 1, none⟩ = some (.int .i64 (geti l (k - 1)))))
        generalize (cyS l k).set ((geti l (k - 1)).toNat - 1) (geti l k) = Q1 at *
        generalize cyS l k = Q0 at *
        generalize geti l (k - 1) = u at *
        generalize geti l k = v at *
        generalize mxN l k = m at *
        go_wp2_with (first
          | ((with_reducible refine (?_ : wpList _ _ _ (Oper.mk (some 11) _ _ _ _ _ :: _) _ _)); refine wpList_load_row rfl 50 (.tmp 1) rfl w.heap.size rfl 50 (iv (pad l)).toArray (0, 0) _ (row_heap r0) Try.underlying50 rfl hi ?_)
          | (go_at_call 79; fail))
        refine (HRK.out _).mono ?_
        rintro e w2 ⟨rfl, b2⟩
        replace r0 := r0.below b2
        replace q0 := q0.below b2
        replace t0 := t0.below b2
        replace b0 := b0.trans (b2.mono b0.size)
        have d0 := HD0.out _ r0
        have d1 := HD1.out _ r0
        go_wp2
        refine wp_region_quiet_tail 9 (by kernel_rfl) (by kernel_rfl) ?_
        simp only [List.take_succ_cons, List.take_zero, List.drop_succ_cons, List.drop_zero]
        repeat go_big_quiet_step ((fail))
        refine wpQuiet_nil ?_
        rintro _ ⟨nq, rfl⟩
        replace r0 := r0.drewN nq
        replace q0 := q0.drewN nq
        replace t0 := t0.drewN nq
        replace b0 := b0.trans (below_drewN nq)
        clear d0 d1
        generalize w2.drewN nq = W at *
        have f0 := t0.free (u.toNat - 1)
        have e0 := ivR t0 (i := u.toNat - 1) (by rw [HPK.out]; omega)
        have e2 := ivR t0 (i := v.toNat - 1) (by rw [HPK.out]; omega)
        have f2 := t0.free (v.toNat - 1)
        have d2 := HD0.out _ r0
        go_wp2
        go_roundw
        case rel =>
          refine ⟨k + 1, by omega, by go_num, by rw [HG.out], ?_, (r0.far (by dsimp only; omega) _).far (by dsimp only; omega) _, (q0.far (by dsimp only; omega) _).far (by dsimp only; omega) _, (b0.setCell (by dsimp only; omega) _).setCell (by dsimp only; omega) _⟩
          have h := (t0.set (u.toNat - 1) (.int .i64 v)).set (v.toNat - 1) (.int .i64 m)
          rw [iv_set, HS1.out, iv_set, HS2.out] at h
          exact h
        case measure => simp [intOf]; omega
      · have hgy := HGY.out k hr
        have hS2 := HPS.out (cyS l k) ((geti l k).toNat - 1) (mxN l k) hyl (by omega)
        rw [hr] at HRK HS
        have HS3 : Hid (cyS l (k + 1) = (cyS l k).set ((geti l k).toNat - 1) (mxN l k)) := HS
        rw [← HS3.out] at hS2
        rw [hgy] at hS2 HG m1 m2
        have HS2 := Lib.hid hS2
        have HPK := Lib.hid (HP.out k)
        have HD0 := Lib.hid (fun (W : World) (h : Row W w.heap.size 50 (iv (pad l))) => (by have := ivR h (i := k) (by omega); rwa [pad_at] at this : W.cell? ⟨w.heap.size, k, none⟩ = some (.int .i64 (geti l k))))
        clear hS2 HS HS3 hr hyl hgy
        generalize cyS l k = Q0 at *
        generalize geti l k = v at *
        go_wp2_with (first
          | ((with_reducible refine (?_ : wpList _ _ _ (Oper.mk (some 11) _ _ _ _ _ :: _) _ _)); refine wpList_load_row rfl 50 (.tmp 1) rfl w.heap.size rfl 50 (iv (pad l)).toArray (0, 0) _ (row_heap r0) Try.underlying50 rfl hi ?_)
          | (go_at_call 79; fail))
        refine (HRK.out _).mono ?_
        rintro e w2 ⟨rfl, b2⟩
        replace r0 := r0.below b2
        replace q0 := q0.below b2
        replace t0 := t0.below b2
        replace b0 := b0.trans (b2.mono b0.size)
        have d0 := HD0.out _ r0
        have f0 := t0.free (v.toNat - 1)
        have e0 := ivR t0 (i := v.toNat - 1) (by rw [HPK.out]; omega)
        go_wp2
        go_roundw
        case rel =>
          refine ⟨k + 1, by omega, by go_num, by rw [HG.out], ?_, r0.far (by dsimp only; omega) _, q0.far (by dsimp only; omega) _, b0.setCell (by dsimp only; omega) _⟩
          have h := t0.set (v.toNat - 1) (.int .i64 v)
          rw [iv_set, HS2.out] at h
          exact h
        case measure => simp [intOf]; omega
    · obtain rfl : k = l.length := by omega
      go_wp2_with (first
        | ((with_reducible refine (?_ : wpList _ _ _ (Oper.mk (some 33) _ _ _ _ _ :: _) _ _)); refine wpList_load_row rfl 50 (.tmp 3) rfl (w.heap.size + 1 + 1) rfl 50 (iv (pad (cyd l))).toArray (0, 0) _ (row_heap t0) Try.underlying50 rfl hiw ?_)
        | ((with_reducible refine (?_ : wpList _ _ _ (Oper.mk none _ _ _ _ _ :: _) _ _)); refine wpList_store_row rfl 50 (.tmp 2) (.tmp 33) rfl (w.heap.size + 1) (iv (pad (cyd l))).toArray rfl rfl 50 Z12.toArray (row_heap q0) hiw (size50_Z hwp) (iv_all _) ?_))
      exact bodyPost_ret (v := .agg (iv (pad (cyd l))).toArray) (res1 Try.results63 rfl (cell50_res hwp (q0.row (iv (pad (cyd l)))))) rfl ⟨rfl, below_row b0 (by omega) _⟩
end Go.Proofs.Ytheblebfeinjjaa
/- An order is turned: Cycled. -/
namespace Go.Proofs.Ytheblebfeinjjaa
open Go.RowKit
set_option maxHeartbeats 1000000
set_option maxRecDepth 100000
theorem turnedC_yes (A : Option Addr) (c : Nat) (l : List Int) (w : World) (h : IsO l) (ha : IntsAt w A l) :
    Calls Try.prog 51 #[.slice A l.length c, .func (.func 63) #[] #[]] w fun e w' => ∃ v, e = .returned (.tuple #[v, .int .i64 0]) ∧ w'.ownsRow w.heap.size 3 1 v (cyd l).length (iv (cyd l)) ∧ Below w.heap.size w w' := by
  have hpl := pad_len h.le
  have hi := info50_iv hpl
  have HR := Lib.hid (read_yes A c l w h ha)
  have HN := Lib.hid (fun w => cycled_any l w h)
  have HL := Lib.hid (fun w => list_any (cyd l) w h.cyd)
  unfold arr at HR HN HL
  clear h ha
  generalize cyd l = M at *
  generalize pad l = X at *
  generalize pad M = Y at *
  go_enter Try.func51, Try.ntmps51
  go_wp2_with (first
    | (go_at_call 49; refine HR.out.mono ?_; rintro e w1 ⟨rfl, b1⟩; have r1 : Row (w1.alloc (.cells Z12.toArray 50)) w1.heap.size 50 Z12 := row_new rfl; have b0 := b1.alloc b1.size (.cells Z12.toArray 50); have hz1 := b1.size)
    | (with_reducible refine (?_ : wpList _ _ _ (Oper.mk _ (Op.store 50 (.tmp 6) _) _ _ _ _ :: _) _ _); refine wpList_store_row rfl 50 (.tmp 6) (.tmp 11) rfl w1.heap.size (iv X).toArray rfl rfl 50 Z12.toArray (row_heap r1) hi (size50_Z hpl) (iv_all _) ?_; replace r1 := r1.row (iv X); replace b0 := below_row (g := w1.heap.size) b0 hz1 (iv X).toArray; generalize World.setRow (w1.alloc _) _ _ = W at *)
    | ((with_reducible refine (?_ : wpList _ _ _ (Oper.mk (some 16) _ _ _ _ _ :: _) _ _)); refine wpList_load_row rfl 50 (.tmp 6) rfl w1.heap.size rfl 50 (iv X).toArray (0, 0) _ (row_heap r1) Try.underlying50 rfl hi ?_)
    | (go_at_call 63; refine (HN.out _).mono ?_; rintro e w5 ⟨rfl, b5⟩; replace b0 := b0.trans (b5.mono b0.size))
    | (go_at_call 59; fail))
  refine (HL.out _).mono ?_
  rintro e w6 ⟨v, rfl, o6, b6⟩
  have b7 := b0.trans (b6.mono b0.size)
  have o7 := own_mono o6 b0.size
  clear o6 b6
  obtain ⟨A6, c6, rfl, -, -, -⟩ := own_intsI o7
  go_wp2
  go_ret2
  exact ⟨_, rfl, o7, b7⟩
theorem turnedC_no (A : Option Addr) (c : Nat) (l : List Int) (w : World) (hx : l.length ≤ 1000000) (h : okO l = false) (ha : IntsAt w A l) :
    Calls Try.prog 51 #[.slice A l.length c, .func (.func 63) #[] #[]] w fun e w' => e = .returned (.tuple #[.slice none 0 0, .int .i64 2]) ∧ Below w.heap.size w w' := by
  have HR := Lib.hid (read_no A c l w hx h ha)
  clear h ha
  go_enter Try.func51, Try.ntmps51
  go_wp2_with (go_at_call 49; fail)
  refine HR.out.mono ?_
  rintro e w1 ⟨X, hpl, rfl, b1⟩
  have hi := info50_iv hpl
  have r1 : Row (w1.alloc (.cells Z12.toArray 50)) w1.heap.size 50 Z12 := row_new rfl
  have b0 := b1.alloc b1.size (.cells Z12.toArray 50)
  have hz1 := b1.size
  go_wp2_with (with_reducible refine (?_ : wpList _ _ _ (Oper.mk _ (Op.store 50 (.tmp 6) _) _ _ _ _ :: _) _ _); refine wpList_store_row rfl 50 (.tmp 6) (.tmp 11) rfl w1.heap.size (iv X).toArray rfl rfl 50 Z12.toArray (row_heap r1) hi (size50_Z hpl) (iv_all _) ?_; replace b0 := below_row (g := w1.heap.size) b0 hz1 (iv X).toArray; generalize World.setRow (w1.alloc _) _ _ = W at *)
  go_ret2
  exact ⟨rfl, b0⟩
theorem Cycled_yes (A : Option Addr) (c : Nat) (l : List Int) (w : World) (h : IsO l) (ha : IntsAt w A l) :
    Calls Try.prog 32 #[.slice A l.length c] w fun e w' => ∃ A' c', e = .returned (.tuple #[.slice A' (cyd l).length c', .int .i64 0]) ∧ w'.ownsRow w.heap.size 3 1 (.slice A' (cyd l).length c') (cyd l).length (iv (cyd l)) ∧ Below w.heap.size w w' := by
  have HT := Lib.hid (turnedC_yes A c l w h ha)
  clear h ha
  go_enter Try.func32, Try.ntmps32
  go_wp2_with (go_at_call 51; fail)
  refine HT.out.mono ?_
  rintro e w6 ⟨v, rfl, o7, b7⟩
  obtain ⟨A6, c6, rfl, -, -, -⟩ := own_intsI o7
  go_wp2
  go_ret2
  exact ⟨_, _, rfl, o7, b7⟩
theorem Cycled_no (A : Option Addr) (c : Nat) (l : List Int) (w : World) (hx : l.length ≤ 1000000) (h : okO l = false) (ha : IntsAt w A l) :
    Calls Try.prog 32 #[.slice A l.length c] w fun e w' => e = .returned (.tuple #[.slice none 0 0, .int .i64 2]) ∧ Below w.heap.size w w' := by
  have HT := Lib.hid (turnedC_no A c l w hx h ha)
  clear h ha
  go_enter Try.func32, Try.ntmps32
  go_wp2_with (go_at_call 51; refine HT.out.mono ?_; rintro e w6 ⟨rfl, b7⟩)
  go_ret2
  exact ⟨rfl, b7⟩
end Go.Proofs.Ytheblebfeinjjaa
