/- The second order. -/
import Derived.Test.YtheblebfeinjjaaNP
namespace Go.Proofs.Ytheblebfeinjjaa
open Go.RowKit
set_option maxHeartbeats 1000000
set_option maxRecDepth 100000
theorem secN_one (l : List Int) : secN l 1 = [geti l 0] := rfl
theorem pad_drop {l : List Int} {k : Nat} (h : k < 12) (hl : l.length ≤ 12) : (pad l).drop k = geti l k :: (pad l).drop (k + 1) := by
  rw [drop_cons (by rw [pad_len hl]; omega), pad_at]
theorem pad_end {l S : List Int} (h : S.length = l.length) : S ++ (pad l).drop l.length = pad S := by
  unfold pad
  rw [List.drop_append, List.drop_length, Nat.sub_self, List.drop_zero, List.nil_append, h]
theorem second_any (l : List Int) (w : World) (h : IsO l) : Calls Try.prog 60 #[arr l] w fun e w' => e = .returned (arr (sec l)) ∧ Below w.heap.size w w' := by
  have hle := h.le
  have hpl := pad_len hle
  have r0 : Row ((w.alloc (.cells (iv (pad l)).toArray 50)).alloc (.cells Z12.toArray 50)) w.heap.size 50 (iv (pad l)) := (row_new rfl).alloc _
  have q0 : Row ((w.alloc (.cells (iv (pad l)).toArray 50)).alloc (.cells Z12.toArray 50)) (w.heap.size + 1) 50 Z12 := row_new (by simp)
  have b0 : Below w.heap.size w ((w.alloc (.cells (iv (pad l)).toArray 50)).alloc (.cells Z12.toArray 50)) := by (repeat (first | exact Below.refl _ _ | assumption | (refine Below.setCell ?_ (by first | exact Nat.le_refl _ | omega | (simp; done) | (simp; omega)) _) | (refine Below.trans ?_ (below_drewN _)) | (refine Below.drew ?_) | (refine Below.alloc ?_ (by first | exact Nat.le_refl _ | omega | (simp; done) | (simp; omega)) _) | (refine below_row ?_ (by first | exact Nat.le_refl _ | omega | (simp; done) | (simp; omega)) _)))
  have hi := info50_iv hpl
  have HL := Lib.hid (fun w => length_any l w h)
  have hsp : (pad (sec l)).length = 12 := pad_len (by rw [sec_len]; exact hle)
  have his := info50_iv hsp
  unfold arr at HL ⊢
  by_cases h0 : l.length = 0
  · have e0 : l = [] := List.eq_nil_of_length_eq_zero h0
    subst e0
    have es : sec [] = [] := rfl
    rw [es] at his hsp ⊢
    clear h h0
    go_enter Try.func60, Try.ntmps60
    go_wp2_with (first
      | ((with_reducible refine (?_ : wpList _ _ _ (Oper.mk (some 4) _ _ _ _ _ :: _) _ _)); refine wpList_load_row rfl 50 (.tmp 1) rfl w.heap.size rfl 50 (iv (pad [])).toArray (0, 0) _ (row_heap r0) Try.underlying50 rfl hi ?_)
      | (go_at_call 72; refine (HL.out _).mono ?_; rintro e w2 ⟨rfl, b2⟩; replace r0 := r0.below b2; replace q0 := q0.below b2; replace b0 := b0.trans (b2.mono b0.size)))
    go_loopw [7] (fun i wr => i = .int .i64 0 ∧ Row wr w.heap.size 50 (iv (pad [])) ∧ Row wr (w.heap.size + 1) 50 Z12 ∧ Below w.heap.size w wr) (fun i _ => 0)
    case atStart => exact ⟨rfl, r0, q0, b0⟩
    case round =>
      clear r0 q0 b0
      obtain ⟨rfl, r0, q0, b0⟩ := hrel
      go_wp2_with (first
        | ((with_reducible refine (?_ : wpList _ _ _ (Oper.mk (some 19) _ _ _ _ _ :: _) _ _)); refine wpList_load_row rfl 50 (.tmp 1) rfl w.heap.size rfl 50 (iv (pad [])).toArray (0, 0) _ (row_heap r0) Try.underlying50 rfl hi ?_)
        | ((with_reducible refine (?_ : wpList _ _ _ (Oper.mk none _ _ _ _ _ :: _) _ _)); refine wpList_store_row rfl 50 (.tmp 2) (.tmp 19) rfl (w.heap.size + 1) (iv (pad [])).toArray rfl rfl 50 Z12.toArray (row_heap q0) hi (size50_Z hpl) (iv_all _) ?_))
      exact bodyPost_ret (v := .agg (iv (pad [])).toArray) (res1 Try.results60 rfl (cell50_res hpl (q0.row (iv (pad []))))) rfl ⟨rfl, below_row b0 (by omega) _⟩
  · have HS0 : Hid (pad l = secN l 1 ++ (pad l).drop 1) := Lib.hid (by
      have h := pad_drop (l := l) (k := 0) (by omega) hle
      rw [List.drop_zero] at h
      exact h)
    have HSE : Hid (secN l l.length ++ (pad l).drop l.length = pad (sec l)) := Lib.hid (pad_end (sec_len l))
    have HST : Hid (∀ k, k + 1 < l.length → rot (geti l (k + 1)) (secN l (k + 1)) ++ (pad l).drop (k + 1) = secN l (k + 2) ++ (pad l).drop (k + 2)) := Lib.hid (fun k hk => by
      rw [pad_drop (by omega) hle]
      show _ = (rot (geti l (k + 1)) (secN l (k + 1)) ++ [geti l (k + 1)]) ++ _
      rw [List.append_assoc]; rfl)
    have HSL : Hid (∀ k, k < l.length → (secN l (k + 1)).length = k + 1) := Lib.hid (fun k hk => secN_len l (by omega))
    have HLT := Lib.hid (fun (k : Nat) (hk : k + 1 < l.length) (W : World) (hr : Row W w.heap.size 50 (iv (secN l (k + 1) ++ (pad l).drop (k + 1)))) => lastTo_any w.heap.size (geti l (k + 1)) (secN l (k + 1)) ((pad l).drop (k + 1)) W (by rw [HSL.out k (by omega)]; omega) (by rw [List.length_append, HSL.out k (by omega), List.length_drop, hpl]; omega) (by rw [HSL.out k (by omega)]; omega) hr)
    have HCE : Hid (∀ (k : Nat) (W : World), k + 1 < l.length → Row W w.heap.size 50 (iv (secN l (k + 1) ++ (pad l).drop (k + 1))) → W.cell? ⟨w.heap.size, k + 1, none⟩ = some (.int .i64 (geti l (k + 1)))) := Lib.hid (fun k W hk hr => by
      have hs := HSL.out k (by omega)
      rw [ivR hr (by rw [List.length_append, hs, List.length_drop, hpl]; omega), geti_app, if_neg (by omega), hs, Nat.sub_self, pad_drop (by omega) hle]; rfl)
    go_enter Try.func60, Try.ntmps60
    go_wp2_with (first
      | ((with_reducible refine (?_ : wpList _ _ _ (Oper.mk (some 4) _ _ _ _ _ :: _) _ _)); refine wpList_load_row rfl 50 (.tmp 1) rfl w.heap.size rfl 50 (iv (pad l)).toArray (0, 0) _ (row_heap r0) Try.underlying50 rfl hi ?_)
      | (go_at_call 72; refine (HL.out _).mono ?_; rintro e w2 ⟨rfl, b2⟩; replace r0 := r0.below b2; replace q0 := q0.below b2; replace b0 := b0.trans (b2.mono b0.size)))
    rw [HS0.out] at r0
    go_loopw [7] (fun i wr => ∃ k : Nat, k < l.length ∧ i = .int .i64 k ∧ Row wr w.heap.size 50 (iv (secN l (k + 1) ++ (pad l).drop (k + 1))) ∧ Row wr (w.heap.size + 1) 50 Z12 ∧ Below w.heap.size w wr) (fun i _ => l.length - (intOf i).toNat)
    case atStart => exact ⟨0, by omega, rfl, r0, q0, b0⟩
    case round =>
      clear r0 q0 b0 h
      obtain ⟨k, hk, rfl, r0, q0, b0⟩ := hrel
      by_cases hlt : k + 1 < l.length
      · have g1 : decide ((k : Int) < (l.length : Int) - 1) = true := decide_eq_true (by omega)
        have hsl : ∀ w' : World, (Instr.sliceAt 50 (.pointer (some ⟨w.heap.size, 0, none⟩)) none (some (.int .i64 ((k : Int) + 1))) none).run Try.prog w' = .ok (.slice (some ⟨w.heap.size, 0, none⟩) (k + 1) 12) w' := fun w' => slice50_h (b := w.heap.size) (h := k + 1) (by omega)
        have hce := HCE.out k wr hlt r0
        have HC := Lib.hid (fun n => HLT.out k hlt (wr.drewN n) (r0.drewN n))
        rw [HSL.out k (by omega)] at HC
        have HS := Lib.hid (HST.out k hlt)
        rw [HS.out] at HC
        generalize geti l (k + 1) = a at *
        go_wp2
        refine wp_region_quiet_tail 7 (by kernel_rfl) (by kernel_rfl) ?_
        simp only [List.take_succ_cons, List.take_zero, List.drop_succ_cons, List.drop_zero]
        repeat go_big_quiet_step ((fail))
        refine wpQuiet_nil ?_
        rintro _ ⟨nq, rfl⟩
        have q1 := q0.drewN nq
        have b1 := b0.trans (below_drewN nq)
        go_wp2_with (go_at_call 75; refine (HC.out nq).mono ?_; rintro e w3 ⟨rfl, r3, g3⟩; replace q1 := q1.grown g3 (by intro e; injection e with e; omega); replace b1 := b1.grown g3 b1.size (fun k e => by injection e with e; omega))
        go_roundw
        case rel => exact ⟨k + 1, by omega, by go_num, r3, q1, b1⟩
        case measure => simp [intOf]; omega
      · have hkl : k + 1 = l.length := by omega
        have g1 : decide ((k : Int) < (l.length : Int) - 1) = false := decide_eq_false (by omega)
        rw [hkl, HSE.out] at r0
        clear hkl
        go_wp2_with (first
          | ((with_reducible refine (?_ : wpList _ _ _ (Oper.mk (some 19) _ _ _ _ _ :: _) _ _)); refine wpList_load_row rfl 50 (.tmp 1) rfl w.heap.size rfl 50 (iv (pad (sec l))).toArray (0, 0) _ (row_heap r0) Try.underlying50 rfl his ?_)
          | ((with_reducible refine (?_ : wpList _ _ _ (Oper.mk none _ _ _ _ _ :: _) _ _)); refine wpList_store_row rfl 50 (.tmp 2) (.tmp 19) rfl (w.heap.size + 1) (iv (pad (sec l))).toArray rfl rfl 50 Z12.toArray (row_heap q0) his (size50_Z hsp) (iv_all _) ?_))
        exact bodyPost_ret (v := .agg (iv (pad (sec l))).toArray) (res1 Try.results60 rfl (cell50_res hsp (q0.row (iv (pad (sec l)))))) rfl ⟨rfl, below_row b0 (by omega) _⟩
end Go.Proofs.Ytheblebfeinjjaa
