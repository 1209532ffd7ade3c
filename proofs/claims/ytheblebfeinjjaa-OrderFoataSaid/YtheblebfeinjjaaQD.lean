/- The first order, walked. -/
import Derived.Test.YtheblebfeinjjaaQA
import Derived.Test.YtheblebfeinjjaaNQ
namespace Go.Proofs.Ytheblebfeinjjaa
open Go.RowKit
set_option maxHeartbeats 1000000
set_option maxRecDepth 100000
theorem pad_cut {F : List Int} {m : Nat} (hm : m ≤ F.length) : pad F = F.take m ++ (pad F).drop m := by
  have h := (List.take_append_drop m (pad F)).symm
  have h2 : (pad F).take m = F.take m := by
    unfold pad
    rw [List.take_append_of_le_length hm]
  rwa [h2] at h
theorem fst_next (l : List Int) {k : Nat} (hk : k + 1 < l.length) : btl (geti (fstN l k) (l.length - 1 - k)) ((fstN l k).take (l.length - 1 - k)) ++ (pad (fstN l k)).drop (l.length - 1 - k) = pad (fstN l (k + 1)) := by
  have h1 := fstN_len l k
  have h2 := fstN_len l (k + 1)
  unfold pad
  rw [h1, h2]
  conv => rhs; unfold fstN
  rw [List.append_assoc]
  congr 1
  rw [List.drop_append_of_le_length (by omega)]
theorem first_any (l : List Int) (w : World) (h : IsO l) : Calls Try.prog 61 #[arr l] w fun e w' => e = .returned (arr (fst' l)) ∧ Below w.heap.size w w' := by
  have hle := h.le
  have hpl := pad_len hle
  have r0 : Row ((w.alloc (.cells (iv (pad l)).toArray 50)).alloc (.cells Z12.toArray 50)) w.heap.size 50 (iv (pad l)) := (row_new rfl).alloc _
  have q0 : Row ((w.alloc (.cells (iv (pad l)).toArray 50)).alloc (.cells Z12.toArray 50)) (w.heap.size + 1) 50 Z12 := row_new (by simp)
  have b0 : Below w.heap.size w ((w.alloc (.cells (iv (pad l)).toArray 50)).alloc (.cells Z12.toArray 50)) := by (repeat (first | exact Below.refl _ _ | assumption | (refine Below.setCell ?_ (by first | exact Nat.le_refl _ | omega | (simp; done) | (simp; omega)) _) | (refine Below.trans ?_ (below_drewN _)) | (refine Below.drew ?_) | (refine Below.alloc ?_ (by first | exact Nat.le_refl _ | omega | (simp; done) | (simp; omega)) _) | (refine below_row ?_ (by first | exact Nat.le_refl _ | omega | (simp; done) | (simp; omega)) _)))
  have hi := info50_iv hpl
  have HL := Lib.hid (fun w => length_any l w h)
  have hfl : (fst' l).length = l.length := fstN_len l _
  have hsp : (pad (fst' l)).length = 12 := pad_len (by omega)
  have his := info50_iv hsp
  have HPL : Hid (∀ k, (pad (fstN l k)).length = 12) := Lib.hid (fun k => pad_len (by rw [fstN_len]; exact hle))
  have HCE : Hid (∀ (k : Nat) (W : World), k + 1 < l.length → Row W w.heap.size 50 (iv (pad (fstN l k))) → W.cell? ⟨w.heap.size, l.length - 1 - k, none⟩ = some (.int .i64 (geti (fstN l k) (l.length - 1 - k)))) := Lib.hid (fun k W hk hr => by
    rw [ivR hr (by rw [HPL.out]; omega), pad_at])
  have HLT := Lib.hid (fun (k : Nat) (hk : k + 1 < l.length) (W : World) (hr : Row W w.heap.size 50 (iv (pad (fstN l k)))) => by
    have hm : l.length - 1 - k ≤ (fstN l k).length := by rw [fstN_len]; omega
    have hlen : ((fstN l k).take (l.length - 1 - k)).length = l.length - 1 - k := by rw [List.length_take]; omega
    have e := pad_cut hm
    have hr2 : Row W w.heap.size 50 (iv ((fstN l k).take (l.length - 1 - k) ++ (pad (fstN l k)).drop (l.length - 1 - k))) := by rw [← e]; exact hr
    have hcall := backTo_any w.heap.size (geti (fstN l k) (l.length - 1 - k)) _ _ W (by rw [hlen]; omega) (by rw [← e]; exact HPL.out k) (by rw [hlen]; omega) hr2
    rw [hlen, fst_next l hk] at hcall
    exact hcall)
  have HZ : Hid (fstN l 0 = l) := Lib.hid rfl
  have HE : Hid (fstN l (l.length - 1) = fst' l) := Lib.hid rfl
  unfold arr at HL ⊢
  clear h hfl
  go_enter Try.func61, Try.ntmps61
  go_wp2_with (first
    | (refine wpList_load_row rfl 50 (.tmp 1) rfl w.heap.size rfl 50 (iv (pad l)).toArray (0, 0) _ (row_heap r0) Try.underlying50 rfl hi ?_)
    | (go_at_call 72; refine (HL.out _).mono ?_; rintro e w2 ⟨rfl, b2⟩; replace r0 := r0.below b2; replace q0 := q0.below b2; replace b0 := b0.trans (b2.mono b0.size)))
  rw [← HZ.out] at r0
  go_loopw [10] (fun i wr => ∃ k : Nat, k ≤ l.length - 1 ∧ i = .int .i64 k ∧ Row wr w.heap.size 50 (iv (pad (fstN l k))) ∧ Row wr (w.heap.size + 1) 50 Z12 ∧ Below w.heap.size w wr) (fun i _ => l.length - (intOf i).toNat)
  case atStart => exact ⟨0, by omega, rfl, r0, q0, b0⟩
  case round =>
    clear r0 q0 b0
    obtain ⟨k, hk, rfl, r0, q0, b0⟩ := hrel
    by_cases hlt : k + 1 < l.length
    · have g1 : decide ((k : Int) < (l.length : Int) - 1) = true := decide_eq_true (by omega)
      have hce := HCE.out k wr hlt r0
      have HC := Lib.hid (fun n => HLT.out k hlt (wr.drewN n) (r0.drewN n))
      obtain ⟨m, hm⟩ : ∃ m, l.length - 1 - k = m := ⟨_, rfl⟩
      rw [hm] at hce HC
      have hmi : (l.length : Int) - 1 - (k : Int) = (m : Int) := by omega
      have hm12 : m < 12 := by omega
      clear hm
      have hsl : ∀ w' : World, (Instr.sliceAt 50 (.pointer (some ⟨w.heap.size, 0, none⟩)) none (some (.int .i64 (m : Int))) none).run Try.prog w' = .ok (.slice (some ⟨w.heap.size, 0, none⟩) m 12) w' := fun w' => slice50_h (b := w.heap.size) (h := m) (by omega)
      generalize geti (fstN l k) m = a at *
      go_wp2
      refine wp_region_quiet_tail 5 (by kernel_rfl) (by kernel_rfl) ?_
      simp only [List.take_succ_cons, List.take_zero, List.drop_succ_cons, List.drop_zero]
      repeat go_big_quiet_step ((fail))
      refine wpQuiet_nil ?_
      rintro _ ⟨nq, rfl⟩
      have q1 := q0.drewN nq
      have b1 := b0.trans (below_drewN nq)
      go_wp2_with (go_at_call 76; refine (HC.out nq).mono ?_; rintro e w3 ⟨rfl, r3, g3⟩; replace q1 := q1.grown g3 (by intro e; injection e with e; omega); replace b1 := b1.grown g3 b1.size (fun k e => by injection e with e; omega))
      go_roundw
      case rel => exact ⟨k + 1, by omega, by go_num, r3, q1, b1⟩
      case measure => simp [intOf]; omega
    · obtain rfl : k = l.length - 1 := by omega
      have g1 : decide (((l.length - 1 : Nat) : Int) < (l.length : Int) - 1) = false := decide_eq_false (by omega)
      rw [HE.out] at r0
      go_wp2_with (first
        | ((with_reducible refine (?_ : wpList _ _ _ (Oper.mk (some 24) _ _ _ _ _ :: _) _ _)); refine wpList_load_row rfl 50 (.tmp 1) rfl w.heap.size rfl 50 (iv (pad (fst' l))).toArray (0, 0) _ (row_heap r0) Try.underlying50 rfl his ?_)
        | ((with_reducible refine (?_ : wpList _ _ _ (Oper.mk none _ _ _ _ _ :: _) _ _)); refine wpList_store_row rfl 50 (.tmp 2) (.tmp 24) rfl (w.heap.size + 1) (iv (pad (fst' l))).toArray rfl rfl 50 Z12.toArray (row_heap q0) his (size50_Z hsp) (iv_all _) ?_))
      exact bodyPost_ret (v := .agg (iv (pad (fst' l))).toArray) (res1 Try.results61 rfl (cell50_res hsp (q0.row (iv (pad (fst' l)))))) rfl ⟨rfl, below_row b0 (by omega) _⟩
end Go.Proofs.Ytheblebfeinjjaa
