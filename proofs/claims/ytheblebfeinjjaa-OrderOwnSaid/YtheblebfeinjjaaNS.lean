/- The written cycles, walked. -/
import Derived.Test.YtheblebfeinjjaaNR
namespace Go.Proofs.Ytheblebfeinjjaa
open Go.RowKit
set_option maxHeartbeats 1000000
set_option maxRecDepth 100000
theorem splice_app {a b : List Int} (h : a.length + b.length ≤ 12) : splice (iv (pad a)) a.length (iv b) = iv (pad (a ++ b)) := by
  unfold splice
  rw [iv_len, iv_take, iv_drop, ← iv_app, ← iv_app]
  congr 1
  unfold pad
  rw [List.take_append_of_le_length (Nat.le_refl _), List.take_length, List.drop_append, List.drop_eq_nil_of_le (by omega), List.nil_append, List.drop_replicate, List.append_assoc, List.length_append]
  congr 3
  omega
theorem slice50_l {w : World} {b l : Nat} (h3 : l < 12) : (Instr.sliceAt 50 (.pointer (some ⟨b, 0, none⟩)) (some (.int .i64 l)) none none).run Try.prog w = .ok (.slice (some ⟨b, l, none⟩) (12 - l) (12 - l)) w := by
  obtain ⟨j0, ji, jz0, jz1, jz2⟩ := info_parts info3
  rw [run_sliceAt_array_l w 50 ⟨b, 0, none⟩ (by rw [arrayLen50, elem50]; exact Try.underlying50) .i64 l (by omega) (by rw [arrayLen50]; omega), elem50, arrayLen50]
  simp [run_sizeOf, ji, jz1, slicedAt, Addr.add]
  rw [if_neg (by omega), Try.cells3, Nat.mul_one]
  split
  · rename_i h; simp [h]
  · rfl
theorem written_any (l : List Int) (w : World) (h : IsO l) : Calls Try.prog 62 #[arr l] w fun e w' => e = .returned (arr (wr' l)) ∧ Below w.heap.size w w' := by
  have hle := h.le
  have hpl := pad_len hle
  have r0 : Row (((w.alloc (.cells (iv (pad l)).toArray 50)).alloc (.cells Z12.toArray 50)).alloc (.cells Z12.toArray 50)) w.heap.size 50 (iv (pad l)) := ((row_new rfl).alloc _).alloc _
  have q0 : Row (((w.alloc (.cells (iv (pad l)).toArray 50)).alloc (.cells Z12.toArray 50)).alloc (.cells Z12.toArray 50)) (w.heap.size + 1) 50 Z12 := (row_new (by simp)).alloc _
  have t0 : Row (((w.alloc (.cells (iv (pad l)).toArray 50)).alloc (.cells Z12.toArray 50)).alloc (.cells Z12.toArray 50)) (w.heap.size + 1 + 1) 50 (iv (pad (wrN l 0))) := row_new (by simp)
  have b0 : Below w.heap.size w (((w.alloc (.cells (iv (pad l)).toArray 50)).alloc (.cells Z12.toArray 50)).alloc (.cells Z12.toArray 50)) := by (repeat (first | exact Below.refl _ _ | assumption | (refine Below.setCell ?_ (by first | exact Nat.le_refl _ | omega | (simp; done) | (simp; omega)) _) | (refine Below.trans ?_ (below_drewN _)) | (refine Below.drew ?_) | (refine Below.alloc ?_ (by first | exact Nat.le_refl _ | omega | (simp; done) | (simp; omega)) _) | (refine below_row ?_ (by first | exact Nat.le_refl _ | omega | (simp; done) | (simp; omega)) _)))
  have hi := info50_iv hpl
  have hi' : (Try.prog.info? 50).map (·.size) = some (iv (pad l)).length := by rw [iv_len, hpl]; exact info50
  have HL := Lib.hid (fun w => length_any l w h)
  have HG := Lib.hid (fun (k : Nat) w (hk : k < l.length) => isGreatest_any l k w h hk)
  have HCY := Lib.hid (fun (k : Nat) w (hk : k < l.length) => cycle_any l ((k : Int) + 1) w h (by omega) (by omega))
  have HWL := Lib.hid (fun k (hk : k ≤ l.length) => wrN_len h hk)
  have HCP : Hid (∀ k : Nat, 0 < (cyc l ((k : Int) + 1)).length) := Lib.hid (fun k => by simp [cyc])
  have hwp : (pad (wr' l)).length = 12 := pad_len (h.wr).le
  have hiw := info50_iv hwp
  unfold arr at HL HG HCY ⊢
  clear h
  go_enter Try.func62, Try.ntmps62
  go_wp2_with (first
    | ((with_reducible refine (?_ : wpList _ _ _ (Oper.mk (some 6) _ _ _ _ _ :: _) _ _)); refine wpList_load_row rfl 50 (.tmp 1) rfl w.heap.size rfl 50 (iv (pad l)).toArray (0, 0) _ (row_heap r0) Try.underlying50 rfl hi ?_)
    | (go_at_call 72; refine (HL.out _).mono ?_; rintro e w2 ⟨rfl, b2⟩; replace r0 := r0.below b2; replace q0 := q0.below b2; replace t0 := t0.below b2; replace b0 := b0.trans (b2.mono b0.size)))
  go_loopw [4, 8] (fun m i wr => ∃ k a : Nat, k ≤ l.length ∧ i = .int .i64 k ∧ m = .int .i64 a ∧ Hid (a = (wrN l k).length) ∧ a ≤ 12 ∧ Row wr (w.heap.size + 1 + 1) 50 (iv (pad (wrN l k))) ∧ Row wr w.heap.size 50 (iv (pad l)) ∧ Row wr (w.heap.size + 1) 50 Z12 ∧ Below w.heap.size w wr) (fun _ i _ => l.length - (intOf i).toNat)
  case atStart => exact ⟨0, 0, by omega, rfl, rfl, Lib.hid rfl, by omega, t0, r0, q0, b0⟩
  case round =>
    clear r0 q0 b0 t0
    obtain ⟨k, a, hk, rfl, rfl, HA, ha12, t0, r0, q0, b0⟩ := hrel
    by_cases hlt : k < l.length
    · have HGK := Lib.hid (fun w => HG.out k w hlt)
      have HCK := Lib.hid (fun w => HCY.out k w hlt)
      have HW1 := Lib.hid (show wrN l (k + 1) = wrN l k ++ if isG l (k + 1) then cyc l (k + 1) else [] from rfl)
      have HWL1 := Lib.hid (HWL.out (k + 1) (by omega))
      have HCP1 := Lib.hid (HCP.out k)
      have hle2 := hle
      generalize cyc l ((k : Int) + 1) = C at *
      generalize wrN l k = V at *
      obtain ⟨V1, hV1⟩ : ∃ V1, wrN l (k + 1) = V1 := ⟨_, rfl⟩
      rw [hV1] at HW1 HWL1
      have HV1 := Lib.hid hV1
      clear hV1
      generalize isG l ((k : Int) + 1) = q at *
      cases q
      · go_wp2_with (first
          | ((with_reducible refine (?_ : wpList _ _ _ (Oper.mk (some 11) _ _ _ _ _ :: _) _ _)); refine wpList_load_row rfl 50 (.tmp 1) rfl w.heap.size rfl 50 (iv (pad l)).toArray (0, 0) _ (row_heap r0) Try.underlying50 rfl hi ?_)
          | (go_at_call 77; refine (HGK.out _).mono ?_; rintro e w2 ⟨rfl, b2⟩; replace r0 := r0.below b2; replace q0 := q0.below b2; replace t0 := t0.below b2; replace b0 := b0.trans (b2.mono b0.size)))
        go_roundw
        case rel => exact ⟨k + 1, a, by omega, by go_num, rfl, Lib.hid (by rw [HV1.out, HA.out, HW1.out]; simp), ha12, by rw [HV1.out, HW1.out]; simpa using t0, r0, q0, b0⟩
        case measure => simp [intOf]; omega
      · have HVC : Hid (a + C.length ≤ 12) := Lib.hid (by
          have h1 := HWL1.out
          rw [HW1.out, if_pos rfl, List.length_append, ← HA.out] at h1
          omega)
        have ha : a < 12 := by have := HVC.out; have := HCP1.out; omega
        have HMIN : Hid ((iv C).length = Nat.min C.length (12 - a)) := Lib.hid (by
          rw [iv_len]
          exact (Nat.min_eq_left (by have := HVC.out; omega)).symm)
        have HFIT : Hid (a + (iv C).length ≤ (iv (pad V)).length) := Lib.hid (by
          have h1 := HVC.out
          have h2 := HA.out
          rw [iv_len, iv_len, pad_len (by omega)]; exact h1)
        have HPOS : Hid (∀ (W : World) {A : Option Addr}, IntsAt W A C → 0 < (iv C).length → (some (⟨w.heap.size + 1 + 1, a, none⟩ : Addr)) = some ⟨w.heap.size + 1 + 1, a, none⟩ ∧ ∃ ad, A = some ad ∧ ∀ j v, (iv C)[j]? = some v → W.cell? (ad.add j) = some v) := Lib.hid (fun W A hA hp => by
          rw [iv_len] at hp
          obtain ⟨b, o, e, -, -⟩ := hA hp
          subst e
          exact ⟨rfl, _, rfl, news_ints hA⟩)
        have HSP : Hid (splice (iv (pad V)) a (iv C) = iv (pad V1)) := Lib.hid (by
          rw [HW1.out, if_pos rfl, HA.out]
          exact splice_app (by have := HVC.out; have := HA.out; omega))
        have HA2 : Hid (a + C.length = V1.length) := Lib.hid (by rw [HW1.out, if_pos rfl, List.length_append, HA.out])
        have hwr : IntKind.i64.wrap ((k : Int) + 1) = (k : Int) + 1 := IntWalk.i64_in _ (by omega)
        have hws : IntKind.i64.wrap ((a : Int) + ((iv C).length : Int)) = (V1.length : Int) := by
          have h1 := HA2.out
          have h2 := HVC.out
          rw [iv_len, ← h1, Int.natCast_add]
          exact IntWalk.i64_in _ (by omega)
        have hsl : ∀ w' : World, (Instr.sliceAt 50 (.pointer (some ⟨w.heap.size + 1 + 1, 0, none⟩)) (some (.int .i64 a)) none none).run Try.prog w' = .ok (.slice (some ⟨w.heap.size + 1 + 1, a, none⟩) (12 - a) (12 - a)) w' := fun w' => slice50_l ha
        go_wp2_with (first
          | ((with_reducible refine (?_ : wpList _ _ _ (Oper.mk (some 11) _ _ _ _ _ :: _) _ _)); refine wpList_load_row rfl 50 (.tmp 1) rfl w.heap.size rfl 50 (iv (pad l)).toArray (0, 0) _ (row_heap r0) Try.underlying50 rfl hi ?_)
          | (go_at_call 77; refine (HGK.out _).mono ?_; rintro e w2 ⟨rfl, b2⟩; replace r0 := r0.below b2; replace q0 := q0.below b2; replace t0 := t0.below b2; replace b0 := b0.trans (b2.mono b0.size)))
        refine wp_region_noPanic ?_
        refine wp_region_held_drew (S := fun W => Row W w.heap.size 50 (iv (pad l)) ∧ Row W (w.heap.size + 1) 50 Z12 ∧ Below w.heap.size w W) (by kernel_rfl) ⟨r0.drew, q0.drew, b0.drew⟩ (fun hH => ?_)
        try simp only [Act.put]
        replace t0 := t0.drew
        clear r0 q0 b0
        generalize World.drew w2 = Wd at *
        refine wpAnyH_take (i := 0) (v := .int .i64 a) rfl (by kernel_rfl) (by kernel_rfl) (by kernel_rfl) (fun _ _ _ h => h) (Or.inl ⟨by rfl, fun W hW => ?_⟩) hH ?_
        · go_simp
        simp only [List.getElem_toArray, List.getElem_cons_zero, List.getElem_cons_succ, Act.put, List.setIfInBounds_toArray, List.set_cons_zero, List.set_cons_succ]
        refine wpAnyH_take (i := 1) (v := .int .i64 a) rfl (by kernel_rfl) (by kernel_rfl) (by kernel_rfl) (fun _ _ _ h => h) (Or.inl ⟨by rfl, fun W hW => ?_⟩) hH ?_
        · go_simp
        simp only [List.getElem_toArray, List.getElem_cons_zero, List.getElem_cons_succ, Act.put, List.setIfInBounds_toArray, List.set_cons_zero, List.set_cons_succ]
        refine wpAnyH_take (i := 2) (v := .slice (some ⟨w.heap.size + 1 + 1, a, none⟩) (12 - a) (12 - a)) rfl (by kernel_rfl) (by kernel_rfl) (by kernel_rfl) (fun _ _ _ h => h) (Or.inl ⟨by rfl, fun W hW => ?_⟩) hH ?_
        · go_simp
        simp only [List.getElem_toArray, List.getElem_cons_zero, List.getElem_cons_succ, Act.put, List.setIfInBounds_toArray, List.set_cons_zero, List.set_cons_succ]
        refine wpAnyH_take (i := 3) (v := .agg (iv (pad l)).toArray) rfl (by kernel_rfl) (by kernel_rfl) (by kernel_rfl) (fun _ _ _ h => h) (yieldsIf_load_mid (by rfl) _ _ rfl _ _ rfl _ _ (fun W hW => hW.1.range) Try.underlying50 rfl hi') hH ?_
        simp only [List.getElem_toArray, List.getElem_cons_zero, List.getElem_cons_succ, Act.put, List.setIfInBounds_toArray, List.set_cons_zero, List.set_cons_succ]
        refine wpAnyH_take (i := 4) (v := .int .i64 k) rfl (by kernel_rfl) (by kernel_rfl) (by kernel_rfl) (fun _ _ _ h => h) (Or.inl ⟨by rfl, fun W hW => ?_⟩) hH ?_
        · go_simp
        simp only [List.getElem_toArray, List.getElem_cons_zero, List.getElem_cons_succ, Act.put, List.setIfInBounds_toArray, List.set_cons_zero, List.set_cons_succ]
        refine wpAnyH_take (i := 5) (v := .int .i64 ((k : Int) + 1)) rfl (by kernel_rfl) (by kernel_rfl) (by kernel_rfl) (fun _ _ _ h => h) (Or.inl ⟨by rfl, fun W hW => ?_⟩) hH ?_
        · go_simp
        simp only [List.getElem_toArray, List.getElem_cons_zero, List.getElem_cons_succ, Act.put, List.setIfInBounds_toArray, List.set_cons_zero, List.set_cons_succ]
        refine wpAnyH_ready (rs := [6]) (by kernel_rfl) (by simp) ?_
        refine AllReadyH.cons rfl (fun K hK => ?_) AllReadyH.nil
        go_simp
        refine (HCK.out _).mono ?_
        rintro e w8 ⟨v, rfl, o8, b8⟩
        obtain ⟨A8, c8, rfl, -, hcc, i8⟩ := own_intsI o8
        have I8 := Lib.hid i8
        clear o8 i8
        go_wp2_with fail
        refine hK.out _ _ ⟨hH.1.below b8, hH.2.1.below b8, hH.2.2.trans (b8.mono hH.2.2.size)⟩ (fun hH => ?_)
        replace t0 := t0.below b8
        clear hK K
        refine wpAnyH_ready (rs := [7]) (by kernel_rfl) (by simp) ?_
        refine AllReadyH.cons rfl (fun K hK => ?_) AllReadyH.nil
        refine step_copy_splice rfl (.tmp 16) (.tmp 20) 22 22 rfl 3 Try.underlying22 size3 _ _ _ _ _ _ rfl rfl (w.heap.size + 1 + 1) a (iv (pad V)) 50 (row_heap t0) (iv C) HMIN.out (fun h => ⟨rfl, (HPOS.out _ I8.out h).2⟩) HFIT.out (iv_one C) (w.heap.size + 1 + 1) w8 (Below.refl _ _) (Nat.le_refl _) ?_
        intro w9 hg9 b9
        simp only [List.getElem_toArray, List.getElem_cons_zero, List.getElem_cons_succ, Act.put, List.setIfInBounds_toArray, List.set_cons_zero, List.set_cons_succ]
        have t9 : Row w9 (w.heap.size + 1 + 1) 50 (iv (pad V1)) := by have h := hg9.out; rw [HSP.out] at h; exact h
        refine hK.out _ _ ⟨(b9.block _ (by omega)).trans hH.1, (b9.block _ (by omega)).trans hH.2.1, hH.2.2.trans (b9.mono (by omega))⟩ (fun hH => ?_)
        clear hK K
        refine wpAnyH_take (i := 8) (v := .int .i64 (V1.length : Int)) rfl (by kernel_rfl) (by kernel_rfl) (by kernel_rfl) (fun _ _ _ h => h) (Or.inl ⟨by rfl, fun W hW => ?_⟩) hH ?_
        · go_simp
        simp only [List.getElem_toArray, List.getElem_cons_zero, List.getElem_cons_succ, Act.put, List.setIfInBounds_toArray, List.set_cons_zero, List.set_cons_succ]
        refine wpAnyH_ready (rs := [9]) (by kernel_rfl) (by simp) ?_
        refine AllReadyH.cons rfl (fun K hK => ?_) AllReadyH.nil
        go_simp
        refine hK.out _ _ hH (fun _ => ?_)
        clear hK K
        refine wpAnyH_done (by kernel_rfl) ?_ _
        refine NoPanic.normal ?_
        go_wp2_with fail
        go_roundw
        case rel => exact ⟨k + 1, V1.length, by omega, by go_num, rfl, Lib.hid (by rw [HV1.out]), by have := HVC.out; have := HA2.out; omega, by rw [HV1.out]; exact t9, hH.1, hH.2.1, hH.2.2⟩
        case measure => simp [intOf]; omega
    · obtain rfl : k = l.length := by omega
      have t1 : Row wr (w.heap.size + 1 + 1) 50 (iv (pad (wr' l))) := t0
      clear t0
      go_wp2_with (first
        | ((with_reducible refine (?_ : wpList _ _ _ (Oper.mk (some 24) _ _ _ _ _ :: _) _ _)); refine wpList_load_row rfl 50 (.tmp 3) rfl (w.heap.size + 1 + 1) rfl 50 (iv (pad (wr' l))).toArray (0, 0) _ (row_heap t1) Try.underlying50 rfl hiw ?_)
        | ((with_reducible refine (?_ : wpList _ _ _ (Oper.mk none _ _ _ _ _ :: _) _ _)); refine wpList_store_row rfl 50 (.tmp 2) (.tmp 24) rfl (w.heap.size + 1) (iv (pad (wr' l))).toArray rfl rfl 50 Z12.toArray (row_heap q0) hiw (size50_Z hwp) (iv_all _) ?_))
      exact bodyPost_ret (v := .agg (iv (pad (wr' l))).toArray) (res1 Try.results62 rfl (cell50_res hwp (q0.row (iv (pad (wr' l)))))) rfl ⟨rfl, below_row b0 (by omega) _⟩
end Go.Proofs.Ytheblebfeinjjaa
