/- An order is read. -/
import Derived.Test.YtheblebfeinjjaaNG
namespace Go.Proofs.Ytheblebfeinjjaa
open Go.RowKit
set_option maxHeartbeats 1000000
set_option maxRecDepth 100000
theorem res2 {P : Program} {F : Func} {tm : Array Value} {i j k : Nat} {t : TypeId} {v u : Value} {W : World} (hF : F.results = #[ResultVar.cell i t, ResultVar.tmp j]) (h0 : tm.getD i undef = .pointer (some ⟨k, 0, none⟩)) (h1 : tm.getD j undef = u)
    (hl : (loadVar t ⟨k, 0, none⟩).run P W = .ok v W) : (results F tm).run P W = .ok (.tuple #[v, u]) W := by
  have h0' : tm[i]?.getD undef = .pointer (some ⟨k, 0, none⟩) := by simpa using h0
  have h1' : tm[j]?.getD undef = u := by simpa using h1
  simp [results, hF, h0', h1', asAddr, hl]
/-- What readOrder makes of a list. -/
def roR (l : List Int) (e : Ending) : Prop := if okO l then e = .returned (.tuple #[arr l, .bool true]) else ∃ x : List Int, x.length = 12 ∧ e = .returned (.tuple #[.agg (iv x).toArray, .bool false])
theorem slice50_all {w : World} {b : Nat} : (Instr.sliceAt 50 (.pointer (some ⟨b, 0, none⟩)) none none none).run Try.prog w = .ok (.slice (some ⟨b, 0, none⟩) 12 12) w := by
  obtain ⟨j0, ji, jz0, jz1, jz2⟩ := info_parts info3
  rw [run_sliceAt_array_all w 50 ⟨b, 0, none⟩ (by rw [arrayLen50, elem50]; exact Try.underlying50), elem50, arrayLen50]
  simp [run_sizeOf, ji, jz1, slicedAt, Addr.add]
theorem splice_pad {l : List Int} (h : l.length ≤ 12) : splice Z12 0 (iv l) = iv (pad l) := by
  unfold splice pad
  rw [List.take_zero, List.nil_append, Nat.zero_add, iv_len]
  have e : Z12 = iv (List.replicate 12 0) := rfl
  rw [e]
  unfold iv
  rw [List.map_append, ← List.map_drop, List.drop_replicate]
theorem size3 : (Try.prog.info? 3).map (·.size) = some 1 := by kernel_rfl
theorem readOrder_any (A : Option Addr) (c : Nat) (l : List Int) (w : World) (hx : l.length ≤ 1000000) (ha : IntsAt w A l) :
    Calls Try.prog 49 #[.slice A l.length c] w fun e w' => roR l e ∧ Below w.heap.size w w' := by
  have r0 : Row (w.alloc (.cells Z12.toArray 50)) w.heap.size 50 Z12 := row_new rfl
  have b0 : Below w.heap.size w (w.alloc (.cells Z12.toArray 50)) := (Below.refl _ w).alloc (Nat.le_refl _) _
  by_cases hl : 12 < l.length
  · have hno : okO l = false := by
      cases h : okO l
      · rfl
      · have := (okO_iff.1 h).le; omega
    have g1 : decide ((12 : Int) < l.length) = true := decide_eq_true (by omega)
    clear ha
    go_enter Try.func49, Try.ntmps49
    go_wp2
    exact bodyPost_ret (v := .tuple #[.agg Z12.toArray, .bool false]) (res2 Try.results49 rfl rfl (cell_res Try.underlying50 info50 r0)) rfl ⟨by unfold roR; rw [hno]; exact ⟨List.replicate 12 0, rfl, rfl⟩, b0⟩
  · have g1 : decide ((12 : Int) < l.length) = false := decide_eq_false (by omega)
    have HA := Lib.hid ha
    have hsl : ∀ (b : Nat) (w' : World), (Instr.sliceAt 50 (.pointer (some ⟨b, 0, none⟩)) none none none).run Try.prog w' = .ok (.slice (some ⟨b, 0, none⟩) 12 12) w' := fun b w' => slice50_all
    have hsh : ∀ (b : Nat) (w' : World), (Instr.sliceAt 50 (.pointer (some ⟨b, 0, none⟩)) none (some (.int .i64 l.length)) none).run Try.prog w' = .ok (.slice (some ⟨b, 0, none⟩) l.length 12) w' := fun b w' => slice50_h (by omega)
    have r1 : Row ((w.alloc (.cells Z12.toArray 50)).alloc (.cells Z12.toArray 50)) (w.heap.size + 1) 50 Z12 := row_new (by simp)
    have r01 := r0.alloc (.cells Z12.toArray 50)
    have b1 := b0.alloc (show w.heap.size ≤ (w.alloc (.cells Z12.toArray 50)).heap.size by simp) (.cells Z12.toArray 50)
    have HPOS : Hid (0 < (iv l).length → (some (⟨w.heap.size + 1, 0, none⟩ : Addr)) = some ⟨w.heap.size + 1, 0, none⟩ ∧ ∃ ad, A = some ad ∧ ∀ j v, (iv l)[j]? = some v → ((w.alloc (.cells Z12.toArray 50)).alloc (.cells Z12.toArray 50)).cell? (ad.add j) = some v) := Lib.hid (fun h => by
      rw [iv_len] at h
      obtain ⟨b, o, e, -, -⟩ := ha h
      subst e
      exact ⟨rfl, _, rfl, news_ints ((ha.below (b0.alloc (by simp) _)))⟩)
    have HL := Lib.hid (show l.length ≤ 12 by omega)
    have hmin : (iv l).length = Nat.min l.length 12 := by rw [iv_len]; exact (Nat.min_eq_left HL.out).symm
    have HMIN := Lib.hid hmin
    have hfit : 0 + (iv l).length ≤ Z12.length := by rw [iv_len]; have := HL.out; simp; omega
    clear hmin hl
    go_enter Try.func49, Try.ntmps49
    go_wp2_with (first
      | (refine wpList_copy_splice rfl (.tmp 10) (.tmp 11) 22 22 rfl 3 Try.underlying22 size3 _ _ _ _ _ _ rfl rfl (w.heap.size + 1) 0 Z12 50 (row_heap r1) (iv l) HMIN.out HPOS.out hfit (iv_one l) (w.heap.size + 1) _ (Below.refl _ _) (by omega) ?_; intro w4 hg4 b4; have r4 : Row w4 (w.heap.size + 1) 50 (iv (pad l)) := (by have h := hg4.out; rw [splice_pad HL.out] at h; exact h); have q4 : Row w4 w.heap.size 50 Z12 := (b4.block w.heap.size (by omega)).trans r01; have b5 := b1.trans (b4.mono (by omega)); have q5 : Row (w4.alloc (.cells Z12.toArray 50)) w4.heap.size 50 Z12 := row_new rfl; have r5 := r4.alloc (.cells Z12.toArray 50); replace q4 := q4.alloc (.cells Z12.toArray 50); have hlt4 := r4.lt; replace b5 := b5.alloc b5.size (.cells Z12.toArray 50); clear r0 r1 r01 b0 b1 b4 hg4 HPOS HMIN hfit)
      | ((with_reducible refine (?_ : wpList _ _ _ (Oper.mk (some 13) _ _ _ _ _ :: _) _ _)); refine wpList_load_row rfl 50 (.tmp 4) rfl (w.heap.size + 1) rfl 50 (iv (pad l)).toArray (0, 0) _ (row_heap r4) Try.underlying50 rfl (info50_iv (pad_len HL.out)) ?_)
      | ((with_reducible refine (?_ : wpList _ _ _ (Oper.mk none _ _ _ _ _ :: _) _ _)); go_loud (refine wpList_store_row rfl 50 (.tmp 5) (.tmp 13) rfl w4.heap.size (iv (pad l)).toArray rfl rfl 50 Z12.toArray (row_heap q5) (info50_iv (pad_len HL.out)) (size50_Z (pad_len HL.out)) (iv_all _) ?_; have p5 := q5.row (iv (pad l)); have p4 := q4.row_far (k := w4.heap.size) (by omega) (iv (pad l)).toArray; have s5 := r5.row_far (k := w4.heap.size) (by omega) (iv (pad l)).toArray; have b6 := below_row (g := w4.heap.size) b5 (by omega) (iv (pad l)).toArray; clear q5 q4 r5 b5 r4; generalize World.setRow (w4.alloc _) _ _ = W at *))
      | (go_at_call 69; refine (Sort_any p5 HL.out).mono ?_; rintro e w6 ⟨rfl, t6, hgr⟩))
    have t4 := p4.grown hgr (by intro e; injection e with e; omega)
    have t1 := s5.grown hgr (by intro e; injection e with e; omega)
    have b7 := b6.grown hgr b6.size (fun k e => by injection e with e; omega)
    have hne4 : w.heap.size ≠ w4.heap.size := by omega
    generalize w4.heap.size = g5 at *
    clear p4 p5 s5 b6 hgr
    have hpl := pad_len HL.out
    have hps : (pad (srt l)).length = 12 := pad_len (by rw [srt_len]; exact HL.out)
    have hpa : (pad (asc l.length)).length = 12 := pad_len (by rw [asc_len]; exact HL.out)
    have hi1 : (Try.prog.info? 50).map (·.size) = some (iv (pad l)).length := by rw [iv_len, hpl]; exact info50
    have hi2 : (Try.prog.info? 50).map (·.size) = some (iv (pad (srt l))).length := by rw [iv_len, hps]; exact info50
    have E50 := fun W => eq50 hps hpa W
    have HAS := Lib.hid (fun w => ascending_any l.length w HL.out)
    have HOK : Hid (decide (pad (srt l) = pad (asc l.length)) = okO l) := Lib.hid (by
      by_cases h : IsO l
      · rw [okO_iff.2 h, (sorted_asc HL.out (srt_perm l) (srt_sorted l)).2 h]; simp
      · have h2 : okO l = false := by
          cases hb : okO l
          · rfl
          · exact absurd (okO_iff.1 hb) h
        rw [h2]
        refine decide_eq_false (fun e => h ((sorted_asc HL.out (srt_perm l) (srt_sorted l)).1 (pad_inj (by rw [srt_len, asc_len]) e)))
      )
    unfold arr at HAS
    generalize hpad : pad l = X at *
    generalize pad (srt l) = Y at *
    generalize pad (asc l.length) = Z at *
    have HPAD := Lib.hid hpad
    clear hpad
    refine wp_region_noPanic ?_
    refine wp_region_held_drew (S := fun W => Row W (w.heap.size + 1) 50 (iv X) ∧ Row W g5 50 (iv Y) ∧ Below w.heap.size w W) (by kernel_rfl) ⟨t1.drew, t6.drew, b7.drew⟩ (fun hH => ?_)
    try simp only [Act.put]
    replace t4 := t4.drew
    clear t1 t6 b7
    generalize World.drew w6 = Wd at *
    refine wpAnyH_take (i := 0) (v := .agg (iv X).toArray) rfl (by kernel_rfl) (by kernel_rfl) (by kernel_rfl) (fun _ _ _ h => h) (yieldsIf_load_mid (by rfl) _ _ rfl _ _ rfl _ _ (fun W hW => hW.1.range) Try.underlying50 rfl hi1) hH ?_
    simp only [List.getElem_toArray, List.getElem_cons_zero, List.getElem_cons_succ, Act.put, List.setIfInBounds_toArray, List.set_cons_zero, List.set_cons_succ]
    refine wpAnyH_take (i := 1) (v := .agg (iv Y).toArray) rfl (by kernel_rfl) (by kernel_rfl) (by kernel_rfl) (fun _ _ _ h => h) (yieldsIf_load_mid (by rfl) _ _ rfl _ _ rfl _ _ (fun W hW => hW.2.1.range) Try.underlying50 rfl hi2) hH ?_
    simp only [List.getElem_toArray, List.getElem_cons_zero, List.getElem_cons_succ, Act.put, List.setIfInBounds_toArray, List.set_cons_zero, List.set_cons_succ]
    refine wpAnyH_take (i := 2) (v := .slice A l.length c) rfl (by kernel_rfl) (by kernel_rfl) (by kernel_rfl) (fun _ _ _ h => h) (Or.inl ⟨by rfl, fun W hW => ?_⟩) hH ?_
    · go_simp
    simp only [List.getElem_toArray, List.getElem_cons_zero, List.getElem_cons_succ, Act.put, List.setIfInBounds_toArray, List.set_cons_zero, List.set_cons_succ]
    refine wpAnyH_take (i := 3) (v := .int .i64 l.length) rfl (by kernel_rfl) (by kernel_rfl) (by kernel_rfl) (fun _ _ _ h => h) (Or.inl ⟨by rfl, fun W hW => ?_⟩) hH ?_
    · go_simp
    simp only [List.getElem_toArray, List.getElem_cons_zero, List.getElem_cons_succ, Act.put, List.setIfInBounds_toArray, List.set_cons_zero, List.set_cons_succ]
    refine wpAnyH_ready (rs := [4]) (by kernel_rfl) (by simp) ?_
    refine AllReadyH.cons rfl (fun K hK => ?_) AllReadyH.nil
    go_simp
    refine (HAS.out _).mono ?_
    rintro e w8 ⟨rfl, b8⟩
    go_wp2_with fail
    refine hK.out _ _ ⟨hH.1.below b8, hH.2.1.below b8, hH.2.2.trans (b8.mono hH.2.2.size)⟩ (fun hH => ?_)
    replace t4 := t4.below b8
    clear hK K
    refine wpAnyH_take (i := 5) (v := .bool (decide (Y = Z))) rfl (by kernel_rfl) (by kernel_rfl) (by kernel_rfl) (fun _ _ _ h => h) (Or.inl ⟨by rfl, fun W hW => ?_⟩) hH ?_
    · go_simp
    simp only [List.getElem_toArray, List.getElem_cons_zero, List.getElem_cons_succ, Act.put, List.setIfInBounds_toArray, List.set_cons_zero, List.set_cons_succ]
    refine wpAnyH_ready (rs := [6]) (by kernel_rfl) (by simp) ?_
    refine AllReadyH.cons rfl (fun K hK => ?_) AllReadyH.nil
    rw [if_pos (by rfl)]
    have q0 := t4
    refine wp_store_row 50 (.tmp 2) (.tmp 18) rfl w.heap.size (iv X).toArray rfl rfl 50 Z12.toArray (row_heap q0) (info50_iv hpl) (size50_Z hpl) (iv_all _) ?_
    simp only [List.getElem_toArray, List.getElem_cons_zero, List.getElem_cons_succ, Act.put, List.setIfInBounds_toArray, List.set_cons_zero, List.set_cons_succ]
    refine hK.out _ _ ?_ (fun hHf => ?_)
    · exact ⟨hH.1.row_far (by omega) _, hH.2.1.row_far (by omega) _, below_row hH.2.2 (Nat.le_refl _) _⟩
    clear hK K
    refine wpAnyH_ready (rs := [7]) (by kernel_rfl) (by simp) ?_
    refine AllReadyH.cons rfl (fun K hK => ?_) AllReadyH.nil
    go_simp
    refine hK.out _ _ hHf (fun _ => ?_)
    clear hK K
    refine wpAnyH_done (by kernel_rfl) ?_ _
    refine NoPanic.normal ?_
    go_wp2_with fail
    have HRO : roR l (.returned (.tuple #[.agg (iv X).toArray, .bool (decide (Y = Z))])) := by
      unfold roR
      rw [HOK.out]
      cases h : okO l
      · rw [if_neg (by simp)]; exact ⟨X, hpl, rfl⟩
      · rw [if_pos rfl, ← HPAD.out]; rfl
    exact bodyPost_ret (v := .tuple #[.agg (iv X).toArray, .bool (decide (Y = Z))]) (res2 Try.results49 rfl rfl (cell50_res hpl (t4.row _))) rfl ⟨HRO, hHf.2.2⟩
end Go.Proofs.Ytheblebfeinjjaa
