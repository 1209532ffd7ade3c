/- A table without a row and a column. -/
import Derived.Test.YtnnaaoobdofooaaRR
import Derived.Test.YtnnaaoobdofooaaRQ
namespace Go.Proofs.Ytnnaaoobdofooaa
open Go.RowKit
set_option maxHeartbeats 1000000
set_option maxRecDepth 100000
/-- A list without one of its numbers; so many rows of a table without a row and a column. -/
def woR (l : List Int) (c : Nat) : List Int := l.take c ++ l.drop (c + 1)
def woL (L : List (List Int)) (r c k : Nat) : List (List Int) := ((List.range k).filter (fun i => decide (i ≠ r))).map fun i => woR (getl L i) c
abbrev wo (L : List (List Int)) (r c : Nat) : List (List Int) := woL L r c L.length
theorem woL_skip (L : List (List Int)) (r c : Nat) : woL L r c (r + 1) = woL L r c r := by
  unfold woL
  rw [List.range_succ, List.filter_append, List.map_append]
  simp
theorem woL_step (L : List (List Int)) {r k : Nat} (c : Nat) (h : k ≠ r) : woL L r c (k + 1) = woL L r c k ++ [woR (getl L k) c] := by
  unfold woL
  rw [List.range_succ, List.filter_append, List.map_append]
  simp [h]
theorem woL_len (L : List (List Int)) (r c k : Nat) : (woL L r c k).length ≤ k := by
  unfold woL
  rw [List.length_map]
  exact Nat.le_trans (List.length_filter_le _ _) (by simp)
theorem rowE_eq {L : List (List Int)} (h : IsT L) {i c : Nat} (hi : i < L.length) (hc : c < L.length) : (rowE L i).take c ++ ((rowE L i).drop (c + 1)).take (L.length - (c + 1)) = woR (getl L i) c := by
  have hrow := h.row i hi
  have hle := h.le
  have hre := rowE_len L i
  have e0 : ∀ k, k < L.length → geti (rowE L i) k = geti (getl L i) k := fun k hk => rowE_at L i (by omega)
  unfold woR
  have e1 : (rowE L i).take c = (getl L i).take c := by
    refine ext_geti (by rw [List.length_take, List.length_take]; omega) (fun k hk => ?_)
    rw [List.length_take] at hk
    have := e0 k (by omega)
    unfold geti at this ⊢
    rw [List.getD_eq_getElem?_getD, List.getD_eq_getElem?_getD] at this ⊢
    rw [List.getElem?_take, List.getElem?_take, if_pos (by omega), if_pos (by omega), this]
  have e2 : ((rowE L i).drop (c + 1)).take (L.length - (c + 1)) = (getl L i).drop (c + 1) := by
    refine ext_geti (by rw [List.length_take, List.length_drop, List.length_drop]; omega) (fun k hk => ?_)
    rw [List.length_take, List.length_drop] at hk
    have := e0 (c + 1 + k) (by omega)
    unfold geti at this ⊢
    rw [List.getD_eq_getElem?_getD, List.getD_eq_getElem?_getD] at this ⊢
    rw [List.getElem?_take, if_pos (by omega), List.getElem?_drop, List.getElem?_drop, this]
  rw [e1, e2]
theorem arrayLen71 : Try.prog.arrayLen 71 = 10 := by kernel_rfl
theorem elem71 : Try.prog.elem 71 = 70 := by kernel_rfl
theorem arrayLen70 : Try.prog.arrayLen 70 = 10 := by kernel_rfl
theorem elem70 : Try.prog.elem 70 = 3 := by kernel_rfl
theorem slice71_h {w : World} {b o h : Nat} (h2 : h ≤ 10) : (Instr.sliceAt 71 (.pointer (some ⟨b, o, none⟩)) none (some (.int .i64 h)) none).run Try.prog w = .ok (.slice (some ⟨b, o, none⟩) h 10) w := by
  cases hj : Try.prog.info? 70 with
  | none => have := info70; rw [hj] at this; cases this
  | some j =>
    have hs : j.size = 10 := by have := info70; rw [hj] at this; simpa using this
    rw [run_sliceAt_array_h w 71 ⟨b, o, none⟩ (by rw [arrayLen71, elem71]; exact Try.underlying71) .i64 h (by omega) (by rw [arrayLen71]; omega), elem71, arrayLen71]
    simp [run_sizeOf, hj, slicedAt, Addr.add]
theorem slice70_h {w : World} {b h : Nat} (h2 : h ≤ 10) : (Instr.sliceAt 70 (.pointer (some ⟨b, 0, none⟩)) none (some (.int .i64 h)) none).run Try.prog w = .ok (.slice (some ⟨b, 0, none⟩) h 10) w := by
  obtain ⟨j0, ji, jz0, jz1, jz2⟩ := info_parts info3
  rw [run_sliceAt_array_h w 70 ⟨b, 0, none⟩ (by rw [arrayLen70, elem70]; exact Try.underlying70) .i64 h (by omega) (by rw [arrayLen70]; omega), elem70, arrayLen70]
  simp [run_sizeOf, ji, slicedAt, Addr.add]
theorem slice70_lh {b l h : Nat} (h1 : l ≤ h) (h2 : h ≤ 10) : ∃ o, (l < 10 → o = l) ∧ ∀ w : World, (Instr.sliceAt 70 (.pointer (some ⟨b, 0, none⟩)) (some (.int .i64 l)) (some (.int .i64 h)) none).run Try.prog w = .ok (.slice (some ⟨b, o, none⟩) (h - l) (10 - l)) w := by
  obtain ⟨j0, ji, jz0, jz1, jz2⟩ := info_parts info3
  by_cases h3 : l < 10
  · refine ⟨l, fun _ => rfl, fun w => ?_⟩
    rw [run_sliceAt_array_lh w 70 ⟨b, 0, none⟩ (by rw [arrayLen70, elem70]; exact Try.underlying70) .i64 .i64 l h (by omega) (by omega) (by rw [arrayLen70]; omega), elem70, arrayLen70]
    simp [run_sizeOf, ji, slicedAt, Addr.add]
    rw [if_neg (by omega), Try.cells3, Nat.mul_one]
    split
    · rename_i h; simp []
    · rfl
  · obtain rfl : l = 10 := by omega
    obtain rfl : h = 10 := by omega
    refine ⟨0, fun h => absurd h (by omega), fun w => ?_⟩
    rw [run_sliceAt_array_lh w 70 ⟨b, 0, none⟩ (by rw [arrayLen70, elem70]; exact Try.underlying70) .i64 .i64 ((10 : Nat) : Int) ((10 : Nat) : Int) (by omega) (by omega) (by rw [arrayLen70]; omega), elem70, arrayLen70]
    simp [run_sizeOf, ji, slicedAt]
theorem without53_any (L : List (List Int)) (r c : Nat) (w : World) (h : IsT L) (hr : r < L.length) (hc : c < L.length) :
    Calls Try.prog 53 #[.agg (iv (grd L)).toArray, .int .i64 r, .int .i64 c] w fun e w' => ∃ A c' cs, e = .returned (.slice A (wo L r c).length c') ∧ w'.ownsRow w.heap.size 27 1 (.slice A (wo L r c).length c') (wo L r c).length cs ∧ RowsOwn w' w.heap.size cs (wo L r c) ∧ Below w.heap.size w w' := by
  obtain ⟨k0, ki, kz0, kz1, kz2⟩ := info_parts info27
  have hle := h.le
  have r0 : Row (w.alloc (.cells (iv (grd L)).toArray 73)) w.heap.size 73 (iv (grd L)) := row_new rfl
  have b0 : Below w.heap.size w (w.alloc (.cells (iv (grd L)).toArray 73)) := by (repeat (first | exact Below.refl _ _ | assumption | (refine Below.setCell ?_ (by first | exact Nat.le_refl _ | omega | (simp; done) | (simp; omega)) _) | (refine Below.trans ?_ (below_drewN _)) | (refine Below.drew ?_) | (refine Below.alloc ?_ (by first | exact Nat.le_refl _ | omega | (simp; done) | (simp; omega)) _) | (refine below_row ?_ (by first | exact Nat.le_refl _ | omega | (simp; done) | (simp; omega)) _)))
  have HC0 : Hid (∀ (W : World) (g : Nat), Row W g 73 (iv (grd L)) → W.cell? ⟨g, 0, none⟩ = some (.int .i64 (L.length : Int))) := Lib.hid (fun W g h => ivR h (i := 0) (by unfold grd; rw [grdP_len]; omega))
  have c0 := HC0.out _ _ r0
  have o0 : (w.alloc (.cells (iv (grd L)).toArray 73)).ownsRow w.heap.size 27 1 (.slice none 0 0) 0 [] := ⟨rfl, .inl ⟨rfl, rfl⟩⟩
  have R0 : Hid (RowsOwn (w.alloc (.cells (iv (grd L)).toArray 73)) w.heap.size [] (woL L r c 0)) := Lib.hid ⟨rfl, fun j hj => absurd hj (by simp [woL])⟩
  have HST := Lib.hid (fun k (hk : k ≠ r) => woL_step L c hk)
  have HSK := Lib.hid (woL_skip L r c)
  have HWL := Lib.hid (woL_len L r c)
  have HRE := Lib.hid (fun i (hi : i < L.length) => rowE_eq h hi hc)
  have hs1 : ∀ w' : World, (Instr.sliceAt 71 (.pointer (some ⟨w.heap.size, 1, none⟩)) none (some (.int .i64 L.length)) none).run Try.prog w' = .ok (.slice (some ⟨w.heap.size, 1, none⟩) L.length 10) w' := fun w' => slice71_h hle
  clear h
  go_enter Try.func53, Try.ntmps53
  go_wp2

  go_loopw [7, 15] (fun v i wr => ∃ (k m : Nat) (cs : List Value), k ≤ L.length ∧ i = .int .i64 k ∧ wr.ownsRow w.heap.size 27 1 v m cs ∧ Hid (RowsOwn wr w.heap.size cs (woL L r c k)) ∧ Row wr w.heap.size 73 (iv (grd L)) ∧ Below w.heap.size w wr) (fun _ i _ => L.length - (intOf i).toNat)
  case atStart => exact ⟨0, 0, [], by omega, rfl, o0, R0, r0, b0⟩
  case round =>
    clear o0 R0 r0 b0 c0
    obtain ⟨k, m, cs, hk, rfl, o0, HR, r0, b0⟩ := hrel
    have hm : m = (woL L r c k).length := by rw [← HR.out.1, o0.1, Nat.mul_one]
    subst hm
    have hml := HWL.out k
    obtain ⟨A2, c2, rfl⟩ := own_head o0
    by_cases hlt : k < L.length
    · have g1 : decide ((k : Int) < (L.length : Int)) = true := decide_eq_true (by omega)
      have hrg := row_range r0 (r := k) (by omega)
      have hrl : (rowE L k).length = 10 := rowE_len L k
      have hi7 : (Try.prog.info? 70).map (·.size) = some (iv (rowE L k)).length := by rw [iv_len, hrl]; exact info70
      have hir := info70_iv hrl
      have hsr : Z10.toArray.size = (iv (rowE L k)).toArray.size := by rw [List.size_toArray, List.size_toArray, iv_len, hrl]; rfl
      have nr : Row (wr.alloc (.cells Z10.toArray 70)) wr.heap.size 70 Z10 := row_new rfl
      have n2 : Row (wr.alloc (.cells (iv (rowE L k)).toArray 70)) wr.heap.size 70 (iv (rowE L k)) := row_new rfl
      have bs0 := b0.size
      have r1 := r0.alloc (.cells (iv (rowE L k)).toArray 70)
      have b1 := b0.alloc bs0 (.cells (iv (rowE L k)).toArray 70)
      have O1 := Lib.hid (o0.kept' ((Below.refl _ _).alloc (Nat.le_refl _) (.cells (iv (rowE L k)).toArray 70)))
      have R1 := Lib.hid (HR.out.below ((Below.refl _ _).alloc (Nat.le_refl _) (.cells (iv (rowE L k)).toArray 70)))
      have hbs : wr.heap.size + 1 ≤ (wr.alloc (.cells (iv (rowE L k)).toArray 70)).heap.size := by simp
      obtain ⟨W, hW⟩ : ∃ W, W = wr.alloc (.cells (iv (rowE L k)).toArray 70) := ⟨_, rfl⟩
      rw [← hW] at r1 b1 O1 R1 n2 hbs
      have HW := Lib.hid hW
      clear hW
      have hsa : ∀ w' : World, (Instr.sliceAt 70 (.pointer (some ⟨wr.heap.size, 0, none⟩)) none (some (.int .i64 c)) none).run Try.prog w' = .ok (.slice (some ⟨wr.heap.size, 0, none⟩) c 10) w' := fun w' => slice70_h (by omega)
      obtain ⟨o, ho, hsb⟩ := slice70_lh (b := wr.heap.size) (l := c + 1) (h := L.length) (by omega) hle
      rw [show (((c + 1 : Nat)) : Int) = IntKind.i64.wrap ((c : Int) + 1) from (IntWalk.i64_in _ (by omega)).symm] at hsb
      have HST1 := Lib.hid (fun h => HST.out k h)
      have HRE1 := Lib.hid (HRE.out k hlt)
      clear o0 HR b0 r0
      by_cases hkr : k = r
      · have g2 : ((k : Int) != (r : Int)) = false := by simp [hkr]
        have HKR := Lib.hid hkr
        clear hkr
        go_wp2_with (first
          | ((with_reducible refine (?_ : wpList _ _ _ (Oper.mk (some 19) _ _ _ _ _ :: _) _ _)); refine wpList_load_mid rfl 70 (.tmp 18) rfl w.heap.size (1 + k * 10) rfl (iv (rowE L k)) _ hrg Try.underlying70 rfl hi7 ?_)
          | ((with_reducible refine (?_ : wpList _ _ _ (Oper.mk none _ _ _ _ _ :: _) _ _)); refine wpList_store_row rfl 70 (.tmp 9) (.tmp 19) rfl wr.heap.size (iv (rowE L k)).toArray rfl rfl 70 Z10.toArray (row_heap nr) hir hsr (iv_all _) ?_; rw [setRow_alloc, ← HW.out]))
        go_roundw
        case rel =>
          obtain rfl := HKR.out
          exact ⟨k + 1, _, cs, by omega, by go_num, O1.out, Lib.hid (by rw [HSK.out]; exact R1.out), r1, b1⟩
        case measure => simp [intOf]; omega
      · have g2 : ((k : Int) != (r : Int)) = true := by simp; omega
        go_wp2_with (first
          | ((with_reducible refine (?_ : wpList _ _ _ (Oper.mk (some 19) _ _ _ _ _ :: _) _ _)); refine wpList_load_mid rfl 70 (.tmp 18) rfl w.heap.size (1 + k * 10) rfl (iv (rowE L k)) _ hrg Try.underlying70 rfl hi7 ?_)
          | ((with_reducible refine (?_ : wpList _ _ _ (Oper.mk none _ _ _ _ _ :: _) _ _)); refine wpList_store_row rfl 70 (.tmp 9) (.tmp 19) rfl wr.heap.size (iv (rowE L k)).toArray rfl rfl 70 Z10.toArray (row_heap nr) hir hsr (iv_all _) ?_; rw [setRow_alloc, ← HW.out]))
        have hkr2 := Lib.hid (HST1.out hkr)
        have c0 := HC0.out _ _ r1
        have hgW := r1.lt
        obtain ⟨cp, hcp⟩ : ∃ cp, cp = 10 - (c + 1) := ⟨_, rfl⟩
        rw [← hcp] at hsb
        clear hcp
        have q2 : Row ((W.alloc (.cells #[.slice (some ⟨wr.heap.size, 0, none⟩) c 10, .slice (some ⟨wr.heap.size, o, none⟩) (L.length - (c + 1)) cp] 27)).drew) W.heap.size 27 [.slice (some ⟨wr.heap.size, 0, none⟩) c 10, .slice (some ⟨wr.heap.size, o, none⟩) (L.length - (c + 1)) cp] := (row_new rfl).drew
        have bV : Below W.heap.size W ((W.alloc (.cells #[.slice (some ⟨wr.heap.size, 0, none⟩) c 10, .slice (some ⟨wr.heap.size, o, none⟩) (L.length - (c + 1)) cp] 27)).drew) := ((Below.refl _ _).alloc (Nat.le_refl _) _).drew
        have HCC : Hid (Calls Try.prog 69 #[.slice (some ⟨W.heap.size, 0, none⟩) 2 2] ((W.alloc (.cells #[.slice (some ⟨wr.heap.size, 0, none⟩) c 10, .slice (some ⟨wr.heap.size, o, none⟩) (L.length - (c + 1)) cp] 27)).drew) fun e w' => ∃ v, e = .returned v ∧ w'.ownsRow W.heap.size 3 1 v (woR (getl L k) c).length (iv (woR (getl L k) c)) ∧ Below W.heap.size W w') := Lib.hid (by
          generalize World.drew _ = V at *
          have n3 := n2.below bV
          have l1 : ((rowE L k).take c).length = c := by rw [List.length_take]; omega
          have l2 : (((rowE L k).drop (c + 1)).take (L.length - (c + 1))).length = L.length - (c + 1) := by rw [List.length_take, List.length_drop]; omega
          have i1 : IntsAt V (some ⟨wr.heap.size, 0, none⟩) ((rowE L k).take c) := fun _ => ⟨_, 0, rfl, n3.lt, fun j hj => by
            rw [l1] at hj
            rw [Nat.zero_add, ivR n3 (i := j) (by omega), geti_take _ _ _ hj]⟩
          have i2 : IntsAt V (some ⟨wr.heap.size, o, none⟩) (((rowE L k).drop (c + 1)).take (L.length - (c + 1))) := fun hp => ⟨_, o, rfl, n3.lt, fun j hj => by
            rw [l2] at hp hj
            rw [ho (by omega), ivR n3 (i := c + 1 + j) (by omega), geti_take _ _ _ hj]
            unfold geti; rw [List.getD_eq_getElem?_getD, List.getD_eq_getElem?_getD, List.getElem?_drop]⟩
          have hC := Concat2_any W.heap.size wr.heap.size 0 10 wr.heap.size o cp _ _ _ (by omega) (by omega) (by rw [l1, l2]; exact q2) i1 i2
          rw [HRE1.out] at hC
          exact hC.mono fun e w' ⟨v, h1, h2, h3⟩ => ⟨v, h1, own_mono h2 bV.size, bV.trans (h3.mono bV.size)⟩)
        clear q2 bV
        have KS : Hid (∀ w', Row w' w.heap.size 73 (iv (grd L)) → (w'.cell? ⟨w.heap.size, 0, none⟩ = some (.int .i64 L.length) ∧ Hid (Row w' w.heap.size 73 (iv (grd L))))) := Lib.hid fun w' h => ⟨HC0.out _ _ h, Lib.hid h⟩
        have hb1 := b1.size
        clear hrg hi7 hir hsr nr HST1 hkr n2 c0
        generalize hX : woR (getl L k) c = X at *
        clear hX
        go_region_held3 (fun w' => w'.cell? ⟨w.heap.size, 0, none⟩ = some (.int .i64 L.length) ∧ Hid (Row w' w.heap.size 73 (iv (grd L)))) (first | assumption | exact KS.out _ r1.drew | exact KS.out _ (r1.alloc _).drew | exact KS.out _ r8 | exact KS.out _ (r8.alloc _) | exact KS.out _ r9) ((first
          | ((with_reducible refine HCC.out.mono ?_); rintro e w8 ⟨v8, rfl, o8, b8⟩; obtain ⟨A8, c8, rfl, -, -, -⟩ := own_intsI o8; have r8 := r1.below b8; have O8 := O1.out.kept' b8; have hb8 := b8.size)
          | (refine step_append_own_at rfl (.tmp 23) (.tmp 33) 22 rfl w.heap.size 27 k0 (.slice none 0 0) 1 24 Try.underlying22 ki kz0 kz1 kz2 rfl Nat.zero_lt_one _ (woL L r c k).length _ rfl (O8.alloc _) ⟨w8.heap.size, 0, none⟩ 1 1 [.slice A8 X.length c8] rfl rfl ?_ ?_ ?_ ?_ ?_ ?_; exact news_one (row_new rfl); simp [Value.oneCell']; (unfold maxLen; omega); omega; (simp; omega); intro v9 w9 o9 hg9; have r8a := r8.alloc (.cells #[.slice A8 X.length c8] 27); have O8a := O8.alloc (.cells #[.slice A8 X.length c8] 27); have r9 := r8a.grown hg9 (r8a.not_own O8a (by decide)); have b9 := b1.trans ((b8.mono hb1).trans (app1' O8 (by omega) hg9)); have R9 := Lib.hid ((((R1.out.below b8).add (r := X) (own_mono o8 hb1)).below ((Below.refl _ _).alloc (Nat.le_refl _) _)).grown (O8.alloc _) (by decide) hg9))))
        go_wp2
        go_roundw
        case rel =>
          exact ⟨k + 1, _, _, by omega, by go_num, o9, Lib.hid (by rw [hkr2.out]; exact R9.out), r9, b9⟩
        case measure => simp [intOf]; omega
    · obtain rfl : k = L.length := by omega
      have g1 : decide ((L.length : Int) < (L.length : Int)) = false := decide_eq_false (by omega)
      go_wp2
      go_ret
      exact ⟨_, _, _, rfl, o0, HR.out, b0⟩
end Go.Proofs.Ytnnaaoobdofooaa
