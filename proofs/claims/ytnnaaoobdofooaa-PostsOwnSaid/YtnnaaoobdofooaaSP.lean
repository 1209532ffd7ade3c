/- Joining rows to columns. -/
import Derived.Test.YtnnaaoobdofooaaSO
import Derived.Laws.EntriesVeiled
namespace Go.Proofs.Ytnnaaoobdofooaa
open Go.RowKit
set_option maxHeartbeats 1000000
set_option maxRecDepth 100000
theorem find_any (L : List (List Int)) (hL : IsT L) (G R J F B st : Nat) (hR : B ≤ R) (hJ : B ≤ J) : ∀ (f row s : Nat) (M : List Int) (w : World), row < L.length → s < 65536 → MOk L.length M → L.length - pc L.length s ≤ f → FSt w G R J F L s M st →
    Calls Try.prog 70 #[.int .i64 row, .pointer (some ⟨G, 0, none⟩), .pointer (some ⟨R, 0, none⟩), .pointer (some ⟨J, 0, none⟩), .pointer (some ⟨F, 0, none⟩)] w (FindR L G R J F B st w s (fd L f row (s, M)))
  | 0, row, s, M, w, hrow, hs, hM, hf, h => find_loop L hL G R J F B st hR hJ _ row s M w hrow hs hM (fun r2 s2 M2 V _ _ _ hlt _ => absurd hlt (by have := pc_le L.length s2; omega)) h
  | f + 1, row, s, M, w, hrow, hs, hM, hf, h => find_loop L hL G R J F B st hR hJ (fd L f) row s M w hrow hs hM (fun r2 s2 M2 V h1 h2 h3 hlt h4 => find_any L hL G R J F B st hR hJ f r2 s2 M2 V h1 h2 h3 (by omega) h4) h
/-- The rows joined, and the columns that are stuck, after so many rows. -/
def jnS (st : Nat) : Bool × Nat × List Int → Nat × List Int
  | (true, _, M) => (st, M)
  | (false, s, M) => (s, M)
def jn (L : List (List Int)) : Nat → Nat × List Int
  | 0 => (0, List.replicate 10 (-1))
  | k + 1 => jnS (jn L k).1 (fd L L.length k (jn L k))
theorem jc_len (n : Nat) (M : List Int) (st : Nat) (h : M.length = 10) : (jc n M st).length = 12 := by unfold jc; simp [iv_len, h]
/-- While the columns are marked as free. -/
def iniM (k : Nat) : List Int := (List.range 10).map fun i => if i < k then -1 else 0
theorem iniM_len (k : Nat) : (iniM k).length = 10 := by simp [iniM]
theorem iniM_step {k : Nat} (h : k < 10) : (iniM k).set k (-1) = iniM (k + 1) := by
  refine ext_geti (by rw [List.length_set, iniM_len, iniM_len]) (fun i hi => ?_)
  rw [List.length_set, iniM_len] at hi
  rw [geti_set (by rw [iniM_len]; exact h)]
  unfold iniM
  rw [geti_map hi, geti_map hi]
  by_cases e : k = i
  · subst e; rw [if_pos rfl, if_pos (by omega)]
  · rw [if_neg e]
    by_cases e2 : i < k
    · rw [if_pos e2, if_pos (by omega)]
    · rw [if_neg e2, if_neg (by omega)]
theorem iniM_end : iniM 10 = List.replicate 10 (-1) := by decide
theorem jc_z : jc 0 (iniM 0) 0 = [.int .i64 0, .int .i64 0, .int .i64 0, .int .i64 0, .int .i64 0, .int .i64 0, .int .i64 0, .int .i64 0, .int .i64 0, .int .i64 0, .int .i64 0, .int .u16 0] := rfl
theorem jc_st {n : Nat} {M : List Int} {st : Nat} (hM : M.length = 10) : (jc n M st)[11]? = some (.int .u16 st) := by
  unfold jc
  rw [List.getElem?_cons_succ, List.getElem?_append_right (by rw [iv_len]; omega), iv_len, hM]; rfl
theorem jc_setSt {n : Nat} {M : List Int} {st : Nat} (hM : M.length = 10) (s2 : Nat) : (jc n M st).set 11 (.int .u16 s2) = jc n M s2 := by
  unfold jc
  rw [List.set_cons_succ, List.set_append_right _ _ (by rw [iv_len]; omega), iv_len, hM]; rfl
theorem FSt.setS {W : World} {G R J F : Nat} {L : List (List Int)} {s : Nat} {M : List Int} {st : Nat} (h : FSt W G R J F L s M st) (hM : M.length = 10) (s2 : Nat) : FSt (W.setCell ⟨J, 11, none⟩ (.int .u16 s2)) G R J F L s M s2 :=
  ⟨h.g.far (h.g.ne h.j (by decide)) _, h.r.far (h.r.ne h.j (by decide)) _, by have := h.j.set 11 (.int .u16 s2); rwa [jc_setSt hM] at this, h.f.far (h.f.ne h.j (by decide)) _⟩
theorem iniM_ok (n : Nat) : MOk n (iniM 10) := ⟨iniM_len 10, fun c hc => Or.inl (by unfold iniM; rw [geti_map hc, if_pos hc])⟩
theorem info87 : (Try.prog.info? 87).map (·.size) = some 12 := by kernel_rfl
theorem jc_one (n : Nat) (M : List Int) (st : Nat) : (jc n M st).toArray.all (·.oneCell') = true := by
  unfold jc; simp [iv, Value.oneCell']
theorem Row.belowB {w w' : World} {B g : Nat} {t : TypeId} {cs : List Value} (h : Row w g t cs) (k : Below B w w') (hg : g < B) : Row w' g t cs := (k.block g hg).trans h
theorem join_any (L : List (List Int)) (w : World) (h : IsT L) :
    Calls Try.prog 55 #[.agg (iv (grd L)).toArray] w fun e w' => e = .returned (.agg (jc L.length (jn L L.length).2 (jn L L.length).1).toArray) ∧ Below w.heap.size w w' := by
  have hle := h.le
  have r0 : Row ((w.alloc (.cells (iv (grd L)).toArray 73)).alloc (.cells (jc 0 (iniM 0) 0).toArray 87)) w.heap.size 73 (iv (grd L)) := (row_new rfl).alloc _
  have c0 : ((w.alloc (.cells (iv (grd L)).toArray 73)).alloc (.cells (jc 0 (iniM 0) 0).toArray 87)).cell? ⟨w.heap.size, 0, none⟩ = some (.int .i64 (L.length : Int)) := ivR r0 (i := 0) (by unfold grd; rw [grdP_len]; omega)
  have r1 : Row (((w.alloc (.cells (iv (grd L)).toArray 73)).alloc (.cells (jc 0 (iniM 0) 0).toArray 87)).alloc (.cells (jc L.length (iniM 0) 0).toArray 87)) w.heap.size 73 (iv (grd L)) := ((row_new rfl).alloc _).alloc _
  have p1 : Row (((w.alloc (.cells (iv (grd L)).toArray 73)).alloc (.cells (jc 0 (iniM 0) 0).toArray 87)).alloc (.cells (jc L.length (iniM 0) 0).toArray 87)) (w.heap.size + 1) 87 (jc 0 (iniM 0) 0) := (row_new (by simp)).alloc _
  have q1 : Row (((w.alloc (.cells (iv (grd L)).toArray 73)).alloc (.cells (jc 0 (iniM 0) 0).toArray 87)).alloc (.cells (jc L.length (iniM 0) 0).toArray 87)) (w.heap.size + 1 + 1) 87 (jc L.length (iniM 0) 0) := row_new (by simp)
  have b1 : Below w.heap.size w (((w.alloc (.cells (iv (grd L)).toArray 73)).alloc (.cells (jc 0 (iniM 0) 0).toArray 87)).alloc (.cells (jc L.length (iniM 0) 0).toArray 87)) := by (repeat (first | exact Below.refl _ _ | assumption | (refine Below.setCell ?_ (by first | exact Nat.le_refl _ | omega | (simp; done) | (simp; omega)) _) | (refine Below.trans ?_ (below_drewN _)) | (refine Below.drew ?_) | (refine Below.alloc ?_ (by first | exact Nat.le_refl _ | omega | (simp; done) | (simp; omega)) _) | (refine below_row ?_ (by first | exact Nat.le_refl _ | omega | (simp; done) | (simp; omega)) _)))
  have HSM : Hid (∀ k, k < 10 → (iniM k).set k (-1) = iniM (k + 1)) := Lib.hid (fun k hk => iniM_step hk)
  have HIL := Lib.hid iniM_len
  rw [jc_z] at c0
  go_enter Try.func55, Try.ntmps55
  go_wp2
  have hzz : (w.heap.size + 1 + 1) + 1 ≤ ((((w.alloc (.cells (iv (grd L)).toArray 73)).alloc (.cells (jc 0 (iniM 0) 0).toArray 87)).alloc (.cells (jc L.length (iniM 0) 0).toArray 87))).heap.size := by simp
  go_loopw [11] (fun v wr => ∃ k : Nat, k ≤ 10 ∧ v = .int .i64 k ∧ Row wr w.heap.size 73 (iv (grd L)) ∧ Row wr (w.heap.size + 1) 87 (jc 0 (iniM 0) 0) ∧ Row wr (w.heap.size + 1 + 1) 87 (jc L.length (iniM k) 0) ∧ Below w.heap.size w wr) (fun v _ => 10 - (intOf v).toNat)
  case atStart => exact ⟨0, by omega, rfl, r1, p1, q1, b1⟩
  case round =>
    clear r0 c0 r1 p1 q1 b1 hzz
    obtain ⟨k, hk, rfl, r1, p1, q1, b1⟩ := hrel
    by_cases hlt : k < 10
    · have g1 : decide ((k : Int) < 10) = true := decide_eq_true (by omega)
      have d1 := q1.cell (1 + k)
      have d2 := q1.free (1 + k)
      have d3 : (jc L.length (iniM k) 0)[1 + k]? = some (.int .i64 (geti (iniM k) k)) := by
        unfold jc
        rw [Nat.add_comm, List.getElem?_cons_succ, List.getElem?_append_left (by rw [iv_len, HIL.out]; omega)]
        unfold iv
        rw [List.getElem?_map, List.getElem?_eq_getElem (by rw [HIL.out]; omega), geti_eq (by rw [HIL.out]; omega)]; rfl
      rw [d3] at d1
      have HJS := Lib.hid (jc_set (n := L.length) (st := 0) (HIL.out k) hlt (-1))
      have HS1 := Lib.hid (HSM.out k hlt)
      clear d3
      go_wp2
      go_roundw
      case rel =>
        refine ⟨k + 1, by omega, by go_num, r1.far (by dsimp only; omega) _, p1.far (by dsimp only; omega) _, ?_, b1.setCell (by dsimp only; omega) _⟩
        have hq := q1.set (1 + k) (.int .i64 (-1))
        rw [HJS.out, HS1.out] at hq
        exact hq
      case measure => simp [intOf]; omega
    · have e10 : k = 10 := by omega
      have g1 : decide ((k : Int) < 10) = false := decide_eq_false (by omega)
      rw [e10] at q1
      clear e10
      have F0 : FSt ((wr.alloc (.cells #[.int .u16 0] 79)).alloc (.cells #[FV w.heap.size wr.heap.size (w.heap.size + 1 + 1) (wr.heap.size + 1)] 99)) w.heap.size wr.heap.size (w.heap.size + 1 + 1) (wr.heap.size + 1) L 0 (iniM 10) 0 :=
        ⟨(r1.alloc _).alloc _, (row_new rfl).alloc _, (q1.alloc _).alloc _, row_new (by simp)⟩
      have p2 := (p1.alloc (.cells #[.int .u16 0] 79)).alloc (.cells #[FV w.heap.size wr.heap.size (w.heap.size + 1 + 1) (wr.heap.size + 1)] 99)
      have hbs := b1.size
      have hq1 := q1.lt
      have b2 := (b1.alloc hbs (.cells #[.int .u16 0] 79)).alloc (by simp; omega) (.cells #[FV w.heap.size wr.heap.size (w.heap.size + 1 + 1) (wr.heap.size + 1)] 99)
      have c1 := (F0.cells (iniM_ok L.length).len).1
      unfold FV at F0 p2 b2 c1
      have HF0 := Lib.hid F0
      obtain ⟨W, hW⟩ : ∃ W, W = wr := ⟨_, rfl⟩
      subst hW
      have hJ0 : Hid (jn L 0 = (0, iniM 10)) := Lib.hid (by rw [iniM_end]; rfl)
      have HM0 : Hid (MOk L.length (jn L 0).2) := Lib.hid (by rw [hJ0.out]; exact iniM_ok _)
      have F1 : Hid (FSt ((W.alloc (.cells #[.int .u16 0] 79)).alloc (.cells #[.func (.func 70) #[] #[.pointer (some ⟨w.heap.size, 0, none⟩), .pointer (some ⟨W.heap.size, 0, none⟩), .pointer (some ⟨w.heap.size + 1 + 1, 0, none⟩), .pointer (some ⟨W.heap.size + 1, 0, none⟩)]] 99)) w.heap.size W.heap.size (w.heap.size + 1 + 1) (W.heap.size + 1) L 0 (jn L 0).2 (jn L 0).1) := Lib.hid (by rw [hJ0.out]; exact HF0.out)
      have HS0 : Hid ((jn L 0).1 < 65536) := Lib.hid (by rw [hJ0.out]; decide)
      have HRB : w.heap.size + 1 + 1 ≤ W.heap.size := by omega
      have HFN := Lib.hid (fun (row s : Nat) (M : List Int) (V : World) (st : Nat) h1 h2 h3 h5 => find_any L h w.heap.size W.heap.size (w.heap.size + 1 + 1) (W.heap.size + 1) (w.heap.size + 1 + 1) st HRB (Nat.le_refl _) L.length row s M V h1 h2 h3 (Nat.sub_le _ _) h5)
      have HJN : Hid (∀ k, jn L (k + 1) = jnS (jn L k).1 (fd L L.length k (jn L k))) := Lib.hid (fun k => rfl)
      clear HF0 hJ0 h
      go_wp2
      go_loopw [21] (fun v wr2 => ∃ k s : Nat, k ≤ L.length ∧ v = .int .i64 k ∧ s < 65536 ∧ Hid (FSt wr2 w.heap.size W.heap.size (w.heap.size + 1 + 1) (W.heap.size + 1) L s (jn L k).2 (jn L k).1) ∧ Hid ((jn L k).1 < 65536) ∧ Hid (MOk L.length (jn L k).2) ∧ Row wr2 (w.heap.size + 1) 87 (jc 0 (iniM 0) 0) ∧ Below w.heap.size w wr2) (fun v _ => L.length - (intOf v).toNat)
      case atStart => exact ⟨0, 0, by omega, rfl, by decide, F1, HS0, HM0, p2, b2⟩
      case round =>
        clear F1 HS0 HM0 p2 b2 c1
        obtain ⟨k, s, hk, rfl, hs, HF, HS, HM, p2, b2⟩ := hrel
        obtain ⟨X, hX⟩ : ∃ X, fd L L.length k (jn L k) = X := ⟨_, rfl⟩
        have HJ1 := HJN.out k
        rw [hX] at HJ1
        have HJ2 := Lib.hid HJ1
        obtain ⟨st, M, hsm⟩ : ∃ st M, jn L k = (st, M) := ⟨_, _, rfl⟩
        rw [hsm] at HF HS HM hX HJ1
        have HJ3 := Lib.hid HJ1
        clear HJ1 HJ2
        by_cases hlt : k < L.length
        · have g1 : decide ((k : Int) < (L.length : Int)) = true := decide_eq_true (by omega)
          have hMl := HM.out.len
          have F2 := Lib.hid (HF.out.setR st)
          have HC := Lib.hid (HFN.out k st M _ st hlt HS.out HM.out F2.out)
          obtain ⟨c0, c1, c2, c3, -⟩ := HF.out.cells hMl
          have d1 := HF.out.j.cell 11
          rw [jc_st hMl] at d1
          have d2 := c3
          unfold FV at d2
          have d3 := (F2.out.f).cells1.1
          unfold FV at d3
          have hRl := HF.out.r.lt
          rw [hX] at HC
          obtain ⟨bx, s2, M2⟩ := X
          have b3 := b2.setCell (p := ⟨W.heap.size, 0, none⟩) (by dsimp only; omega) (.int .u16 st)
          have p3 := p2.far (p := ⟨W.heap.size, 0, none⟩) (by dsimp only; omega) (.int .u16 st)
          clear hX hsm c3 HF
          go_wp2_with (go_at_call 70; fail)
          refine HC.out.mono ?_
          rintro e w5 ⟨rfl, F5, hs5, HM5, hpc5, b5⟩
          replace F5 : FSt w5 w.heap.size W.heap.size (w.heap.size + 1 + 1) (W.heap.size + 1) L s2 M2 st := F5
          replace hs5 : s2 < 65536 := hs5
          replace HM5 : MOk L.length M2 := HM5
          have p5 := p3.belowB b5 (by omega)
          have b6 := b3.trans (b5.mono (by omega))
          clear hpc5 b5 b3 p3 HC F2 c0 c1 c2 d1 d2 d3
          cases bx
          · have e1 := F5.r.cells1.1
            have e2 := F5.j.cell 11
            rw [jc_st HM5.len] at e2
            have e3 := F5.j.free 11
            have F6 := Lib.hid (F5.setS HM5.len s2)
            have b7 := b6.setCell (p := ⟨w.heap.size + 1 + 1, 11, none⟩) (by dsimp only; omega) (.int .u16 s2)
            have p7 := p5.far (p := ⟨w.heap.size + 1 + 1, 11, none⟩) (by dsimp only; omega) (.int .u16 s2)
            have HMM := Lib.hid HM5
            have HJ4 : Hid (jn L (k + 1) = (s2, M2)) := Lib.hid HJ3.out
            clear F5 HJ3 HM5 b6 p5
            go_wp2
            go_roundw
            case rel => exact ⟨k + 1, s2, by omega, by go_num, hs5, Lib.hid (by rw [HJ4.out]; exact F6.out), Lib.hid (by rw [HJ4.out]; exact hs5), Lib.hid (by rw [HJ4.out]; exact HMM.out), p7, b7⟩
            case measure => simp [intOf]; omega
          · have HF6 := Lib.hid F5
            have HMM := Lib.hid HM5
            have HJ4 : Hid (jn L (k + 1) = (st, M2)) := Lib.hid HJ3.out
            clear F5 HJ3 HM5
            go_wp2
            go_roundw
            case rel => exact ⟨k + 1, s2, by omega, by go_num, hs5, Lib.hid (by rw [HJ4.out]; exact HF6.out), Lib.hid (by rw [HJ4.out]; exact HS.out), Lib.hid (by rw [HJ4.out]; exact HMM.out), p5, b6⟩
            case measure => simp [intOf]; omega
        · obtain rfl : k = L.length := by omega
          have g1 : decide ((L.length : Int) < (L.length : Int)) = false := decide_eq_false (by omega)
          have HSM2 := Lib.hid hsm
          have hMl := HM.out.len
          have r9 := HF.out.j
          have hi : (Try.prog.info? 87).map (·.size) = some (jc L.length M st).toArray.size := by rw [List.size_toArray, jc_len _ _ _ hMl]; exact info87
          have hsz : (jc 0 (iniM 0) 0).toArray.size = (jc L.length M st).toArray.size := by rw [List.size_toArray, List.size_toArray, jc_len _ _ _ hMl, jc_len _ _ _ (iniM_len 0)]
          have HRES : Hid ((loadVar 87 ⟨w.heap.size + 1, 0, none⟩).run Try.prog (wr.setRow (w.heap.size + 1) (jc L.length M st).toArray) = .ok (.agg (jc L.length M st).toArray) (wr.setRow (w.heap.size + 1) (jc L.length M st).toArray)) := Lib.hid (run_loadVar_row (P := Try.prog) _ (w.heap.size + 1) 87 87 (jc L.length M st).toArray (0, 0) _ (row_heap (p2.row (jc L.length M st))) Try.underlying87 rfl hi)
          clear hsm hX HJ3
          go_wp2_with (first
            | (with_reducible refine (?_ : wpList _ _ _ (Oper.mk _ (Op.load 87 _) _ _ _ _ :: _) _ _); refine wpList_load_row rfl 87 _ rfl (w.heap.size + 1 + 1) rfl 87 (jc L.length M st).toArray (0, 0) _ (row_heap r9) Try.underlying87 rfl hi ?_)
            | (with_reducible refine (?_ : wpList _ _ _ (Oper.mk _ (Op.store 87 _ _) _ _ _ _ :: _) _ _); refine wpList_store_row rfl 87 _ _ rfl (w.heap.size + 1) (jc L.length M st).toArray rfl rfl 87 (jc 0 (iniM 0) 0).toArray (row_heap p2) hi hsz (jc_one _ _ _) ?_))
          exact bodyPost_ret (v := .agg (jc L.length M st).toArray) (res1 Try.results55 rfl HRES.out) rfl ⟨by rw [HSM2.out], below_row b2 (by omega) _⟩
end Go.Proofs.Ytnnaaoobdofooaa
