/- The permanents of all sets of columns, in a map. -/
import Derived.Test.YtnnaaoobdofooaaRG
import Derived.Maps.OwnSet
import Derived.Maps.Own
import Derived.Maps.OwnOps
import Derived.Maps.Views
import Derived.Maps.Keyed
namespace Go.Proofs.Ytnnaaoobdofooaa
open Go.RowKit
set_option maxHeartbeats 1000000
set_option maxRecDepth 100000
theorem K79 : Maps.Keyed Try.prog 79 := Maps.int_keyed Try.underlying79
theorem wf_u16 {s : Nat} (h : s < 65536) : (Lit.int .u16 (s : Int)).wf = true := by
  have h1 : IntKind.u16.min = 0 := by decide
  have h2 : IntKind.u16.max = 65535 := by decide
  simp [Lit.wf, h1, h2]; omega
theorem wf_i64 {x : Int} (h1 : -9223372036854775808 ≤ x) (h2 : x ≤ 9223372036854775807) : (Lit.int .i64 x).wf = true := by
  simp [Lit.wf]
  exact ⟨h1, h2⟩
theorem key79 {s : Nat} (h : s < 65536) : keyOf Try.prog 79 (.int .u16 s) = some (.int .u16 s) := Maps.keyOf_int_mk Try.underlying79 (wf_u16 h)
/-- The map behind so many sets. -/
noncomputable def PD {H : Type} (L : List (List Int)) : Nat → DataW H
  | 0 => DataW.put (.map []) (.int .u16 (0 : Nat)) (.lit (.int .i64 1))
  | k + 1 => (PD L k).put (.int .u16 ((k + 1 : Nat) : Int)) (.lit (.int .i64 (prm L (k + 1))))
theorem PD_map {H : Type} (L : List (List Int)) : ∀ k, Maps.IsMap (PD (H := H) L k)
  | 0 => Maps.IsMap.put Maps.isMap_empty _ _
  | k + 1 => Maps.IsMap.put (PD_map L k) _ _
theorem lit_ne {a b : Nat} (h : a ≠ b) : (Lit.int .u16 (a : Int)) ≠ .int .u16 (b : Int) := fun e => by
  injection e with _ e
  exact h (by omega)
theorem PD_at {H : Type} (L : List (List Int)) {j : Nat} (hj : j < 65536) (z : DataW H) : ∀ {k : Nat}, j ≤ k → (PD L k).atKey (.int .u16 (j : Int)) z = .lit (.int .i64 (prm L j))
  | 0, h => by
    obtain rfl : j = 0 := by omega
    show (DataW.put (.map []) (.int .u16 (0 : Nat)) (.lit (.int .i64 1))).atKey (.int .u16 ((0 : Nat) : Int)) z = _
    rw [Maps.atKey_put_same Maps.isMap_empty (K79.key (key79 hj)) _ z, prm_zero]
  | k + 1, h => by
    by_cases e : j = k + 1
    · subst e
      show ((PD L k).put (.int .u16 ((k + 1 : Nat) : Int)) _).atKey _ z = _
      rw [Maps.atKey_put_same (PD_map L k) (K79.key (key79 hj)) _ z]
    · show ((PD L k).put (.int .u16 ((k + 1 : Nat) : Int)) _).atKey _ z = _
      rw [Maps.atKey_put_other (lit_ne e)]
      exact PD_at L hj z (by omega)
theorem look76 {L : List (List Int)} {W : World} {g n k s : Nat} (hm : W.ownsMap (H := Unit) Try.prog 79 (plainElem Try.prog 3) g n (PD L k)) (hs : s ≤ k) (hs2 : s < 65536) :
    (Instr.lookup 76 (.map (some g)) (.int .u16 s) false).run Try.prog W = .ok (.int .i64 (prm L s)) W := by
  have hz : (zeroValue 3).run Try.prog W = .ok (.int .i64 0) W := by kernel_rfl
  obtain ⟨c, h1, h2, -⟩ := hm.lookup_int K79 Try.underlying76 Try.underlying3 hz (key79 hs2)
  rw [PD_at L hs2 _ hs] at h2
  injection h2 with h2
  injection h2 with _ h2
  rw [h1, ← h2]
/-- A map that has the permanents of all sets of the first columns. -/
def PrmAt (W : World) (g n : Nat) (L : List (List Int)) : Prop := ∃ obj, W.heap[g]? = some obj ∧ ∀ (V : World), V.heap[g]? = some obj → ∀ s : Nat, s < 2^n → (Instr.lookup 76 (.map (some g)) (.int .u16 s) false).run Try.prog V = .ok (.int .i64 (prm L s)) V
theorem prmAt_of {L : List (List Int)} {W : World} {g m n k : Nat} (hm : W.ownsMap (H := Unit) Try.prog 79 (plainElem Try.prog 3) g m (PD L k)) (hk : 2^n ≤ k + 1) (hn : n ≤ 10) : PrmAt W g n L := by
  obtain ⟨es, clock, hb, F, hs, e⟩ := hm
  refine ⟨_, hb, fun V hV s hs2 => ?_⟩
  have h2 : V.ownsMap (H := Unit) Try.prog 79 (plainElem Try.prog 3) g m (PD L k) := ⟨es, clock, hV, F, hs, e⟩
  have h3 : 2^n ≤ 2^10 := Nat.pow_le_pow_right (by omega) hn
  exact look76 h2 (by omega) (by omega)
theorem row_range {W : World} {g : Nat} {L : List (List Int)} (h : Row W g 73 (iv (grd L))) {r : Nat} (hr : r < 10) : W.rangeAt g (1 + r * 10) (iv (rowE L r)) := fun j v hj => by
  have hl := (List.getElem?_eq_some_iff.1 hj).1
  rw [iv_len, rowE_len] at hl
  have h1 := ivR h (i := 1 + r * 10 + j) (by unfold grd; rw [grdP_len]; omega)
  rw [Nat.add_assoc, grd_at L hr hl, ← Nat.add_assoc] at h1
  rw [h1, ← hj, iv, List.getElem?_map, List.getElem?_eq_getElem (by rw [rowE_len]; exact hl), ← geti_eq, rowE_at L r hl]; rfl
theorem map_drewN {H : Type} {w : World} {k : TypeId} {R : Value → Option (DataW H × List MemPlace)} {b n : Nat} {D : DataW H} (h : w.ownsMap Try.prog k R b n D) (m : Nat) : (w.drewN m).ownsMap Try.prog k R b n D :=
  h.kept (row := none) ⟨rfl, rfl, rfl, Nat.le_refl _, fun _ _ _ => rfl⟩ (by simp)
theorem permanents_any (L : List (List Int)) (w : World) (h : IsT L) :
    Calls Try.prog 49 #[.agg (iv (grd L)).toArray] w fun e w' => ∃ g, e = .returned (.map (some g)) ∧ w.heap.size ≤ g ∧ PrmAt w' g L.length L ∧ Below w.heap.size w w' := by
  have hle := h.le
  have hmm := @run_makeMap Try.prog
  have r0 : Row ((w.alloc (.cells (iv (grd L)).toArray 73)).alloc (.map #[] 0)) w.heap.size 73 (iv (grd L)) := (row_new rfl).alloc _
  have b0 : Below w.heap.size w ((w.alloc (.cells (iv (grd L)).toArray 73)).alloc (.map #[] 0)) := by (repeat (first | exact Below.refl _ _ | assumption | (refine Below.setCell ?_ (by first | exact Nat.le_refl _ | omega | (simp; done) | (simp; omega)) _) | (refine Below.trans ?_ (below_drewN _)) | (refine Below.drew ?_) | (refine Below.alloc ?_ (by first | exact Nat.le_refl _ | omega | (simp; done) | (simp; omega)) _) | (refine below_row ?_ (by first | exact Nat.le_refl _ | omega | (simp; done) | (simp; omega)) _)))
  have m0 : ((w.alloc (.cells (iv (grd L)).toArray 73)).alloc (.map #[] 0)).ownsMap (H := Unit) Try.prog 79 (plainElem Try.prog 3) (w.heap.size + 1) 0 (.map []) := by
    have := World.ownsMap_made (H := Unit) (w.alloc (.cells (iv (grd L)).toArray 73)) Try.prog 79 (plainElem Try.prog 3)
    simp only [World.size_alloc] at this
    exact this
  have hv1 : plainElem (H := Unit) Try.prog 3 (.int .i64 1) = some (.lit (.int .i64 1), []) := plainElem_int Try.underlying3 (wf_i64 (by omega) (by omega))
  obtain ⟨w1, e1, m1, g1⟩ := m0.update K79 Try.underlying76 (by decide) (key79 (s := 0) (by omega)) hv1
  have e1' : (Instr.mapUpdate 76 (.map (some (w.heap.size + 1))) (.int .u16 0) (.int .i64 1)).run Try.prog ((w.alloc (.cells (iv (grd L)).toArray 73)).alloc (.map #[] 0)) = .ok () w1 := e1
  have m2 : w1.ownsMap (H := Unit) Try.prog 79 (plainElem Try.prog 3) (w.heap.size + 1) 1 (PD L (1 - 1)) := m1
  have r1 := r0.grown g1 (by intro e; injection e with e; omega)
  have b1 := b0.grown g1 b0.size (fun g h => by injection h with h; omega)
  have HC0 : Hid (∀ (W : World), Row W w.heap.size 73 (iv (grd L)) → W.cell? ⟨w.heap.size, 0, none⟩ = some (.int .i64 (L.length : Int))) := Lib.hid (fun W h => ivR h (i := 0) (by unfold grd; rw [grdP_len]; omega))
  have HF := Lib.hid (fun w => first_any L.length w (by omega))
  have hAll : sAll L.length + 1 = 2^L.length := by unfold sAll; have := Nat.one_le_two_pow (n := L.length); omega
  have hP10 : 2^L.length ≤ 1024 := by have : 2^L.length ≤ 2^10 := Nat.pow_le_pow_right (by omega) hle; omega
  have c1 := HC0.out _ r1
  clear r0 b0 m0 m1 e1 hv1 g1
  go_enter Try.func49, Try.ntmps49
  go_wp2
  clear c1 e1'
  have HPI := Lib.hid (fun s (hs : s < 1024) => prm_bd h hs)
  have HPS := Lib.hid (fun s r c (hs : s < 1024) (hc : c ≤ 10) => prm_part h (s := s) (r := r) (c := c) hs hc)
  have HST := Lib.hid (fun s (hs : s < 65536) h0 => prm_step L hs h0)
  have HGB := Lib.hid (fun r c => h.bd r c)
  have HSN : Hid (∀ (f : Nat → Int) (r s c : Nat), prS f L r s (c + 1) = prS f L r s c + if s.testBit c = true then gat L r c * f (sWithout s c) else 0) := Lib.hid (fun f r s c => rfl)
  have HSZ := Lib.hid (fun s w (hs : s < 65536) => size_any s w hs)
  have HPP := Lib.hid (fun s (hs : s < 65536) h0 => pc_pos hs h0)
  have HPC : Hid (∀ s, s < 2^L.length → pc 16 s ≤ L.length) := Lib.hid (fun s hs => by
    have e : ∀ d, pc (L.length + d) s = pc L.length s := fun d => by
      induction d with
      | zero => rfl
      | succ d ih => rw [← Nat.add_assoc, pc_succ, ih, Nat.testBit_lt_two_pow (Nat.lt_of_lt_of_le hs (Nat.pow_le_pow_right (n := 2) (by omega) (by omega)))]; rfl
    have h3 := e (16 - L.length)
    rw [show L.length + (16 - L.length) = 16 by omega] at h3
    rw [h3]; exact pc_le _ _)
  have HRL := Lib.hid (rowE_len L)
  have HRE := Lib.hid (fun r c (hc : c < 10) => rowE_at L r (c := c) hc)
  have HPA : Hid (∀ (W : World) (m k : Nat), W.ownsMap (H := Unit) Try.prog 79 (plainElem Try.prog 3) (w.heap.size + 1) m (PD L k) → 2^L.length ≤ k + 1 → PrmAt W (w.heap.size + 1) L.length L) := Lib.hid (fun W m k hm hk => prmAt_of hm hk hle)
  have HDN : Hid (∀ k, PD (H := Unit) L (k + 1) = (PD L k).put (.int .u16 ((k + 1 : Nat) : Int)) (.lit (.int .i64 (prm L (k + 1))))) := Lib.hid (fun k => rfl)
  have HNZ := Nat.one_le_two_pow (n := L.length)
  have hi70 : (Try.prog.info? 70).map (·.size) = some 10 := info70
  clear h
  obtain ⟨M, hM⟩ : ∃ M, 2^L.length = M := ⟨_, rfl⟩
  rw [hM] at hAll hP10 HPC HPA HNZ
  clear hM
  go_loopw [4] (fun i wr => ∃ s : Nat, 1 ≤ s ∧ s ≤ M ∧ i = .int .u16 s ∧ Row wr w.heap.size 73 (iv (grd L)) ∧ wr.ownsMap (H := Unit) Try.prog 79 (plainElem Try.prog 3) (w.heap.size + 1) s (PD L (s - 1)) ∧ Below w.heap.size w wr) (fun i _ => M - (intOf i).toNat)
  case atStart => exact ⟨1, by omega, by omega, rfl, r1, m2, b1⟩
  case round =>
    clear r1 m2 b1
    obtain ⟨s, hs1, hs, rfl, r1, m2, b1⟩ := hrel
    have c0 := HC0.out _ r1
    have HFF := Lib.hid HF.out
    by_cases hlt : s < M
    · have g1 : decide ((s : Int) ≤ (sAll L.length : Int)) = true := decide_eq_true (by omega)
      have hpc := HPC.out s hlt
      have hpp := HPP.out s (by omega) (by omega)
      obtain ⟨p, hp⟩ : ∃ p, pc 16 s = p := ⟨_, rfl⟩
      have HC := Lib.hid (fun (w : World) (n : Nat) => Calls.quiet_of (HSZ.out s (World.drewN w n) (by omega)))
      rw [hp] at hpc hpp HC
      have HPST := Lib.hid (HST.out s (by omega) (by omega))
      rw [hp] at HPST
      obtain ⟨r, hr⟩ : ∃ r, L.length - p = r := ⟨_, rfl⟩
      rw [hr] at HPST
      have hri : (L.length : Int) - (p : Int) = (r : Int) := by omega
      have hr10 : r < 10 := by omega
      have hrl : r < L.length := by omega
      clear hp
      have hrg := row_range r1 hr10
      have hi7 : (Try.prog.info? 70).map (·.size) = some (iv (rowE L r)).length := by rw [iv_len, HRL.out]; exact info70
      go_wp2_with (go_at_call 50; refine (HFF.out _).mono ?_; rintro e w3 ⟨rfl, rfl⟩)
      refine wp_region_quiet_tail 5 (by kernel_rfl) (by kernel_rfl) ?_
      simp only [List.take_succ_cons, List.take_zero, List.drop_succ_cons, List.drop_zero]
      repeat go_big_quiet_step ((go_at_call 65; exact HC.out _ _))
      refine wpQuiet_nil ?_
      rintro _ ⟨nq, rfl⟩
      replace r1 := r1.drewN nq
      replace m2 := map_drewN m2 nq
      replace b1 := b1.trans (below_drewN nq)
      replace hrg : (wr.drewN nq).rangeAt w.heap.size (1 + r * 10) (iv (rowE L r)) := hrg
      clear c0
      generalize wr.drewN nq = W at *
      have HIX := Lib.hid (fun (c : Nat) (hc : c < 10) (w : World) => run_index70 (rowE L r) (rowE_len L r) c hc w)
      have HLK := Lib.hid (fun t (ht : t < s) => look76 (L := L) m2 (s := t) (by omega) (by omega))
      go_wp2_with (refine wpList_load_mid rfl 70 (.tmp 25) rfl w.heap.size (1 + r * 10) rfl (iv (rowE L r)) _ hrg Try.underlying70 rfl hi7 ?_)
      go_loopw [6, 27] (fun sv i wr2 => ∃ c : Nat, c ≤ 10 ∧ i = .int .i64 c ∧ sv = .int .i64 (prS (prm L) L r s c) ∧ W = wr2) (fun _ i _ => 10 - (intOf i).toNat)
      case atStart => exact ⟨0, by omega, rfl, rfl, rfl⟩
      case round =>
        obtain ⟨c, hc, rfl, rfl, rfl⟩ := hrel
        by_cases hlc : c < 10
        · have hix := fun w => HIX.out c hlc w
          rw [HRE.out r c hlc] at hix
          have hh := Lib.hid (has_any s c W (by omega) (by omega))
          have hwt := Lib.hid (without_any s c W (by omega) (by omega))
          have HSS := Lib.hid (HSN.out (prm L) r s c)
          have hb0 := HPS.out s r c (by omega) hc
          have hb1 := HPS.out s r (c + 1) (by omega) (by omega)
          have hg := HGB.out r c
          cases hbit : s.testBit c
          · rw [show sHas s c = false from hbit] at hh
            have HS3 : Hid (prS (prm L) L r s (c + 1) = prS (prm L) L r s c) := Lib.hid (by rw [HSS.out, hbit]; simp)
            clear hb1 hwt HSS
            generalize prS (prm L) L r s c = S at *
            generalize gat L r c = x at *
            go_wp2_with (go_at_call 66; refine hh.out.mono ?_; rintro e w4 ⟨rfl, rfl⟩)
            go_roundw
            case rel => exact ⟨c + 1, by omega, by go_num, by rw [HS3.out], by first | rfl | trivial⟩
            case measure => simp [intOf]; omega
          · rw [show sHas s c = true from hbit] at hh
            have hlw := without_less (by omega) (by omega) hbit
            have hlk := HLK.out (sWithout s c) hlw
            have hpb := HPI.out (sWithout s c) (by omega)
            have HS3 : Hid (prS (prm L) L r s (c + 1) = prS (prm L) L r s c + gat L r c * prm L (sWithout s c)) := Lib.hid (by rw [HSS.out, hbit]; simp)
            rw [HS3.out] at hb1
            clear HSS hlw
            generalize prS (prm L) L r s c = S at *
            generalize prm L (sWithout s c) = y at *
            generalize gat L r c = x at *
            obtain ⟨hg1, hg2⟩ := hg
            obtain ⟨hb1, hb2⟩ := hb1
            obtain ⟨hb3, hb4⟩ := hb0
            obtain ⟨hp1, hp2⟩ := hpb
            have hm1 : 0 ≤ x * y := Int.mul_nonneg hg1 hp1
            have hm2 : x * y ≤ 9 * 12652843234348800 := Int.mul_le_mul hg2 hp2 hp1 (by omega)
            go_wp2_with (first
              | (go_at_call 66; refine hh.out.mono ?_; rintro e w4 ⟨rfl, rfl⟩)
              | (go_at_call 67; refine hwt.out.mono ?_; rintro e w4 ⟨rfl, rfl⟩))
            go_roundw
            case rel => exact ⟨c + 1, by omega, by go_num, by rw [HS3.out], by first | rfl | trivial⟩
            case measure => simp [intOf]; omega
        · obtain rfl : c = 10 := by omega
          have hpv := HPI.out s (by omega)
          have hval : plainElem (H := Unit) Try.prog 3 (.int .i64 (prm L s)) = some (.lit (.int .i64 (prm L s)), []) := plainElem_int Try.underlying3 (wf_i64 (by omega) (by omega))
          have HDS := HDN.out (s - 1)
          rw [show s - 1 + 1 = s by omega] at HDS
          have HKY := Lib.hid (key79 (s := s) (by omega))
          rw [← HPST.out]
          clear HPST HIX HLK hrg
          generalize prm L s = v at *
          go_wp2_with (at_mapUpdate; refine wpList_mapUpdate_own _ rfl (.tmp 44) (.tmp 45) (.tmp 46) 76 rfl 79 3 K79 Try.underlying76 (plainElem (H := Unit) Try.prog 3) (w.heap.size + 1) s (PD L (s - 1)) rfl m2 (by unfold maxLen; omega) (.int .u16 s) (.int .i64 v) (.int .u16 s) rfl rfl HKY.out (.lit (.int .i64 v)) [] hval ?_; intro w3 m3 hg3)
          go_roundw
          case rel =>
            refine ⟨s + 1, by omega, by omega, by go_num, r1.grown hg3 (by intro e; injection e with e; omega), ?_, b1.grown hg3 b1.size (fun g h => by injection h with h; omega)⟩
            rw [← HDS] at m3
            exact m3
          case measure => simp [intOf]; omega
    · obtain rfl : M = s := by omega
      have hpa := HPA.out _ _ _ m2 (by omega)
      have g1 : decide ((M : Int) ≤ (sAll L.length : Int)) = false := decide_eq_false (by omega)
      go_wp2_with (go_at_call 50; refine (HFF.out _).mono ?_; rintro e w3 ⟨rfl, rfl⟩)
      go_ret
      exact ⟨_, rfl, by omega, hpa, b1⟩
end Go.Proofs.Ytnnaaoobdofooaa
