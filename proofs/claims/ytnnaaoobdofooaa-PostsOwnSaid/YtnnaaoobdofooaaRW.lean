/- The reference's sums, walked. -/
import Derived.Test.YtnnaaoobdofooaaRV
import Derived.Test.YtnnaaoobdofooaaRQ
namespace Go.Proofs.Ytnnaaoobdofooaa
open Go.RowKit
set_option maxHeartbeats 1000000
set_option maxRecDepth 100000
theorem make_ints (n : Nat) (hn : n ≤ 1000000) (W : World) : (Instr.makeSlice 27 (.int .i64 n) (.int .i64 n)).run Try.prog W = .ok (.slice (some ⟨W.heap.size, 0, none⟩) n n) (W.alloc (.cells (iv (List.replicate n 0)).toArray 3)) := by
  obtain ⟨j0, ji, jz0, jz1, jz2⟩ := info_parts info3
  have h := run_make (P := Try.prog) W 27 3 j0 (.int .i64 0) Try.underlying27 ji jz0 .i64 .i64 n n (by omega) (by omega) (by rw [jz2]; omega) (by omega)
  rw [jz1, Int.toNat_natCast] at h
  have e : madeCells (Value.int .i64 0).cells (n * 1) = (iv (List.replicate n 0)).toArray := by
    apply Array.ext'
    rw [made_ints]
    unfold iv intv
    rw [List.map_replicate, List.map_replicate]; rfl
  rw [h, e]
theorem bit_tmod (s c : Nat) : ((((s : Int) / (2 : Int)^c).tmod 2) == 0) = !(s.testBit c) := by
  have h1 : ((s:Int) / (2 : Int)^c) = ((s / 2^c : Nat) : Int) := by rw [pow_cast]; rfl
  rw [h1, show Int.tmod ((s / 2^c : Nat) : Int) 2 = ((s / 2^c % 2 : Nat) : Int) from rfl, Nat.testBit_eq_decide_div_mod_eq]
  rw [Bool.eq_iff_iff]; simp; omega
theorem sums_any (A : Option Addr) (cc : Nat) (L T : List (List Int)) (i0 : Nat) (ct : Bool) (w : World) (h : IsT L) (hT : IsT T) (hl : T.length = L.length) (hg : ∀ i c, gat T i c = if ct = true then min (gat L i c) 1 else gat L i c) (hi0 : i0 ≤ L.length) (ha : RowsAt w A L) :
    Calls Try.prog 52 #[.slice A L.length cc, .int .i64 i0, .bool ct] w fun e w' => ∃ g, e = .returned (.slice (some ⟨g, 0, none⟩) (2^L.length) (2^L.length)) ∧ Row w' g 3 (iv (smL T i0)) ∧ w.heap.size ≤ g ∧ Below w.heap.size w w' := by
  have hle := h.le
  have HA := Lib.hid ha
  have hp := pow_le10 hle
  have hp0 := Nat.two_pow_pos L.length
  obtain ⟨N, hN⟩ : ∃ N, N = 2^L.length := ⟨_, rfl⟩
  have hNI : ((2 : Int)^L.length) = (N : Int) := by rw [hN, pow_cast]
  have hmk : ∀ W : World, (Instr.makeSlice 27 (.int .i64 (N : Int)) (.int .i64 (N : Int))).run Try.prog W = .ok (.slice (some ⟨W.heap.size, 0, none⟩) N N) (W.alloc (.cells (iv (List.replicate N 0)).toArray 3)) := make_ints N (by omega)
  have hsh : wrap64 ((2 : Int)^L.length) = (N : Int) := by rw [hN]; exact wrap64_pow (by omega)
  have q0 : Row (w.alloc (.cells (iv (List.replicate N 0)).toArray 3)) w.heap.size 3 (iv (List.replicate N 0)) := row_new rfl
  have b0 : Below w.heap.size w (w.alloc (.cells (iv (List.replicate N 0)).toArray 3)) := (Below.refl _ _).alloc (Nat.le_refl _) _
  have d0 := ivR q0 (i := 0) (by simp; omega)
  have f0 := q0.free 0
  have hq1 : (iv (List.replicate N 0)).set 0 (.int .i64 1) = iv (smL T L.length) := by
    rw [iv_set, hN, ← hl, smL_top hT]
  have q1 : Row (w.alloc (.cells ((iv (List.replicate N 0)).set 0 (.int .i64 1)).toArray 3)) w.heap.size 3 (iv (smL T L.length)) := by rw [hq1]; exact row_new rfl
  have b1 : Below w.heap.size w (w.alloc (.cells ((iv (List.replicate N 0)).set 0 (.int .i64 1)).toArray 3)) := (Below.refl _ _).alloc (Nat.le_refl _) _
  clear hq1
  have HS1 := Lib.hid (fun i s c (hs : s < N) (hc : c < L.length) (hb : s.testBit c = false) => nxL_step (T := T) (i := i) (s := s) (c := c) (by omega) (by rw [hl, ← hN]; exact hs) (by omega) hb)
  have HS2 := Lib.hid (fun i s c (hb : s.testBit c = true) => nxL_skip (T := T) (i := i) (s := s) (c := c) (by omega) hb)
  have HS3 := Lib.hid (fun i s => by have := nxL_row T i s; rw [hl] at this; exact this)
  have HS4 : Hid (∀ i, i < L.length → nxL T i N 0 = smL T i) := Lib.hid (fun i hi => by have := nxL_end hT (i := i) (by omega); rw [hl, ← hN] at this; exact this)
  have HS5 : Hid (∀ i, nxL T i 0 0 = List.replicate N 0) := Lib.hid (fun i => by have := nxL_zero T i; rw [hl, ← hN] at this; exact this)
  have HNL : Hid (∀ i s c, (nxL T i s c).length = N) := Lib.hid (fun i s c => by rw [nxL_len, hl, hN])
  have HSL : Hid (∀ i, (smL T i).length = N) := Lib.hid (fun i => by rw [smL_len, hl, hN])
  have HNB : Hid (∀ i s c t, t < N → 0 ≤ geti (nxL T i s c) t ∧ geti (nxL T i s c) t ≤ 10 * (9 * 12652843234348800)) := Lib.hid (fun i s c t ht => by
    rw [nxL_at T i s c (by rw [hl, ← hN]; exact ht)]
    have := nx_bd hT (i := i) (s := s) (c := c) (t := t) (by omega) T.length
    refine ⟨this.1, Int.le_trans this.2 (Int.mul_le_mul_of_nonneg_right (by omega) (by omega))⟩)
  have HSB : Hid (∀ i t, t < N → 0 ≤ geti (smL T i) t ∧ geti (smL T i) t ≤ 12652843234348800) := Lib.hid (fun i t ht => by
    rw [smL_at T i (by rw [hl, ← hN]; exact ht)]
    exact sm_bd hT (by omega))
  have HSA : Hid (∀ i t, t < N → geti (smL T i) t = sm T i t) := Lib.hid (fun i t ht => smL_at T i (by rw [hl, ← hN]; exact ht))
  have HPW : Hid (∀ s c, s < N → c < L.length → s.testBit c = false → s + 2^c < N) := Lib.hid (fun s c hs hc hb => by
    rw [with_add hb, hN]; exact Nat.or_lt_two_pow (by rw [← hN]; exact hs) (Nat.pow_lt_pow_right (by omega) hc))
  have HGB := Lib.hid (fun i c => hT.bd i c)
  have HGG := Lib.hid hg
  have HRW := Lib.hid (fun i (hi : i < L.length) => h.row i hi)
  have hN1 : 1 ≤ N ∧ N ≤ 1024 := by omega
  have HN := Lib.hid hN
  have HNI := Lib.hid hNI
  clear hN hNI hp hp0 h hT hl hg ha
  go_enter Try.func52, Try.ntmps52
  go_wp2
  go_loopw [8, 9] (fun v i wr => ∃ (k g : Nat), i0 ≤ k ∧ k ≤ L.length ∧ i = .int .i64 ((k : Int) - 1) ∧ v = .slice (some ⟨g, 0, none⟩) N N ∧ w.heap.size ≤ g ∧ Row wr g 3 (iv (smL T k)) ∧ Below w.heap.size w wr) (fun _ i _ => (intOf i + 1).toNat)
  case atStart => exact ⟨L.length, _, hi0, by omega, rfl, rfl, Nat.le_refl _, q1, b1⟩
  case round =>
    clear q0 b0 d0 f0 q1 b1
    obtain ⟨k, g, hk0, hk, rfl, rfl, hg0, q0, b0⟩ := hrel
    by_cases hlt : i0 < k
    · have g1 : decide ((i0 : Int) ≤ (k : Int) - 1) = true := decide_eq_true (by omega)
      obtain ⟨i, rfl⟩ : ∃ i, k = i + 1 := ⟨k - 1, by omega⟩
      have e1 : (((i + 1 : Nat) : Int) - 1) = (i : Int) := by omega
      rw [e1] at g1 ⊢
      clear e1
      obtain ⟨W, hW⟩ : ∃ W, W = wr := ⟨_, rfl⟩
      subst hW
      have n0 : Row (W.alloc (.cells (iv (List.replicate N 0)).toArray 3)) W.heap.size 3 (iv (nxL T i 0 0)) := by rw [HS5.out i]; exact row_new rfl
      have hbs := b0.size
      have q1 := q0.alloc (.cells (iv (List.replicate N 0)).toArray 3)
      have b1 := b0.alloc hbs (.cells (iv (List.replicate N 0)).toArray 3)
      have hgn : g < W.heap.size := q0.lt
      go_wp2
      go_loopw [11] (fun v wr2 => ∃ s : Nat, s ≤ N ∧ v = .int .i64 s ∧ Row wr2 W.heap.size 3 (iv (nxL T i s 0)) ∧ Row wr2 g 3 (iv (smL T (i + 1))) ∧ Below w.heap.size w wr2) (fun v _ => N - (intOf v).toNat)
      case atStart => exact ⟨0, by omega, rfl, n0, q1, b1⟩
      case round =>
        clear q0 b0 n0 q1 b1
        obtain ⟨s, hs, rfl, n0, q0, b0⟩ := hrel
        by_cases hsl : s < N
        · have g2 : decide ((s : Int) < (N : Int)) = true := decide_eq_true (by omega)
          go_wp2
          go_loopw [12] (fun v wr3 => ∃ c : Nat, c ≤ L.length ∧ v = .int .i64 c ∧ Row wr3 W.heap.size 3 (iv (nxL T i s c)) ∧ Row wr3 g 3 (iv (smL T (i + 1))) ∧ Below w.heap.size w wr3) (fun v _ => L.length - (intOf v).toNat)
          case atStart => exact ⟨0, by omega, rfl, n0, q0, b0⟩
          case round =>
            clear q0 b0 n0
            obtain ⟨c, hc, rfl, n0, q0, b0⟩ := hrel
            by_cases hcl : c < L.length
            · have g3 : decide ((c : Int) < (L.length : Int)) = true := decide_eq_true (by omega)
              have g4 := bit_tmod s c
              cases hb : s.testBit c
              · rw [hb] at g4
                simp only [Bool.not_false] at g4
                obtain ⟨P, hP⟩ : ∃ P, P = 2^c := ⟨_, rfl⟩
                have hsc : wrap64 ((2 : Int)^c) = (P : Int) := by rw [hP]; exact wrap64_pow (by omega)
                have hsP : s + P < N := by rw [hP]; exact HPW.out s c hsl hcl hb
                have hst := HS1.out i s c hsl hcl hb
                rw [← hP] at hst
                obtain ⟨bA, oA, hAe, hbA, hcs⟩ := (HA.out.below (Below.refl _ _)) (by omega)
                subst hAe
                obtain ⟨B, cB, e1, i1⟩ := hcs i (by omega)
                rw [HRW.out i (by omega)] at e1
                obtain ⟨bB, oB, rfl, hbB, f1⟩ := i1 (by rw [HRW.out i (by omega)]; omega)
                have e2 := f1 c (by rw [HRW.out i (by omega)]; exact hcl)
                replace e1 := (b0.cell (p := ⟨bA, oA + i, none⟩) hbA).trans e1
                replace e2 := (b0.cell (p := ⟨bB, oB + c, none⟩) hbB).trans e2
                have e3 := ivR n0 (i := s + P) (by rw [HNL.out]; exact hsP)
                have e4 := n0.free (s + P)
                have e5 := ivR q0 (i := s) (by rw [HSL.out]; exact hsl)
                have HST := Lib.hid hst
                have hv := HNB.out i s c (s + P) hsP
                have ho := HSB.out (i + 1) s hsl
                have hso := HSA.out (i + 1) s hsl
                have hgt := HGG.out i c
                have hgb := HGB.out i c
                rw [← hso] at hst
                have HST := Lib.hid hst
                rw [show geti (getl L i) c = gat L i c from rfl] at e2
                clear hst hso hP hcs f1 i1 hb
                generalize geti (nxL T i s c) (s + P) = v at *
                generalize geti (smL T (i + 1)) s = o at *
                generalize gat T i c = y at *
                generalize gat L i c = x at *
                have hpr : 0 ≤ y * o ∧ y * o ≤ 9 * 12652843234348800 := ⟨Int.mul_nonneg hgb.1 ho.1, Int.mul_le_mul hgb.2 ho.2 ho.1 (by omega)⟩
                cases ct
                · obtain rfl : y = x := by simpa using hgt
                  clear hgt
                  go_wp2
                  refine wp_region_quiet_tail 20 (by kernel_rfl) (by kernel_rfl) ?_
                  simp only [List.take_succ_cons, List.take_zero, List.drop_succ_cons, List.drop_zero]
                  repeat go_big_quiet_step ((fail))
                  refine wpQuiet_nil ?_
                  rintro _ ⟨nq, rfl⟩
                  replace n0 := n0.drewN nq
                  replace q0 := q0.drewN nq
                  replace b0 := b0.trans (below_drewN (B := w.heap.size) (w := wr) nq)
                  replace e4 : (wr.drewN nq).frozen? ⟨W.heap.size, s + P, none⟩ = false := e4
                  replace e3 : (wr.drewN nq).cell? ⟨W.heap.size, s + P, none⟩ = some (.int .i64 v) := e3
                  clear e1 e2 e5
                  go_wp2
                  go_roundw
                  case rel =>
                    refine ⟨c + 1, by omega, by go_num, ?_, q0.far (by dsimp only; omega) _, b0.setCell (by dsimp only; omega) _⟩
                    have hq := n0.set (s + P) (.int .i64 (v + y * o))
                    rw [iv_set, HST.out] at hq
                    exact hq
                  case measure => simp [intOf]; omega
                · have hyx : y = min x 1 := by simpa using hgt
                  rename i0 ≤ i => hx0
                  clear hgt hx0 hsh hk0 hlt g1 g2 g3
                  rcases Int.lt_trichotomy x 1 with hx1 | hx1 | hx1
                  · obtain rfl : y = x := by omega
                    clear hyx
                    go_wp2
                    clear hx1
                    refine wp_region_quiet_tail 20 (by kernel_rfl) (by kernel_rfl) ?_
                    simp only [List.take_succ_cons, List.take_zero, List.drop_succ_cons, List.drop_zero]
                    repeat go_big_quiet_step ((fail))
                    refine wpQuiet_nil ?_
                    rintro _ ⟨nq, rfl⟩
                    replace n0 := n0.drewN nq
                    replace q0 := q0.drewN nq
                    replace b0 := b0.trans (below_drewN (B := w.heap.size) (w := wr) nq)
                    replace e4 : (wr.drewN nq).frozen? ⟨W.heap.size, s + P, none⟩ = false := e4
                    replace e3 : (wr.drewN nq).cell? ⟨W.heap.size, s + P, none⟩ = some (.int .i64 v) := e3
                    clear e1 e2 e5
                    go_wp2
                    go_roundw
                    case rel =>
                      refine ⟨c + 1, by omega, by go_num, ?_, q0.far (by dsimp only; omega) _, b0.setCell (by dsimp only; omega) _⟩
                      have hq := n0.set (s + P) (.int .i64 (v + y * o))
                      rw [iv_set, HST.out] at hq
                      exact hq
                    case measure => simp [intOf]; omega
                  · subst hx1
                    obtain rfl : y = 1 := by omega
                    clear hyx
                    go_wp2
                    refine wp_region_quiet_tail 20 (by kernel_rfl) (by kernel_rfl) ?_
                    simp only [List.take_succ_cons, List.take_zero, List.drop_succ_cons, List.drop_zero]
                    repeat go_big_quiet_step ((fail))
                    refine wpQuiet_nil ?_
                    rintro _ ⟨nq, rfl⟩
                    replace n0 := n0.drewN nq
                    replace q0 := q0.drewN nq
                    replace b0 := b0.trans (below_drewN (B := w.heap.size) (w := wr) nq)
                    replace e4 : (wr.drewN nq).frozen? ⟨W.heap.size, s + P, none⟩ = false := e4
                    replace e3 : (wr.drewN nq).cell? ⟨W.heap.size, s + P, none⟩ = some (.int .i64 v) := e3
                    clear e1 e2 e5
                    go_wp2
                    go_roundw
                    case rel =>
                      refine ⟨c + 1, by omega, by go_num, ?_, q0.far (by dsimp only; omega) _, b0.setCell (by dsimp only; omega) _⟩
                      have hq := n0.set (s + P) (.int .i64 (v + 1 * o))
                      rw [iv_set, HST.out, Int.one_mul] at hq
                      exact hq
                    case measure => simp [intOf]; omega
                  · obtain rfl : y = 1 := by omega
                    clear hyx
                    go_wp2
                    clear hx1
                    refine wp_region_quiet_tail 20 (by kernel_rfl) (by kernel_rfl) ?_
                    simp only [List.take_succ_cons, List.take_zero, List.drop_succ_cons, List.drop_zero]
                    repeat go_big_quiet_step ((fail))
                    refine wpQuiet_nil ?_
                    rintro _ ⟨nq, rfl⟩
                    replace n0 := n0.drewN nq
                    replace q0 := q0.drewN nq
                    replace b0 := b0.trans (below_drewN (B := w.heap.size) (w := wr) nq)
                    replace e4 : (wr.drewN nq).frozen? ⟨W.heap.size, s + P, none⟩ = false := e4
                    replace e3 : (wr.drewN nq).cell? ⟨W.heap.size, s + P, none⟩ = some (.int .i64 v) := e3
                    clear e1 e2 e5
                    go_wp2
                    go_roundw
                    case rel =>
                      refine ⟨c + 1, by omega, by go_num, ?_, q0.far (by dsimp only; omega) _, b0.setCell (by dsimp only; omega) _⟩
                      have hq := n0.set (s + P) (.int .i64 (v + 1 * o))
                      rw [iv_set, HST.out, Int.one_mul] at hq
                      exact hq
                    case measure => simp [intOf]; omega
              · rw [hb] at g4
                simp only [Bool.not_true] at g4
                rw [HS2.out i s c hb] at n0
                clear hb
                go_wp2
                exact ⟨⟨c + 1, by omega, rfl, n0, q0, b0⟩, by simp [intOf]; omega⟩
            · obtain rfl : c = L.length := by omega
              have g3 : decide ((L.length : Int) < (L.length : Int)) = false := decide_eq_false (by omega)
              rw [HS3.out] at n0
              go_wp2
              exact ⟨⟨s + 1, by omega, rfl, n0, q0, b0⟩, by simp [intOf]; omega⟩
        · obtain rfl : s = N := by omega
          have g2 : decide ((s : Int) < (s : Int)) = false := decide_eq_false (by omega)
          rw [HS4.out i (by omega)] at n0
          go_wp2
          exact ⟨⟨i, _, by omega, by omega, rfl, rfl, hbs, n0, b0⟩, by simp [intOf]⟩
    · obtain rfl : i0 = k := by omega
      have g1 : decide ((i0 : Int) ≤ (i0 : Int) - 1) = false := decide_eq_false (by omega)
      go_wp2
      go_ret
      rw [← HN.out]
      exact ⟨_, rfl, q0, hg0, b0⟩
end Go.Proofs.Ytnnaaoobdofooaa
