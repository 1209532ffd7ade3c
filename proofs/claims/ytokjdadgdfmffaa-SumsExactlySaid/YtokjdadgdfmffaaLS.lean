/- Exactly so many: the reference's walk. -/
import Derived.Test.YtokjdadgdfmffaaLR
namespace Go.Proofs.Ytokjdadgdfmffaa
open Go.RowKit
set_option maxHeartbeats 1000000
set_option maxRecDepth 100000
theorem make_boolsP {n : Nat} (hn : n ≤ 20) (W : World) : (Instr.makeSlice 80 (.int .i64 (((n : Int) + 1) * n)) (.int .i64 (((n : Int) + 1) * n))).run Try.prog W = .ok (.slice (some ⟨W.heap.size, 0, none⟩) ((n + 1) * n) ((n + 1) * n)) (W.alloc (.cells (tbB ((n + 1) * n) (fun _ => false)).toArray 4)) := by
  have h := Nat.mul_le_mul (show n + 1 ≤ 21 by omega) hn
  have h2 := make_bools ((n + 1) * n) (by omega) W
  rw [tb_no] at h2
  rw [show ((n : Int) + 1) * n = (((n + 1) * n : Nat) : Int) by rw [Int.natCast_mul]; rfl]
  exact h2
theorem RefExactly_any (n : Nat) (A : Option Addr) (c : Nat) (l : List Int) (w : World) (hn : 1 ≤ n ∧ n ≤ 20) (hl : l.length ≤ 1000) (ha : IntsAt w A l) :
    Calls Try.prog 34 #[.int .i64 n, .slice A l.length c] w fun e w' => ∃ v, e = .returned v ∧ w'.ownsRow w.heap.size 3 1 v (grL n 0 l n 0).length (iv (grL n 0 l n 0)) ∧ Below w.heap.size w w' := by
  obtain ⟨n1, n2⟩ := hn
  have hmt := make_tabs (l.length + 1) (by omega) w
  rw [Int.natCast_add, Int.natCast_one] at hmt
  have t0 := TabAt.new n l (W := w) rfl
  have b0 : Below w.heap.size w (w.alloc (.cells (List.replicate (l.length + 1) (Value.slice none 0 0)).toArray 80)) := (Below.refl _ w).alloc (Nat.le_refl _) _
  have HA := Lib.hid ha
  have hnn : (0 : Int) ≤ ((n : Int) + 1) * n ∧ ((n : Int) + 1) * n ≤ 420 := by
    have h := Nat.mul_le_mul (show n + 1 ≤ 21 by omega) n2
    rw [show ((n : Int) + 1) * n = (((n + 1) * n : Nat) : Int) by rw [Int.natCast_mul]; rfl]
    omega
  obtain ⟨nn1, nn2⟩ := hnn
  have HMB := Lib.hid (fun W => make_boolsP n2 W)
  clear ha
  go_enter Try.func34, Try.ntmps34
  go_wp2
  clear hmt
  go_loopw [7] (fun i wr => ∃ (j B : Nat) (x : Int), x + 1 = (j : Int) ∧ j ≤ l.length + 1 ∧ i = .int .i64 x ∧ TabAt wr w.heap.size B n l j ∧ Below w.heap.size w wr) (fun i _ => (intOf i + 1).toNat)
  case atStart => exact ⟨l.length + 1, _, l.length, by omega, by omega, rfl, t0, b0⟩
  case round =>
    clear t0 b0
    obtain ⟨j, B, x, hx, hj, rfl, t0, b0⟩ := hrel
    by_cases hlt : 0 ≤ x
    · obtain ⟨m, rfl⟩ := Int.eq_ofNat_of_zero_le hlt
      obtain rfl : j = m + 1 := by omega
      clear hx
      have hmb := HMB.out wr
      have r1 : Row (wr.alloc (.cells (tbB ((n + 1) * n) (fun _ => false)).toArray 4)) wr.heap.size 4 (tbB ((n + 1) * n) (upB n l m 0 0)) := by
        rw [tb_congr ((n + 1) * n) (fun v _ => upB_zero n l m v)]
        exact row_new rfl
      have hB : B ≤ wr.heap.size := by obtain ⟨_, _, _, _, h, _⟩ := t0; exact h
      have hG : w.heap.size ≤ B := by obtain ⟨_, _, _, h, _, _⟩ := t0; omega
      have t1 := t0.below (((Below.refl B wr).alloc hB (.cells (tbB ((n + 1) * n) (fun _ => false)).toArray 4)))
      have b1 := b0.alloc (Nat.le_trans hG hB) (.cells (tbB ((n + 1) * n) (fun _ => false)).toArray 4)
      go_wp2
      clear hmb
      generalize wr.heap.size = g0 at *
      go_loopw [9] (fun i wr => ∃ k : Nat, k ≤ n + 1 ∧ i = .int .i64 k ∧ Row wr g0 4 (tbB ((n + 1) * n) (upB n l m k 0)) ∧ TabAt wr w.heap.size B n l (m + 1) ∧ Below w.heap.size w wr) (fun i _ => n + 1 - (intOf i).toNat)
      case atStart => exact ⟨0, by omega, rfl, r1, t1, b1⟩
      case round =>
        clear r1 t1 b1
        obtain ⟨k, hk, rfl, r1, t1, b1⟩ := hrel
        by_cases hkn : k ≤ n
        · have HUP : Hid (tbB ((n + 1) * n) (upB n l m k n) = tbB ((n + 1) * n) (upB n l m (k + 1) 0)) := Lib.hid (tb_congr _ (fun v _ => upB_next n l m k v))
          go_wp2
          go_loopw [10] (fun i wr => ∃ r : Nat, r ≤ n ∧ i = .int .i64 r ∧ Row wr g0 4 (tbB ((n + 1) * n) (upB n l m k r)) ∧ TabAt wr w.heap.size B n l (m + 1) ∧ Below w.heap.size w wr) (fun i _ => n - (intOf i).toNat)
          case atStart => exact ⟨0, by omega, rfl, r1, t1, b1⟩
          case round =>
            clear r1 t1 b1
            obtain ⟨r, hr, rfl, r1, t1, b1⟩ := hrel
            by_cases hrn : r < n
            · have hq : (k : Int) * n ≤ 400 ∧ 0 ≤ (k : Int) * n := by
                have h := Nat.mul_le_mul (show k ≤ 20 by omega) n2
                rw [← Int.natCast_mul]
                omega
              obtain ⟨q1, q2⟩ := hq
              have hqq : ((k : Int) * n + r) = ((k * n + r : Nat) : Int) := by rw [Int.natCast_add, Int.natCast_mul]
              have hlt2 := at_lt hrn hkn
              have hc := r1.cell (k * n + r)
              rw [tb_at _ _ hlt2] at hc
              have hf := r1.free (k * n + r)
              clear hqq
              have HST := Lib.hid (fun (b : Bool) (e : b = cB n l m (k * n + r)) => (((tb_set _ (upB n l m k r) hlt2 b).trans (tb_congr _ (fun v _ => by rw [e]; exact upB_step n l m k r v))) : (tbB ((n + 1) * n) (upB n l m k r)).set (k * n + r) (.bool b) = tbB ((n + 1) * n) (upB n l m k (r + 1))))
              by_cases hme : m = l.length
              · subst hme
                have HCE := Lib.hid (cB_end (k := k) l hrn)
                by_cases hk0 : k = 0
                · subst hk0
                  have e0 : 0 * n + r = r := by omega
                  rw [e0] at hc hf
                  have hv : ((r : Int) == 0) = cB n l l.length (0 * n + r) := by
                    rw [HCE.out]
                    by_cases h : r = 0
                    · subst h; rfl
                    · simp [h]
                  have HST2 := Lib.hid (HST.out _ hv)
                  rw [e0] at HST2
                  clear hv
                  go_wp2
                  go_roundw
                  case rel => exact ⟨r + 1, by omega, by go_num, by rw [← HST2.out]; exact r1.set _ _, t1.far (by simpa using hB) _, b1.setCell (by simp; omega) _⟩
                  case measure => first | (simp [intOf]; done) | (simp [intOf]; omega)
                · have hg2 : ((k : Int) == 0) = false := by simp [hk0]
                  have HST2 := Lib.hid (HST.out false (by rw [HCE.out, decide_eq_false hk0]; rfl))
                  go_wp2
                  go_roundw
                  case rel => exact ⟨r + 1, by omega, by go_num, by rw [← HST2.out]; exact r1.set _ _, t1.far (by simpa using hB) _, b1.setCell (by simp; omega) _⟩
                  case measure => first | (simp [intOf]; done) | (simp [intOf]; omega)
              · have hml : m < l.length := by omega
                obtain ⟨g, g1, g2, gc, gr⟩ := t1.get (j := m + 1) (Nat.le_refl _) (by omega)
                have gf := t1.free (m + 1)
                have gne : g ≠ g0 := by omega
                obtain ⟨s, hs, hse⟩ := rest_nat n ((r : Int) - geti l m) n1
                by_cases hk0 : k = 0
                · subst hk0
                  have e0 : 0 * n + r = r := by omega
                  have hX := cB_zero l hrn hml
                  have HST2 := Lib.hid (HST.out _ hX.symm)
                  rw [e0] at hc hf HST2
                  have gh := gr.cell r
                  rw [tb_at _ _ (by omega)] at gh
                  generalize cB n l (m + 1) r = X at *
                  clear hX hse hs
                  cases X
                  · go_wp2
                    refine wp_region_quiet_tail 44 (by kernel_rfl) (by kernel_rfl) ?_
                    simp only [List.take_succ_cons, List.take_zero, List.drop_succ_cons, List.drop_zero]
                    repeat go_big_quiet_step ((fail))
                    refine wpQuiet_nil ?_
                    rintro _ ⟨nq, rfl⟩
                    have hc3 := (r1.drewN nq).cell r
                    have hf3 := (r1.drewN nq).free r
                    rw [tb_at _ _ (by omega)] at hc3
                    go_wp2
                    go_roundw
                    case rel => exact ⟨r + 1, by omega, by go_num, by rw [← HST2.out]; exact (r1.drewN nq).set _ _, (t1.drewN nq).far (by simpa using hB) _, (b1.trans (below_drewN nq)).setCell (by simp; omega) _⟩
                    case measure => first | (simp [intOf]; done) | (simp [intOf]; omega)
                  · go_wp2
                    refine wp_region_quiet_tail 44 (by kernel_rfl) (by kernel_rfl) ?_
                    simp only [List.take_succ_cons, List.take_zero, List.drop_succ_cons, List.drop_zero]
                    repeat go_big_quiet_step ((fail))
                    refine wpQuiet_nil ?_
                    rintro _ ⟨nq, rfl⟩
                    have hc3 := (r1.drewN nq).cell r
                    have hf3 := (r1.drewN nq).free r
                    rw [tb_at _ _ (by omega)] at hc3
                    go_wp2
                    go_roundw
                    case rel => exact ⟨r + 1, by omega, by go_num, by rw [← HST2.out]; exact (r1.drewN nq).set _ _, (t1.drewN nq).far (by simpa using hB) _, (b1.trans (below_drewN nq)).setCell (by simp; omega) _⟩
                    case measure => first | (simp [intOf]; done) | (simp [intOf]; omega)
                · obtain ⟨k', hk'⟩ : ∃ k', k = k' + 1 := ⟨k - 1, by omega⟩
                  have hX := cB_step (k := k') l hrn hml hs hse
                  rw [← hk'] at hX
                  have HST2 := Lib.hid (HST.out _ hX.symm)
                  have gh := gr.cell (k * n + r)
                  rw [tb_at _ _ hlt2] at gh
                  have gh2 := gr.cell (k' * n + s)
                  rw [tb_at _ _ (at_lt hs (by omega))] at gh2
                  have hgk : decide (0 < k) = true := decide_eq_true (by omega)
                  have hk1 : ((k : Int) - 1) = k' := by omega
                  have hp : ((k : Int) - 1) * n ≤ 400 ∧ 0 ≤ ((k : Int) - 1) * n ∧ (((k : Int) - 1) * n + s).toNat = k' * n + s ∧ ((k : Int) - 1) * n + s < ((n : Int) + 1) * n := by
                    have h := Nat.mul_le_mul (show k' ≤ 20 by omega) n2
                    have h2 := at_lt (k := k') hs (by omega)
                    rw [hk1, ← Int.natCast_mul, show ((n : Int) + 1) * n = (((n + 1) * n : Nat) : Int) by rw [Int.natCast_mul]; rfl]
                    omega
                  obtain ⟨p1, p2, p3, p4⟩ := hp
                  clear p3 hk1
                  have HR : Hid (∀ w, Calls Try.prog 60 #[.int .i64 r, .int .i64 (geti l m), .int .i64 n] w fun e w' => e = .returned (.int .i64 s) ∧ w = w') := Lib.hid (fun w => by
                    have h := rest_any r (geti l m) n w (by omega) (by omega) (by omega) (by omega)
                    rw [hse] at h
                    exact h)
                  obtain ⟨bA, oA, hAe, hbA, hcA⟩ := (HA.out.below b1) (by omega)
                  subst hAe
                  have hcm := hcA m hml
                  clear hcA
                  generalize cB n l (m + 1) (k * n + r) = X at *
                  generalize cB n l (m + 1) (k' * n + s) = Y at *
                  generalize geti l m = y at *
                  rw [show k' = k - 1 by omega] at gh2
                  clear hX hse hk'
                  cases X
                  · go_wp2
                    refine wp_region_quiet_tail 44 (by kernel_rfl) (by kernel_rfl) ?_
                    simp only [List.take_succ_cons, List.take_zero, List.drop_succ_cons, List.drop_zero]
                    repeat go_big_quiet_step ((exact Calls.mono (HR.out _) (fun e w2 h => ⟨h.1, _, h.2.symm⟩)))
                    refine wpQuiet_nil ?_
                    rintro _ ⟨nq, rfl⟩
                    have hc3 := (r1.drewN nq).cell (k * n + r)
                    have hf3 := (r1.drewN nq).free (k * n + r)
                    rw [tb_at _ _ hlt2] at hc3
                    go_wp2
                    go_roundw
                    case rel => exact ⟨r + 1, by omega, by go_num, by rw [← HST2.out]; exact (r1.drewN nq).set _ _, (t1.drewN nq).far (by simpa using hB) _, (b1.trans (below_drewN nq)).setCell (by simp; omega) _⟩
                    case measure => first | (simp [intOf]; done) | (simp [intOf]; omega)
                  · go_wp2
                    refine wp_region_quiet_tail 44 (by kernel_rfl) (by kernel_rfl) ?_
                    simp only [List.take_succ_cons, List.take_zero, List.drop_succ_cons, List.drop_zero]
                    repeat go_big_quiet_step ((fail))
                    refine wpQuiet_nil ?_
                    rintro _ ⟨nq, rfl⟩
                    have hc3 := (r1.drewN nq).cell (k * n + r)
                    have hf3 := (r1.drewN nq).free (k * n + r)
                    rw [tb_at _ _ hlt2] at hc3
                    go_wp2
                    go_roundw
                    case rel => exact ⟨r + 1, by omega, by go_num, by rw [← HST2.out]; exact (r1.drewN nq).set _ _, (t1.drewN nq).far (by simpa using hB) _, (b1.trans (below_drewN nq)).setCell (by simp; omega) _⟩
                    case measure => first | (simp [intOf]; done) | (simp [intOf]; omega)
            · obtain rfl : r = n := by omega
              rw [HUP.out] at r1
              go_wp2
              go_roundw
              case rel => exact ⟨k + 1, by omega, by go_num, r1, t1, b1⟩
              case measure => simp [intOf]; omega
        · obtain rfl : k = n + 1 := by omega
          rw [tb_congr ((n + 1) * n) (fun v h => upB_all n l m v h)] at r1
          obtain ⟨u, hu⟩ := t1.was (j := m) (by omega)
          have hfu := t1.free m
          go_wp2
          go_roundw
          case rel => exact ⟨m, _, (m : Int) - 1, by omega, by omega, by go_num, t1.put (by omega) (by omega) r1, b1.setCell (Nat.le_refl _) _⟩
          case measure => first | (simp [intOf]; done) | (simp [intOf]; omega)
    · obtain rfl : j = 0 := by omega
      obtain rfl : x = -1 := by omega
      clear hx hj hlt HMB
      have hB : B ≤ wr.heap.size := by obtain ⟨_, _, _, _, h, _⟩ := t0; exact h
      have hG : w.heap.size < B := by obtain ⟨_, _, _, h, _, _⟩ := t0; omega
      have o0 : wr.ownsRow B 3 1 (.slice none 0 0) ([] : List Int).length (iv []) := ⟨by simp [iv], .inl ⟨rfl, by simp⟩⟩
      obtain ⟨j0, ji, jz0, jz1, jz2⟩ := info_parts info3
      have HGR := Lib.hid (grT_zero n l)
      go_wp2
      go_loopw [11, 12, 13] (fun v r i wr => ∃ (k a : Nat) (o : List Int), k ≤ l.length ∧ o.length ≤ n ∧ a < n ∧ i = .int .i64 k ∧ r = .int .i64 a ∧ Hid (grT n l k o a = grL n 0 l n 0) ∧ wr.ownsRow B 3 1 v o.length (iv o) ∧ TabAt wr w.heap.size B n l 0 ∧ Below w.heap.size w wr) (fun _ _ i _ => l.length - (intOf i).toNat)
      case atStart => exact ⟨0, 0, [], by omega, by simp, by omega, rfl, rfl, HGR, o0, t0, b0⟩
      case round =>
        clear o0 t0 b0 hB
        obtain ⟨k, a, o, hk, ho, ha, rfl, rfl, HG, o0, t0, b0⟩ := hrel
        have hB : B ≤ wr.heap.size := by obtain ⟨_, _, _, _, h, _⟩ := t0; exact h
        obtain ⟨A2, c2, e2, -, -, -⟩ := own_intsI o0
        subst e2
        by_cases hkm : k < l.length
        · by_cases hon : o.length < n
          · obtain ⟨g, g1, g2, gc, gr⟩ := t0.get (j := k + 1) (Nat.zero_le _) (by omega)
            obtain ⟨s, hs, hse⟩ := rest_nat n ((a : Int) - geti l k) n1
            have HY := Lib.hid (fun c => grT_yes hon hkm hs hse c)
            have HN := Lib.hid (fun c => grT_no hon hkm hs hse c)
            have hlt2 : (n - o.length - 1) * n + s < (n + 1) * n := at_lt hs (by omega)
            have gh := gr.cell ((n - o.length - 1) * n + s)
            rw [tb_at _ _ hlt2] at gh
            have HR : Hid (∀ w, Calls Try.prog 60 #[.int .i64 a, .int .i64 (geti l k), .int .i64 n] w fun e w' => e = .returned (.int .i64 s) ∧ w = w') := Lib.hid (fun w => by
              have h := rest_any a (geti l k) n w (by omega) (by omega) (by omega) (by omega)
              rw [hse] at h
              exact h)
            obtain ⟨bA, oA, hAe, hbA, hcA⟩ := (HA.out.below b0) (by omega)
            subst hAe
            have hcm := hcA k hkm
            clear hcA hse hlt2
            generalize geti l k = y at *
            generalize cB n l (k + 1) ((n - o.length - 1) * n + s) = X at *
            have hq : (n : Int) - o.length - 1 = ((n - o.length - 1 : Nat) : Int) := by omega
            have hp : ((n : Int) - o.length - 1) * n ≤ 400 ∧ 0 ≤ ((n : Int) - o.length - 1) * n ∧ ((n : Int) - o.length - 1) * n + s < ((n : Int) + 1) * n := by
              have h := Nat.mul_le_mul (show n - o.length - 1 ≤ 20 by omega) n2
              have h2 := at_lt (k := n - o.length - 1) hs (by omega)
              rw [hq, ← Int.natCast_mul, show ((n : Int) + 1) * n = (((n + 1) * n : Nat) : Int) by rw [Int.natCast_mul]; rfl]
              omega
            obtain ⟨p1, p2, p4⟩ := hp
            clear hq
            cases X
            · have HN2 := Lib.hid (HN.out rfl)
              clear HN HY
              go_wp2_with (go_at_call 60; refine (HR.out _).mono ?_; rintro e w2 ⟨rfl, rfl⟩)
              go_roundw
              case rel => exact ⟨k + 1, a, o, by omega, by omega, by omega, by go_num, rfl, Lib.hid (HN2.out.symm.trans HG.out), o0, t0, b0⟩
              case measure => simp [intOf]; omega
            · have HY2 := Lib.hid (HY.out rfl)
              clear HN HY
              have hnr : Row (wr.alloc (.cells #[.int .i64 k] 3)) wr.heap.size 3 [.int .i64 k] := row_new rfl
              have hbs := b0.size
              go_wp2_with (first
                | (go_at_call 60; refine (HR.out _).mono ?_; rintro e w2 ⟨rfl, rfl⟩)
                | (at_builtin; refine wpList_append_own_at _ rfl (.tmp 138) (.tmp 140) 22 rfl B 3 j0 (.int .i64 0) 1 8 Try.underlying22 ji jz0 jz1 jz2 rfl (by decide) _ _ _ rfl (o0.alloc _) ⟨wr.heap.size, 0, none⟩ 1 1 [.int .i64 (k : Int)] rfl rfl (news_one hnr) (by simp [Value.oneCell']) (by unfold maxLen; omega) (by omega) (by simp; omega) ?_; intro v2 w2 o2 hg2 _ _))
              have b3 := app1' o0 hB hg2
              have t3 := t0.below b3
              have b2 := b0.trans (b3.mono (by omega))
              have o3 : w2.ownsRow B 3 1 v2 (o ++ [(k : Int)]).length (iv (o ++ [(k : Int)])) := by
                rw [iv_snoc, List.length_append, List.length_singleton]; exact o2
              have ho3 : (o ++ [(k : Int)]).length ≤ n := by rw [List.length_append, List.length_singleton]; omega
              have HG3 := Lib.hid (HY2.out.symm.trans HG.out)
              clear HG HY2 o2 o0 t0 b0
              generalize o ++ [(k : Int)] = o' at *
              go_roundw
              case rel => exact ⟨k + 1, s, o', by omega, ho3, hs, by go_num, rfl, HG3, o3, t3, b2⟩
              case measure => simp [intOf]; omega
          · have HE := Lib.hid (HG.out.symm.trans (grT_full hon))
            go_wp2
            go_ret
            exact ⟨_, rfl, by rw [HE.out]; exact own_mono o0 (by omega), b0⟩
        · obtain rfl : k = l.length := by omega
          have HE := Lib.hid (HG.out.symm.trans grT_end)
          go_wp2
          go_ret
          exact ⟨_, rfl, by rw [HE.out]; exact own_mono o0 (by omega), b0⟩
end Go.Proofs.Ytokjdadgdfmffaa
