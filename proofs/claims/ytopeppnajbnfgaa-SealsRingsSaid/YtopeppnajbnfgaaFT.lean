/- The reference: chains, letters, even chains. -/
import Derived.Test.YtopeppnajbnfgaaFS
namespace Go.Proofs.Ytopeppnajbnfgaa
open Go.RowKit
set_option maxHeartbeats 1000000
set_option maxRecDepth 100000
theorem Chain_any (s : ByteArray) (w : World) (hs : s.size ≤ 1000000) : Calls Try.prog 17 #[.string s] w fun e w' => e = .returned (.bool (chV s)) ∧ ∃ n, w' = w.drewN n := by
  go_enter Try.func17, Try.ntmps17
  go_wp2
  go_loopw [3] (fun i wr => ∃ k q : Nat, k ≤ s.size ∧ i = .int .i64 k ∧ wr = w.drewN q ∧ ∀ j, j < k → okC s j) (fun i _ => s.size - (intOf i).toNat)
  case atStart => exact ⟨0, 0, by omega, rfl, rfl, fun j hj => absurd hj (by omega)⟩
  case round =>
    obtain ⟨k, q, hk, rfl, rfl, hok⟩ := hrel
    have HOK := Lib.hid hok
    clear hok
    by_cases hlt : k < s.size
    · have hsb := sb_eq hlt
      have HN := Lib.hid (fun h => chV_no hlt h)
      have HY := Lib.hid (show okC s k = (97 ≤ s[k].toNat ∧ s[k].toNat < 101) by unfold okC; rw [hsb])
      clear hsb
      cases g2 : decide ((s[k].toNat : Int) < 97)
      · cases g3 : decide ((100 : Int) < s[k].toNat)
        · have h2 := of_decide_eq_false g2
          have h3 := of_decide_eq_false g3
          go_wp2
          go_roundw
          case rel =>
            refine ⟨k + 1, q, by omega, by go_num, rfl, fun j hj => ?_⟩
            by_cases e : j = k
            · subst e; rw [HY.out]; omega
            · exact HOK.out j (by omega)
          case measure => simp [intOf]; omega
        · have h3 := of_decide_eq_true g3
          have HB := Lib.hid (HN.out (by rw [HY.out]; omega))
          go_wp2
          go_ret
          exact ⟨ret_bool HB.out.symm, _, rfl⟩
      · have h2 := of_decide_eq_true g2
        have HB := Lib.hid (HN.out (by rw [HY.out]; omega))
        go_wp2
        go_ret
        exact ⟨ret_bool HB.out.symm, _, rfl⟩
    · obtain rfl : k = s.size := by omega
      have HB := Lib.hid (show chV s = decide ((s.size : Int) ≤ 24) by unfold chV; exact decide_eq_decide.2 ⟨fun h => by have := h.1; omega, fun h => ⟨by omega, HOK.out⟩⟩)
      cases g4 : decide ((s.size : Int) ≤ 24)
      all_goals
        rw [g4] at HB
        go_wp2
        go_ret
        exact ⟨ret_bool HB.out.symm, _, rfl⟩
theorem info46 : (Try.prog.info? 46).map (·.size) = some 4 := by kernel_rfl
theorem z46 : ∀ w, (zeroValue 46).run Try.prog w = .ok (.agg Z4.toArray) w := (zero_of_info (n := 4) (by kernel_rfl)).1
theorem info46_iv {x : List Int} (h : x.length = 4) : (Try.prog.info? 46).map (·.size) = some (iv x).toArray.size := by rw [List.size_toArray, iv_len, h]; exact info46
theorem cell46_res {W : World} {k : Nat} {x : List Int} (h : x.length = 4) (hr : Row W k 46 (iv x)) : (loadVar 46 ⟨k, 0, none⟩).run Try.prog W = .ok (.agg (iv x).toArray) W :=
  cell_res Try.underlying46 (by rw [iv_len, h]; exact info46) hr
theorem Letters_any (s : ByteArray) (w : World) (hs : s.size ≤ 1000000) (hok : ∀ i, i < s.size → okC s i) : Calls Try.prog 41 #[.string s] w fun e w' => e = .returned (.agg (iv (sumL s s.size)).toArray) ∧ Below w.heap.size w w' := by
  have z1 := z46
  have r0 : Row ((w.alloc (.cells Z4.toArray 46)).alloc (.cells Z4.toArray 46)) w.heap.size 46 Z4 := (row_new rfl).alloc _
  have r1 : Row ((w.alloc (.cells Z4.toArray 46)).alloc (.cells Z4.toArray 46)) (w.heap.size + 1) 46 (iv (sumL s 0)) := row_new (by simp)
  have b0 : Below w.heap.size w ((w.alloc (.cells Z4.toArray 46)).alloc (.cells Z4.toArray 46)) := ((Below.refl _ w).alloc (Nat.le_refl _) _).alloc (by simp) _
  have HOK := Lib.hid hok
  clear hok
  go_enter Try.func41, Try.ntmps41
  go_wp2
  go_loopw [4] (fun i wr => ∃ k : Nat, k ≤ s.size ∧ i = .int .i64 k ∧ Row wr w.heap.size 46 Z4 ∧ Row wr (w.heap.size + 1) 46 (iv (sumL s k)) ∧ Below w.heap.size w wr) (fun i _ => s.size - (intOf i).toNat)
  case atStart => exact ⟨0, by omega, rfl, r0, r1, b0⟩
  case round =>
    clear r0 r1 b0
    obtain ⟨k, hk, rfl, q0, q2, bq⟩ := hrel
    by_cases hlt : k < s.size
    · have hsb := sb_eq hlt
      obtain ⟨ha, hb⟩ := HOK.out k hlt
      rw [hsb] at ha hb
      have d2 : wr.cell? ⟨w.heap.size + 1, s[k].toNat - 97, none⟩ = some (.int .i64 (cnt s k (s[k].toNat - 97))) := by
        have := ivR q2 (i := s[k].toNat - 97) (by show _ < 4; omega)
        rwa [sumL_at s k (by omega)] at this
      have f2 : wr.frozen? ⟨w.heap.size + 1, s[k].toNat - 97, none⟩ = false := q2.free _
      obtain ⟨hcr1, hcr2⟩ := cnt_rng s (s[k].toNat - 97) k
      have hst := sumL_step s k (d := s[k].toNat - 97) (by omega) (by omega)
      rw [sumL_at s k (by omega)] at hst
      have q2' := q2.set (s[k].toNat - 97) (.int .i64 (cnt s k (s[k].toNat - 97) + 1))
      rw [iv_set, hst] at q2'
      clear hst q2
      have q0' := q0.far (p := ⟨w.heap.size + 1, s[k].toNat - 97, none⟩) (by dsimp only; omega) (.int .i64 (cnt s k (s[k].toNat - 97) + 1))
      have bq' := bq.setCell (p := ⟨w.heap.size + 1, s[k].toNat - 97, none⟩) (by dsimp only; omega) (.int .i64 (cnt s k (s[k].toNat - 97) + 1))
      clear q0 bq
      generalize cnt s k (s[k].toNat - 97) = x at *
      go_wp2
      go_roundw
      case rel => exact ⟨k + 1, by omega, by go_num, q0', q2', bq'⟩
      case measure => simp [intOf]; omega
    · obtain rfl : k = s.size := by omega
      have hi := info46_iv (x := sumL s s.size) rfl
      go_wp2_with (first
        | ((with_reducible refine (?_ : wpList _ _ _ (Oper.mk (some 22) _ _ _ _ _ :: _) _ _)); refine wpList_load_row rfl 46 (.tmp 3) rfl (w.heap.size + 1) rfl 46 (iv (sumL s s.size)).toArray (0, 0) _ (row_heap q2) Try.underlying46 rfl hi ?_)
        | ((with_reducible refine (?_ : wpList _ _ _ (Oper.mk none _ _ _ _ _ :: _) _ _)); refine wpList_store_row rfl 46 (.tmp 2) (.tmp 22) rfl w.heap.size (iv (sumL s s.size)).toArray rfl rfl 46 Z4.toArray (row_heap q0) hi (size51_iv rfl) (iv_all _) ?_))
      exact bodyPost_ret (v := .agg (iv (sumL s s.size)).toArray) (res1 Try.results41 rfl (cell46_res rfl (q0.row _))) rfl ⟨rfl, below_row bq (Nat.le_refl _) _⟩
end Go.Proofs.Ytopeppnajbnfgaa
