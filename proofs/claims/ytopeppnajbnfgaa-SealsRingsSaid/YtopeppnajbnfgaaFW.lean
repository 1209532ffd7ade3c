/- The reference: shares. -/
import Derived.Test.YtopeppnajbnfgaaFV
namespace Go.Proofs.Ytopeppnajbnfgaa
open Go.RowKit
set_option maxHeartbeats 1000000
set_option maxRecDepth 100000
theorem RefShares_any (s : ByteArray) (A : Option Addr) (c : Nat) (xs : List Int) (w : World) (hs : s.size ≤ 24) (hcut : cutV 1 s.size xs = true) (hx : IntsAt w A xs) :
    Calls Try.prog 28 #[.string s, .slice A xs.length c] w fun e w' => e = .returned (.tuple #[.string (shareV s xs 0), .string (shareV s xs 1)]) ∧ Below w.heap.size w w' := by
  have z6 := z62
  have hln := cutV_len (by omega) hcut
  have HE := Lib.hid (ends_ok hcut)
  have t0 : Row (w.alloc (.cells #[.string ⟨#[]⟩, .string ⟨#[]⟩] 62)) w.heap.size 62 [.string ⟨#[]⟩, .string ⟨#[]⟩] := row_new rfl
  have b0 : Below w.heap.size w (w.alloc (.cells #[.string ⟨#[]⟩, .string ⟨#[]⟩] 62)) := (Below.refl _ w).alloc (Nat.le_refl _) _
  have hL : ∀ k, k < xs.length → geti (xs ++ [(s.size : Int)]) k = geti xs k := fun k hk => geti_app_left hk
  have hT : geti (xs ++ [(s.size : Int)]) xs.length = s.size := geti_app_last
  generalize hts : xs ++ [(s.size : Int)] = ts at *
  have HT2 := Lib.hid hts
  clear hts
  go_enter Try.func28, Try.ntmps28
  go_wp2
  go_loopw [7, 8, 9] (fun f cr i wr => ∃ k : Nat, k ≤ xs.length + 1 ∧ i = .int .i64 k ∧ f = .int .i64 (frm ts k) ∧ cr = .int .i64 ((k % 2 : Nat) : Int) ∧ Row wr w.heap.size 62 [.string (shr s ts 0 k), .string (shr s ts 1 k)] ∧ Below w.heap.size w wr) (fun _ _ i _ => xs.length + 1 - (intOf i).toNat)
  case atStart => exact ⟨0, by omega, rfl, rfl, rfl, t0, b0⟩
  case round =>
    clear t0 b0
    obtain ⟨k, hk, rfl, rfl, rfl, t0, b0⟩ := hrel
    have i5 := hx.below b0
    have c0 : wr.cell? ⟨w.heap.size, 0, none⟩ = some (.string (shr s ts 0 k)) := t0.cell 0
    have c1 : wr.cell? ⟨w.heap.size, 1, none⟩ = some (.string (shr s ts 1 k)) := t0.cell 1
    by_cases hlt : k < xs.length + 1
    · obtain ⟨h1, h2, h3⟩ := HE.out k hlt
      obtain ⟨e, he⟩ : ∃ e : Nat, geti ts k = e := ⟨(geti ts k).toNat, by omega⟩
      have hfe : frm ts (k + 1) = e := by unfold frm; rw [if_neg (by omega), Nat.add_sub_cancel, he]; rfl
      have HS0 := Lib.hid (show shr s ts 0 (k + 1) = if k % 2 = 0 then shr s ts 0 k ++ s.extract (frm ts k) e else shr s ts 0 k by rw [← hfe]; rfl)
      have HS1 := Lib.hid (show shr s ts 1 (k + 1) = if k % 2 = 1 then shr s ts 1 k ++ s.extract (frm ts k) e else shr s ts 1 k by rw [← hfe]; rfl)
      have HFE := Lib.hid hfe
      have hfl : frm ts k ≤ e := by omega
      have hel : e ≤ s.size := by omega
      have hz0 := shr_size s ts 0 k
      have hz1 := shr_size s ts 1 k
      have hz2 : s.size * k ≤ 24 * 100 := Nat.mul_le_mul hs (by omega)
      have HTO : k < xs.length → geti xs k = e := fun h => by rw [← hL k h, he]
      have HTS : k = xs.length → e = s.size := fun h => by
        have : (e : Int) = s.size := by rw [← he, h, hT]
        omega
      have f0 := t0.free 0
      have f1 := t0.free 1
      clear hfe h1 h2 h3 he
      generalize frm ts k = f at *
      generalize shr s ts 0 k = a0 at *
      generalize shr s ts 1 k = a1 at *
      by_cases hkm : k < xs.length
      · obtain ⟨b, o, rfl, hb, hcs⟩ := i5 (by omega)
        have d0 := hcs k hkm
        rw [HTO hkm] at d0
        clear hcs HTO HTS i5 hL hT
        rcases Nat.mod_two_eq_zero_or_one k with hk2 | hk2
        · have hadd : ∀ w, (Op.stringOp .add a0 (s.extract f e)).run Try.prog w = .ok (.string (a0 ++ s.extract f e)) w := fun w => run_string_add_sum w _ _ (by rw [ByteArray.size_extract]; omega)
          have hn2 : (k + 1) % 2 = 1 := by omega
          have HN2 := Lib.hid hn2
          clear hn2
          rw [hk2]
          have HK2 := Lib.hid hk2
          clear hk2
          go_wp2
          refine wp_region_quiet_tail 10 (by kernel_rfl) (by kernel_rfl) ?_
          simp only [List.take_succ_cons, List.take_zero, List.drop_succ_cons, List.drop_zero]
          repeat go_big_quiet_step ((fail))
          refine wpQuiet_nil ?_
          rintro _ ⟨nq, rfl⟩
          go_wp2
          go_roundw
          case rel =>
            refine ⟨k + 1, by omega, by go_num, by rw [HFE.out], by rw [HN2.out]; rfl, ?_, (b0.trans (below_drewN nq)).setCell (by dsimp only; omega) _⟩
            have h := (t0.drewN nq).set 0 (.string (a0 ++ s.extract f e))
            rw [HS0.out, HS1.out, if_pos (by have := HK2.out; omega), if_neg (by have := HK2.out; omega)]
            exact h
          case measure => simp [intOf]; omega
        · have hadd : ∀ w, (Op.stringOp .add a1 (s.extract f e)).run Try.prog w = .ok (.string (a1 ++ s.extract f e)) w := fun w => run_string_add_sum w _ _ (by rw [ByteArray.size_extract]; omega)
          have hn2 : (k + 1) % 2 = 0 := by omega
          have HN2 := Lib.hid hn2
          clear hn2
          rw [hk2]
          have HK2 := Lib.hid hk2
          clear hk2
          go_wp2
          refine wp_region_quiet_tail 10 (by kernel_rfl) (by kernel_rfl) ?_
          simp only [List.take_succ_cons, List.take_zero, List.drop_succ_cons, List.drop_zero]
          repeat go_big_quiet_step ((fail))
          refine wpQuiet_nil ?_
          rintro _ ⟨nq, rfl⟩
          go_wp2
          go_roundw
          case rel =>
            refine ⟨k + 1, by omega, by go_num, by rw [HFE.out], by rw [HN2.out]; rfl, ?_, (b0.trans (below_drewN nq)).setCell (by dsimp only; omega) _⟩
            have h := (t0.drewN nq).set 1 (.string (a1 ++ s.extract f e))
            rw [HS0.out, HS1.out, if_neg (by have := HK2.out; omega), if_pos (by have := HK2.out; omega)]
            exact h
          case measure => simp [intOf]; omega
      · have hes := HTS (by omega)
        subst hes
        clear HTO HTS i5 hL hT
        rcases Nat.mod_two_eq_zero_or_one k with hk2 | hk2
        · have hadd : ∀ w, (Op.stringOp .add a0 (s.extract f s.size)).run Try.prog w = .ok (.string (a0 ++ s.extract f s.size)) w := fun w => run_string_add_sum w _ _ (by rw [ByteArray.size_extract]; omega)
          have hn2 : (k + 1) % 2 = 1 := by omega
          have HN2 := Lib.hid hn2
          clear hn2
          rw [hk2]
          have HK2 := Lib.hid hk2
          clear hk2
          go_wp2
          refine wp_region_quiet_tail 10 (by kernel_rfl) (by kernel_rfl) ?_
          simp only [List.take_succ_cons, List.take_zero, List.drop_succ_cons, List.drop_zero]
          repeat go_big_quiet_step ((fail))
          refine wpQuiet_nil ?_
          rintro _ ⟨nq, rfl⟩
          go_wp2
          go_roundw
          case rel =>
            refine ⟨k + 1, by omega, by go_num, by rw [HFE.out], by rw [HN2.out]; rfl, ?_, (b0.trans (below_drewN nq)).setCell (by dsimp only; omega) _⟩
            have h := (t0.drewN nq).set 0 (.string (a0 ++ s.extract f s.size))
            rw [HS0.out, HS1.out, if_pos (by have := HK2.out; omega), if_neg (by have := HK2.out; omega)]
            exact h
          case measure => simp [intOf]; omega
        · have hadd : ∀ w, (Op.stringOp .add a1 (s.extract f s.size)).run Try.prog w = .ok (.string (a1 ++ s.extract f s.size)) w := fun w => run_string_add_sum w _ _ (by rw [ByteArray.size_extract]; omega)
          have hn2 : (k + 1) % 2 = 0 := by omega
          have HN2 := Lib.hid hn2
          clear hn2
          rw [hk2]
          have HK2 := Lib.hid hk2
          clear hk2
          go_wp2
          refine wp_region_quiet_tail 10 (by kernel_rfl) (by kernel_rfl) ?_
          simp only [List.take_succ_cons, List.take_zero, List.drop_succ_cons, List.drop_zero]
          repeat go_big_quiet_step ((fail))
          refine wpQuiet_nil ?_
          rintro _ ⟨nq, rfl⟩
          go_wp2
          go_roundw
          case rel =>
            refine ⟨k + 1, by omega, by go_num, by rw [HFE.out], by rw [HN2.out]; rfl, ?_, (b0.trans (below_drewN nq)).setCell (by dsimp only; omega) _⟩
            have h := (t0.drewN nq).set 1 (.string (a1 ++ s.extract f s.size))
            rw [HS0.out, HS1.out, if_neg (by have := HK2.out; omega), if_pos (by have := HK2.out; omega)]
            exact h
          case measure => simp [intOf]; omega
    · obtain rfl : k = xs.length + 1 := by omega
      have HR0 := Lib.hid (show shareV s xs 0 = shr s ts 0 (xs.length + 1) by unfold shareV; rw [HT2.out])
      have HR1 := Lib.hid (show shareV s xs 1 = shr s ts 1 (xs.length + 1) by unfold shareV; rw [HT2.out])
      generalize shr s ts 0 (xs.length + 1) = a0 at *
      generalize shr s ts 1 (xs.length + 1) = a1 at *
      go_wp2
      go_quiet (fail)
      go_wp2
      exact bodyPost_ret (v := .tuple #[.string a0, .string a1]) (by simp [results, Try.results28]) rfl ⟨by rw [HR0.out, HR1.out], b0.trans (below_drewN nq)⟩
end Go.Proofs.Ytopeppnajbnfgaa
