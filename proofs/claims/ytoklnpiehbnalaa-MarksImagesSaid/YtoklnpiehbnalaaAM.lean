/- Exponents. -/
import Derived.Test.YtoklnpiehbnalaaAL
namespace Go.Proofs.Ytoklnpiehbnalaa
open Go.RowKit Go.PlainAid
set_option maxHeartbeats 2000000
set_option maxRecDepth 100000
def FR0 : Value := .agg #[.int .i64 0, .int .i64 0]
theorem res2 {P : Program} {F : Func} {tm : Array Value} {i j k : Nat} {t : TypeId} {v u : Value} {W : World} (hF : F.results = #[ResultVar.cell i t, ResultVar.tmp j]) (h0 : tm.getD i undef = .pointer (some ⟨k, 0, none⟩)) (h1 : tm.getD j undef = u)
    (hl : (loadVar t ⟨k, 0, none⟩).run P W = .ok v W) : (results F tm).run P W = .ok (.tuple #[v, u]) W := by
  have h0' : tm[i]?.getD undef = .pointer (some ⟨k, 0, none⟩) := by simpa using h0
  have h1' : tm[j]?.getD undef = u := by simpa using h1
  simp [results, hF, h0', h1', asAddr, hl]
theorem Exponent_no (s : ByteArray) (w : World) (hs : s.size ≤ 9223372036854775807) (h : okB s = false) :
    Calls Try.prog 29 #[.string s] w fun e w' => e = .returned (.tuple #[FR0, .int .i64 2]) ∧ Below w.heap.size w w' := by
  have HW := Lib.hid (fun V => isWord_any s V hs)
  rw [h] at HW
  have b0 : Below w.heap.size w (w.alloc (.cells #[.int .i64 0, .int .i64 0] 36)) := (Below.refl _ w).alloc (Nat.le_refl _) _
  have r0 : Row (w.alloc (.cells #[.int .i64 0, .int .i64 0] 36)) w.heap.size 36 [.int .i64 0, .int .i64 0] := row_new rfl
  clear h
  go_enter Try.func29, Try.ntmps29
  go_wp2_with (go_at_call 58; (with_reducible refine (HW.out _).mono ?_); rintro e w2 ⟨rfl, b2⟩; replace r0 := r0.below b2; replace b0 := b0.trans (b2.mono b0.size); have f0' := r0.free 0; have f1' := r0.free 1; have c0' := r0.cell 0; have c1' := r0.cell 1)
  exact bodyPost_ret (v := .tuple #[.agg #[.int .i64 0, .int .i64 0], .int .i64 2]) (res2 Try.results29 rfl rfl (cell2_res ((r0.set 0 (.int .i64 0)).set 1 (.int .i64 0)))) rfl ⟨rfl, (b0.setCell (Nat.le_refl _) _).setCell (Nat.le_refl _) _⟩
theorem Exponent_nil (w : World) :
    Calls Try.prog 29 #[.string ⟨#[]⟩] w fun e w' => e = .returned (.tuple #[FR0, .int .i64 2]) ∧ Below w.heap.size w w' := by
  have HW : Hid (∀ V, Calls Try.prog 58 #[.string ⟨#[]⟩] V fun e w' => e = .returned (.bool true) ∧ Below V.heap.size V w') := Lib.hid (fun V => isWord_any ⟨#[]⟩ V (by decide))
  have b0 : Below w.heap.size w (w.alloc (.cells #[.int .i64 0, .int .i64 0] 36)) := (Below.refl _ w).alloc (Nat.le_refl _) _
  have r0 : Row (w.alloc (.cells #[.int .i64 0, .int .i64 0] 36)) w.heap.size 36 [.int .i64 0, .int .i64 0] := row_new rfl
  go_enter Try.func29, Try.ntmps29
  go_wp2_with (go_at_call 58; (with_reducible refine (HW.out _).mono ?_); rintro e w2 ⟨rfl, b2⟩; replace r0 := r0.below b2; replace b0 := b0.trans (b2.mono b0.size); have f0' := r0.free 0; have f1' := r0.free 1; have c0' := r0.cell 0; have c1' := r0.cell 1)
  exact bodyPost_ret (v := .tuple #[.agg #[.int .i64 0, .int .i64 0], .int .i64 2]) (res2 Try.results29 rfl rfl (cell2_res ((r0.set 0 (.int .i64 0)).set 1 (.int .i64 0)))) rfl ⟨rfl, (b0.setCell (Nat.le_refl _) _).setCell (Nat.le_refl _) _⟩
theorem Exponent_yes (x : List Nat) (w : World) (hx : okW x) (h1 : 1 ≤ x.length) (hl : x.length ≤ 120) :
    Calls Try.prog 29 #[.string (wS x)] w fun e w' => e = .returned (.tuple #[frc x.length (mper x 1), .int .i64 0]) ∧ Below w.heap.size w w' := by
  have HW := Lib.hid (fun V => isWord_any (wS x) V (by rw [wS_len]; omega))
  rw [okB_wS hx hl] at HW
  have HP : Hid (∀ V, Calls Try.prog 62 #[.string (wS x), .int .i64 1] V fun e w' => e = .returned (.int .i64 (mper x 1 : Nat)) ∧ ∃ n, w' = V.drewN n) := Lib.hid (fun V => smallestPeriod_any x 1 V hx h1 (by omega))
  obtain ⟨hm1, hm, -⟩ := mper_le (x := x) (p := 1) h1
  have HF := Lib.hid (fun V => fraction_any x.length (mper x 1) V h1 (by omega) (by omega))
  have hz := wS_len x
  obtain ⟨u, v, huv⟩ : ∃ u v, frc x.length (mper x 1) = .agg #[.int .i64 u, .int .i64 v] := ⟨_, _, rfl⟩
  have HUV := Lib.hid huv
  rw [huv] at HF
  have HNE : Hid ((wS x).toList.isEmpty = false) := Lib.hid (by
    rw [Bool.eq_false_iff]
    intro e
    have := congrArg List.length (List.isEmpty_iff.1 e)
    rw [ba_list, ds_len, wS_len] at this
    exact absurd (show x.length = 0 from this) (by omega))
  have b0 : Below w.heap.size w (w.alloc (.cells #[.int .i64 0, .int .i64 0] 36)) := (Below.refl _ w).alloc (Nat.le_refl _) _
  have r0 : Row (w.alloc (.cells #[.int .i64 0, .int .i64 0] 36)) w.heap.size 36 [.int .i64 0, .int .i64 0] := row_new rfl
  generalize mper x 1 = p at *
  obtain ⟨N, hN⟩ : ∃ N, x.length = N := ⟨_, rfl⟩
  rw [hN] at hz h1 hl hm HF
  generalize wS x = s at *
  subst hz
  have HN := Lib.hid hN
  clear hN hx hm1 hm huv
  have hne := HNE.out
  go_enter Try.func29, Try.ntmps29
  go_wp2_with (first
   | (go_at_call 58; (with_reducible refine (HW.out _).mono ?_); rintro e w2 ⟨rfl, b2⟩; replace r0 := r0.below b2; replace b0 := b0.trans (b2.mono b0.size))
   | (go_at_call 62; (with_reducible refine (HP.out _).mono ?_); rintro e w3 ⟨rfl, m, rfl⟩; replace r0 := r0.drewN m; replace b0 := b0.trans (below_drewN m); generalize World.drewN _ m = w4 at *)
   | (go_at_call 61; (with_reducible refine (HF.out _).mono ?_); rintro e w5 ⟨rfl, b5⟩; replace r0 := r0.below b5; replace b0 := b0.trans (b5.mono b0.size); have f0' := r0.free 0; have f1' := r0.free 1; have c0' := r0.cell 0; have c1' := r0.cell 1))
  exact bodyPost_ret (v := .tuple #[.agg #[.int .i64 u, .int .i64 v], .int .i64 0]) (res2 Try.results29 rfl rfl (cell2_res ((r0.set 0 (.int .i64 u)).set 1 (.int .i64 v)))) rfl ⟨by rw [HUV.out], (b0.setCell (Nat.le_refl _) _).setCell (Nat.le_refl _) _⟩
end Go.Proofs.Ytoklnpiehbnalaa
