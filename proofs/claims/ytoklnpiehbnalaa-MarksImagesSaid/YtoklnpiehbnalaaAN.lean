/- The greatest exponent. -/
import Derived.Test.YtoklnpiehbnalaaAM
namespace Go.Proofs.Ytoklnpiehbnalaa
open Go.RowKit Go.PlainAid
set_option maxHeartbeats 2000000
set_option maxRecDepth 100000
theorem res4 {P : Program} {F : Func} {tm : Array Value} {i j l m k : Nat} {t : TypeId} {v u u' u'' : Value} {W : World} (hF : F.results = #[ResultVar.cell i t, ResultVar.tmp j, ResultVar.tmp l, ResultVar.tmp m]) (h0 : tm.getD i undef = .pointer (some ⟨k, 0, none⟩)) (h1 : tm.getD j undef = u) (h2 : tm.getD l undef = u') (h3 : tm.getD m undef = u'')
    (hl : (loadVar t ⟨k, 0, none⟩).run P W = .ok v W) : (results F tm).run P W = .ok (.tuple #[v, u, u', u'']) W := by
  have h0' : tm[i]?.getD undef = .pointer (some ⟨k, 0, none⟩) := by simpa using h0
  have h1' : tm[j]?.getD undef = u := by simpa using h1
  have h2' : tm[l]?.getD undef = u' := by simpa using h2
  have h3' : tm[m]?.getD undef = u'' := by simpa using h3
  simp [results, hF, h0', h1', h2', h3', asAddr, hl]
theorem not_empty {x : List Nat} (h1 : 1 ≤ x.length) : (wS x).toList.isEmpty = false := by
  rw [Bool.eq_false_iff]
  intro e
  have := congrArg List.length (List.isEmpty_iff.1 e)
  rw [ba_list, ds_len, wS_len] at this
  exact absurd (show x.length = 0 from this) (by omega)
theorem Greatest_no (s : ByteArray) (w : World) (hs : s.size ≤ 9223372036854775807) (h : okB s = false) :
    Calls Try.prog 30 #[.string s] w fun e w' => e = .returned (.tuple #[FR0, .int .i64 0, .int .i64 0, .int .i64 2]) ∧ Below w.heap.size w w' := by
  have HW := Lib.hid (fun V => isWord_any s V hs)
  rw [h] at HW
  have b0 : Below w.heap.size w (w.alloc (.cells #[.int .i64 0, .int .i64 0] 36)) := (Below.refl _ w).alloc (Nat.le_refl _) _
  have r0 : Row (w.alloc (.cells #[.int .i64 0, .int .i64 0] 36)) w.heap.size 36 [.int .i64 0, .int .i64 0] := row_new rfl
  clear h
  go_enter Try.func30, Try.ntmps30
  go_wp2_with (go_at_call 58; (with_reducible refine (HW.out _).mono ?_); rintro e w2 ⟨rfl, b2⟩; replace r0 := r0.below b2; replace b0 := b0.trans (b2.mono b0.size); have f0' := r0.free 0; have f1' := r0.free 1; have c0' := r0.cell 0; have c1' := r0.cell 1)
  exact bodyPost_ret (v := .tuple #[.agg #[.int .i64 0, .int .i64 0], .int .i64 0, .int .i64 0, .int .i64 2]) (res4 Try.results30 rfl rfl rfl rfl (cell2_res ((r0.set 0 (.int .i64 0)).set 1 (.int .i64 0)))) rfl ⟨rfl, (b0.setCell (Nat.le_refl _) _).setCell (Nat.le_refl _) _⟩
theorem Greatest_nil (w : World) :
    Calls Try.prog 30 #[.string ⟨#[]⟩] w fun e w' => e = .returned (.tuple #[FR0, .int .i64 0, .int .i64 0, .int .i64 2]) ∧ Below w.heap.size w w' := by
  have HW : Hid (∀ V, Calls Try.prog 58 #[.string ⟨#[]⟩] V fun e w' => e = .returned (.bool true) ∧ Below V.heap.size V w') := Lib.hid (fun V => isWord_any ⟨#[]⟩ V (by decide))
  have b0 : Below w.heap.size w (w.alloc (.cells #[.int .i64 0, .int .i64 0] 36)) := (Below.refl _ w).alloc (Nat.le_refl _) _
  have r0 : Row (w.alloc (.cells #[.int .i64 0, .int .i64 0] 36)) w.heap.size 36 [.int .i64 0, .int .i64 0] := row_new rfl
  go_enter Try.func30, Try.ntmps30
  go_wp2_with (go_at_call 58; (with_reducible refine (HW.out _).mono ?_); rintro e w2 ⟨rfl, b2⟩; replace r0 := r0.below b2; replace b0 := b0.trans (b2.mono b0.size); have f0' := r0.free 0; have f1' := r0.free 1; have c0' := r0.cell 0; have c1' := r0.cell 1)
  exact bodyPost_ret (v := .tuple #[.agg #[.int .i64 0, .int .i64 0], .int .i64 0, .int .i64 0, .int .i64 2]) (res4 Try.results30 rfl rfl rfl rfl (cell2_res ((r0.set 0 (.int .i64 0)).set 1 (.int .i64 0)))) rfl ⟨rfl, (b0.setCell (Nat.le_refl _) _).setCell (Nat.le_refl _) _⟩
theorem Greatest_yes (x : List Nat) (w : World) (hx : okW x) (h1 : 1 ≤ x.length) (hl : x.length ≤ 120) :
    Calls Try.prog 30 #[.string (wS x)] w fun e w' => e = .returned (.tuple #[frc (grT x).1 (grT x).2.1, .int .i64 (grT x).2.2, .int .i64 (grT x).1, .int .i64 0]) ∧ Below w.heap.size w w' := by
  have HW := Lib.hid (fun V => isWord_any (wS x) V (by rw [wS_len]; omega))
  rw [okB_wS hx hl] at HW
  have HG := Lib.hid (fun V => greatest_any x V hx h1 hl)
  obtain ⟨u, v, huv⟩ : ∃ u v, frc (grT x).1 (grT x).2.1 = .agg #[.int .i64 u, .int .i64 v] := ⟨_, _, rfl⟩
  have HUV := Lib.hid huv
  rw [huv] at HG
  have hne := not_empty h1
  have b0 : Below w.heap.size w (w.alloc (.cells #[.int .i64 0, .int .i64 0] 36)) := (Below.refl _ w).alloc (Nat.le_refl _) _
  have r0 : Row (w.alloc (.cells #[.int .i64 0, .int .i64 0] 36)) w.heap.size 36 [.int .i64 0, .int .i64 0] := row_new rfl
  generalize wS x = s at *
  generalize (grT x).1 = N at *
  generalize (grT x).2.2 = A at *
  generalize (grT x).2.1 = D at *
  clear hx huv h1 hl
  go_enter Try.func30, Try.ntmps30
  go_wp2_with (first
   | (go_at_call 58; (with_reducible refine (HW.out _).mono ?_); rintro e w2 ⟨rfl, b2⟩; replace r0 := r0.below b2; replace b0 := b0.trans (b2.mono b0.size))
   | (go_at_call 63; (with_reducible refine (HG.out _).mono ?_); rintro e w5 ⟨rfl, b5⟩; replace r0 := (r0.below b5).alloc (.cells #[.int .i64 u, .int .i64 v] 36); replace b0 := (b0.trans (b5.mono b0.size)).alloc (by have := b0.size; have := b5.size; simp at *; omega) (.cells #[.int .i64 u, .int .i64 v] 36); have f0' := r0.free 0; have f1' := r0.free 1; have c0' := r0.cell 0; have c1' := r0.cell 1))
  exact bodyPost_ret (v := .tuple #[.agg #[.int .i64 u, .int .i64 v], .int .i64 A, .int .i64 N, .int .i64 0]) (res4 Try.results30 rfl rfl rfl rfl (cell2_res ((r0.set 0 (.int .i64 u)).set 1 (.int .i64 v)))) rfl ⟨by rw [HUV.out], (b0.setCell (Nat.le_refl _) _).setCell (Nat.le_refl _) _⟩
theorem reduced_any (n d : Nat) (w : World) (hn : 1 ≤ n) (hn2 : n ≤ 10000) (hd2 : d ≤ 10000) :
    Calls Try.prog 31 #[.int .i64 n, .int .i64 d] w fun e w' => e = .returned (frc n d) ∧ Below w.heap.size w w' := by
  have hG1 := gcd_pos (d := d) hn
  have hG2 := gcd_le' (d := d) hn
  have HF : Hid (frc n d = .agg #[.int .i64 (n / Nat.gcd n d : Nat), .int .i64 (d / Nat.gcd n d : Nat)]) := Lib.hid rfl
  obtain ⟨G, hG⟩ : ∃ G, Nat.gcd n d = G := ⟨_, rfl⟩
  rw [hG] at hG1 hG2 HF
  have HG0 : Hid (Nat.gcd n d = G) := Lib.hid hG
  clear hG
  have r0 : Row (w.alloc (.cells #[.int .i64 0, .int .i64 0] 36)) w.heap.size 36 [.int .i64 0, .int .i64 0] := row_new rfl
  have b0 : Below w.heap.size w (w.alloc (.cells #[.int .i64 0, .int .i64 0] 36)) := (Below.refl _ w).alloc (Nat.le_refl _) _
  go_enter Try.func31, Try.ntmps31
  go_wp2
  go_loopw [5, 6] (fun x y wr => ∃ a b : Nat, x = .int .i64 a ∧ y = .int .i64 b ∧ a ≤ 10000 ∧ b ≤ 10000 ∧ Row wr w.heap.size 36 [.int .i64 0, .int .i64 0] ∧ Below w.heap.size w wr ∧ Hid (Nat.gcd a b = G)) (fun _ y _ => (intOf y).toNat)
  case atStart => exact ⟨n, d, rfl, rfl, hn2, hd2, r0, b0, HG0⟩
  case round =>
    clear r0 b0 HG0
    obtain ⟨a, b, rfl, rfl, ha, hb, r0, b0, HG⟩ := hrel
    by_cases hb0 : b = 0
    · subst hb0
      have HA : Hid (a = G) := Lib.hid (by have := HG.out; rwa [Nat.gcd_zero_right] at this)
      have ha1 : 1 ≤ a := by have := HA.out; omega
      have ha0 : ¬ a = 0 := by omega
      have e1 := tdiv_nat n a
      have e2 := tdiv_nat d a
      have b1 := Nat.div_le_self n a
      have b2 := Nat.div_le_self d a
      obtain ⟨u, hu⟩ : ∃ u, n / a = u := ⟨_, rfl⟩
      obtain ⟨v, hv⟩ : ∃ v, d / a = v := ⟨_, rfl⟩
      rw [hu] at e1 b1
      rw [hv] at e2 b2
      have HU : Hid (frc n d = .agg #[.int .i64 u, .int .i64 v]) := Lib.hid (by rw [HF.out, ← HA.out, hu, hv])
      have hw1 : IntKind.i64.wrap (u : Int) = u := IntWalk.i64_in _ ⟨by omega, by omega⟩
      have hw2 : IntKind.i64.wrap (v : Int) = v := IntWalk.i64_in _ ⟨by omega, by omega⟩
      have f0 := r0.cells2
      clear hu hv HF HG HA
      go_wp2
      refine wp_region_quiet_tail 7 (by kernel_rfl) (by kernel_rfl) ?_
      simp only [List.take_succ_cons, List.take_zero, List.drop_succ_cons, List.drop_zero]
      repeat go_big_quiet_step ((fail))
      refine wpQuiet_nil ?_
      rintro _ ⟨nq, rfl⟩
      go_wp2
      exact bodyPost_ret (v := .agg #[.int .i64 u, .int .i64 v]) (res1 Try.results31 rfl (cell2_res (((r0.drewN nq).set 0 (.int .i64 u)).set 1 (.int .i64 v)))) rfl ⟨by rw [HU.out], ((b0.trans (below_drewN nq)).setCell (Nat.le_refl _) _).setCell (Nat.le_refl _) _⟩
    · have hb1 : 1 ≤ b := by omega
      have hlt := Nat.mod_lt a hb1
      have e1 : Int.tmod (a : Int) (b : Int) = ((a % b : Nat) : Int) := rfl
      have HG2 : Hid (Nat.gcd b (a % b) = G) := Lib.hid (by have := HG.out; rwa [Nat.gcd_comm, Nat.gcd_rec, Nat.gcd_comm] at this)
      have g1 : decide ((0 : Int) < (b : Int)) = true := by simp; omega
      have g2 : decide (0 < b) = true := by simp; omega
      obtain ⟨m, hm⟩ : ∃ m, a % b = m := ⟨_, rfl⟩
      rw [hm] at e1 HG2 hlt
      have e2 : (a : Int) % (b : Int) = m := by rw [← hm]; rfl
      clear hm HG HF
      go_wp2
      go_roundw
      case rel => exact ⟨b, m, rfl, by first | rfl | rw [e2], hb, by omega, r0, b0, HG2⟩
      case measure => simp [intOf]; omega
end Go.Proofs.Ytoklnpiehbnalaa
