/- Fractions in lowest terms. -/
import Derived.Test.YtoklnpiehbnalaaAH
namespace Go.Proofs.Ytoklnpiehbnalaa
open Go.RowKit Go.PlainAid
set_option maxHeartbeats 1000000
set_option maxRecDepth 100000
/-- A fraction in lowest terms. -/
def frc (n d : Nat) : Value := .agg #[.int .i64 (n / Nat.gcd n d : Nat), .int .i64 (d / Nat.gcd n d : Nat)]
theorem gcd_pos {n d : Nat} (h : 1 ≤ n) : 1 ≤ Nat.gcd n d := Nat.gcd_pos_of_pos_left d (by omega)
theorem tdiv_nat (a b : Nat) : Int.tdiv (a : Int) (b : Int) = ((a / b : Nat) : Int) := rfl
theorem gcd_le' {n d : Nat} (h : 1 ≤ n) : Nat.gcd n d ≤ n := Nat.le_of_dvd (by omega) (Nat.gcd_dvd_left n d)
theorem info36 : (Try.prog.info? 36).map (·.size) = some 2 := by kernel_rfl
theorem cell2_res {W : World} {k : Nat} {a b : Value} (hr : Row W k 36 [a, b]) : (loadVar 36 ⟨k, 0, none⟩).run Try.prog W = .ok (.agg #[a, b]) W :=
  run_loadVar_row (P := Try.prog) W k 36 36 #[a, b] (0, 0) _ hr Try.underlying36 rfl info36
theorem fraction_any (n d : Nat) (w : World) (hn : 1 ≤ n) (hn2 : n ≤ 10000) (hd2 : d ≤ 10000) :
    Calls Try.prog 61 #[.int .i64 n, .int .i64 d] w fun e w' => e = .returned (frc n d) ∧ Below w.heap.size w w' := by
  have hG1 := gcd_pos (d := d) hn
  have hG2 := gcd_le' (d := d) hn
  have HG : Hid (Nat.gcd n d = Nat.gcd n d) := Lib.hid rfl
  have HF : Hid (frc n d = .agg #[.int .i64 (n / Nat.gcd n d : Nat), .int .i64 (d / Nat.gcd n d : Nat)]) := Lib.hid rfl
  obtain ⟨G, hG⟩ : ∃ G, Nat.gcd n d = G := ⟨_, rfl⟩
  rw [hG] at hG1 hG2 HF
  have HG0 : Hid (Nat.gcd n d = G) := Lib.hid hG
  clear hG HG
  have r0 : Row (w.alloc (.cells #[.int .i64 0, .int .i64 0] 36)) w.heap.size 36 [.int .i64 0, .int .i64 0] := row_new rfl
  have b0 : Below w.heap.size w (w.alloc (.cells #[.int .i64 0, .int .i64 0] 36)) := (Below.refl _ w).alloc (Nat.le_refl _) _
  go_enter Try.func61, Try.ntmps61
  go_wp2
  go_loopw [5, 6] (fun x y wr => ∃ a b : Nat, x = .int .i64 a ∧ y = .int .i64 b ∧ a ≤ 10000 ∧ b ≤ 10000 ∧ Row wr w.heap.size 36 [.int .i64 0, .int .i64 0] ∧ Below w.heap.size w wr ∧ Hid (Nat.gcd a b = G)) (fun _ y _ => (intOf y).toNat)
  case atStart => exact ⟨n, d, rfl, rfl, hn2, hd2, r0, b0, HG0⟩
  case round =>
    clear r0 b0 HG0
    obtain ⟨a, b, rfl, rfl, ha, hb, r0, b0, HG⟩ := hrel
    by_cases hb0 : b = 0
    · subst hb0
      have HA : Hid (a = G) := Lib.hid (by have := HG.out; rwa [Nat.gcd_zero_right] at this)
      have ha1 : 1 ≤ a := by have := HA.out; omega
      have ha0 : ¬ a = 0 := by omega
      have e1 := tdiv_nat n a
      have e2 := tdiv_nat d a
      have b1 := Nat.div_le_self n a
      have b2 := Nat.div_le_self d a
      obtain ⟨u, hu⟩ : ∃ u, n / a = u := ⟨_, rfl⟩
      obtain ⟨v, hv⟩ : ∃ v, d / a = v := ⟨_, rfl⟩
      rw [hu] at e1 b1
      rw [hv] at e2 b2
      have HU : Hid (frc n d = .agg #[.int .i64 u, .int .i64 v]) := Lib.hid (by rw [HF.out, ← HA.out, hu, hv])
      have hw1 : IntKind.i64.wrap (u : Int) = u := IntWalk.i64_in _ ⟨by omega, by omega⟩
      have hw2 : IntKind.i64.wrap (v : Int) = v := IntWalk.i64_in _ ⟨by omega, by omega⟩
      have f0 := r0.cells2
      clear hu hv HF HG HA
      go_wp2
      refine wp_region_quiet_tail 7 (by kernel_rfl) (by kernel_rfl) ?_
      simp only [List.take_succ_cons, List.take_zero, List.drop_succ_cons, List.drop_zero]
      repeat go_big_quiet_step ((fail))
      refine wpQuiet_nil ?_
      rintro _ ⟨nq, rfl⟩
      go_wp2
      exact bodyPost_ret (v := .agg #[.int .i64 u, .int .i64 v]) (res1 Try.results61 rfl (cell2_res (((r0.drewN nq).set 0 (.int .i64 u)).set 1 (.int .i64 v)))) rfl ⟨by rw [HU.out], ((b0.trans (below_drewN nq)).setCell (Nat.le_refl _) _).setCell (Nat.le_refl _) _⟩
    · have hb1 : 1 ≤ b := by omega
      have hlt := Nat.mod_lt a hb1
      have e1 : Int.tmod (a : Int) (b : Int) = ((a % b : Nat) : Int) := rfl
      have HG2 : Hid (Nat.gcd b (a % b) = G) := Lib.hid (by have := HG.out; rwa [Nat.gcd_comm, Nat.gcd_rec, Nat.gcd_comm] at this)
      have g1 : ((b : Int) != 0) = true := by simp; omega
      obtain ⟨m, hm⟩ : ∃ m, a % b = m := ⟨_, rfl⟩
      rw [hm] at e1 HG2 hlt
      have hw1 : IntKind.i64.wrap (m : Int) = m := IntWalk.i64_in _ ⟨by omega, by omega⟩
      clear hm HG HF
      go_wp2
      go_quiet (fail)
      go_wp2
      go_roundw
      case rel => exact ⟨b, m, rfl, rfl, hb, by omega, r0.drewN nq, b0.trans (below_drewN nq), HG2⟩
      case measure => simp [intOf]; omega
end Go.Proofs.Ytoklnpiehbnalaa
