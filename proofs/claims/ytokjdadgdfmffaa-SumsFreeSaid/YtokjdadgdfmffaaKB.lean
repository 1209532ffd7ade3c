/- Elements of a group: reduced, added, subtracted. -/
import Derived.Test.YtokjdadgdfmffaaKA
namespace Go.Proofs.Ytokjdadgdfmffaa
open Go.RowKit
set_option maxHeartbeats 1000000
set_option maxRecDepth 100000
/-- Two numbers as an array. -/
abbrev pv (a b : Int) : Value := .agg #[.int .i64 a, .int .i64 b]
theorem tmod_fix (a : Int) (m : Nat) (hm : 0 < m) : (a.tmod m + m).tmod m = a % m := by
  have h1 : a.tmod m = if 0 ≤ a then a % m else -((-a) % m) := by
    split
    · rw [Int.tmod_eq_emod_of_nonneg (by assumption)]
    · have h := Int.neg_tmod a m
      rw [Int.tmod_eq_emod_of_nonneg (by omega)] at h
      omega
  have hm' : (0 : Int) < m := by omega
  have h2 := Int.emod_nonneg a (b := m) (by omega)
  have h3 := Int.emod_lt_of_pos a hm'
  have h4 := Int.emod_nonneg (-a) (b := m) (by omega)
  have h5 := Int.emod_lt_of_pos (-a) hm'
  rw [h1]
  split
  · rw [Int.tmod_eq_emod_of_nonneg (by omega), Int.add_emod_right, Int.emod_emod_of_dvd _ (Int.dvd_refl _)]
  · rw [Int.tmod_eq_emod_of_nonneg (by omega), Int.add_emod_right]
    have e : a = -(-a) := by omega
    conv => rhs; rw [e]
    rw [Int.neg_emod_eq_sub_emod (a := -a), Int.neg_emod_eq_sub_emod (a := (-a) % m), Int.sub_emod (m:Int) ((-a) % m), Int.emod_emod_of_dvd _ (Int.dvd_refl _), ← Int.sub_emod]
theorem tmod_fix2 (a : Int) (m : Nat) (hm : 0 < m) : a.tmod m % m = a % m := by
  have h := tmod_fix a m hm
  have hb : -(m:Int) < a.tmod m := by
    rcases Int.lt_or_le a 0 with h0 | h0
    · have h1 := Int.neg_tmod a m
      rw [Int.tmod_eq_emod_of_nonneg (by omega)] at h1
      have h5 := Int.emod_lt_of_pos (-a) (b := m) (by omega)
      omega
    · rw [Int.tmod_eq_emod_of_nonneg h0]
      have h2 := Int.emod_nonneg a (b := m) (by omega)
      omega
  rw [Int.tmod_eq_emod_of_nonneg (by omega), Int.add_emod_right] at h
  exact h
theorem tmod_bd (a : Int) (m : Nat) (hm : 0 < m) : -m < a.tmod m ∧ a.tmod m < m := by
  have hm' : (0 : Int) < m := by omega
  have h1 : a.tmod m = if 0 ≤ a then a % m else -((-a) % m) := by
    split
    · rw [Int.tmod_eq_emod_of_nonneg (by assumption)]
    · have h := Int.neg_tmod a m
      rw [Int.tmod_eq_emod_of_nonneg (by omega)] at h
      omega
  have h2 := Int.emod_nonneg a (b := m) (by omega)
  have h3 := Int.emod_lt_of_pos a hm'
  have h4 := Int.emod_nonneg (-a) (b := m) (by omega)
  have h5 := Int.emod_lt_of_pos (-a) hm'
  rw [h1]
  split <;> omega
theorem res1 {P : Program} {F : Func} {tm : Array Value} {i k : Nat} {t : TypeId} {v : Value} {W : World} (hF : F.results = #[ResultVar.cell i t]) (h0 : tm.getD i undef = .pointer (some ⟨k, 0, none⟩))
    (hl : (loadVar t ⟨k, 0, none⟩).run P W = .ok v W) : (results F tm).run P W = .ok v W := by
  have h0' : tm[i]?.getD undef = .pointer (some ⟨k, 0, none⟩) := by simpa using h0
  simp [results, hF, h0', asAddr, hl]
theorem res2 {P : Program} {F : Func} {tm : Array Value} {i j k : Nat} {t : TypeId} {v u : Value} {W : World} (hF : F.results = #[ResultVar.cell i t, ResultVar.tmp j]) (h0 : tm.getD i undef = .pointer (some ⟨k, 0, none⟩)) (h1 : tm.getD j undef = u)
    (hl : (loadVar t ⟨k, 0, none⟩).run P W = .ok v W) : (results F tm).run P W = .ok (.tuple #[v, u]) W := by
  have h0' : tm[i]?.getD undef = .pointer (some ⟨k, 0, none⟩) := by simpa using h0
  have h1' : tm[j]?.getD undef = u := by simpa using h1
  simp [results, hF, h0', h1', asAddr, hl]
theorem info69 : (Try.prog.info? 69).map (·.size) = some 2 := by kernel_rfl
theorem info63 : (Try.prog.info? 63).map (·.size) = some 2 := by kernel_rfl
theorem ret_pv {F : Func} {a : Act} {W : World} {k : Nat} {x y : Int} {i : Nat} {R : Ending → World → Prop} (hF : F.results = #[ResultVar.cell i 69]) (h0 : a.tmps.getD i undef = .pointer (some ⟨k, 0, none⟩)) (h : Row W k 69 [.int .i64 x, .int .i64 y]) (hd : a.defers = [])
    (hR : R (.returned (pv x y)) W) : bodyPost Try.prog F R .ret a W :=
  bodyPost_ret (v := pv x y) (res1 hF h0 (run_loadVar_row (P := Try.prog) W k 69 69 #[.int .i64 x, .int .i64 y] (0, 0) _ (row_heap h) Try.underlying69 rfl info69)) hd hR
theorem red_any (m n : Nat) (a b : Int) (w : World) (hm : 1 ≤ m ∧ m ≤ 1000) (hn : 1 ≤ n ∧ n ≤ 1000) :
    Calls Try.prog 59 #[pv m n, pv a b] w fun e w' => e = .returned (pv (a % m) (b % n)) ∧ Below w.heap.size w w' := by
  obtain ⟨a1, a2⟩ := tmod_bd a m (by omega)
  obtain ⟨b1, b2⟩ := tmod_bd b n (by omega)
  have A := Lib.hid (tmod_fix2 a m (by omega))
  have B := Lib.hid (tmod_fix2 b n (by omega))
  have r0 : Row (((w.alloc (.cells #[.int .i64 m, .int .i64 n] 63)).alloc (.cells #[.int .i64 a, .int .i64 b] 69)).alloc (.cells #[.int .i64 0, .int .i64 0] 69)) (w.heap.size + 1) 69 [.int .i64 a, .int .i64 b] := (row_new (by simp)).alloc _
  have r1 : Row (((w.alloc (.cells #[.int .i64 m, .int .i64 n] 63)).alloc (.cells #[.int .i64 a, .int .i64 b] 69)).alloc (.cells #[.int .i64 0, .int .i64 0] 69)) (w.heap.size + 1 + 1) 69 [.int .i64 0, .int .i64 0] := row_new (by simp)
  have b0 : Below w.heap.size w (((w.alloc (.cells #[.int .i64 m, .int .i64 n] 63)).alloc (.cells #[.int .i64 a, .int .i64 b] 69)).alloc (.cells #[.int .i64 0, .int .i64 0] 69)) := by (repeat (first | exact Below.refl _ _ | assumption | (refine Below.setCell ?_ (by first | exact Nat.le_refl _ | omega | (simp; done) | (simp; omega)) _) | (refine Below.trans ?_ (below_drewN _)) | (refine Below.drew ?_) | (refine Below.alloc ?_ (by first | exact Nat.le_refl _ | omega | (simp; done) | (simp; omega)) _) | (refine below_row ?_ (by first | exact Nat.le_refl _ | omega | (simp; done) | (simp; omega)) _)))
  have x0 : ∀ W, (Instr.index 63 (.agg #[.int .i64 m, .int .i64 n]) (.int .i64 0)).run Try.prog W = .ok (.int .i64 m) W := fun W => rfl
  have x1 : ∀ W, (Instr.index 63 (.agg #[.int .i64 m, .int .i64 n]) (.int .i64 1)).run Try.prog W = .ok (.int .i64 n) W := fun W => rfl
  go_enter Try.func59, Try.ntmps59
  go_wp2
  go_loopw [8] (fun i wr => ((i = .int .i64 0 ∧ Row wr (w.heap.size + 1) 69 [.int .i64 a, .int .i64 b]) ∨ (i = .int .i64 1 ∧ Row wr (w.heap.size + 1) 69 [.int .i64 (a % m), .int .i64 b]) ∨ (i = .int .i64 2 ∧ Row wr (w.heap.size + 1) 69 [.int .i64 (a % m), .int .i64 (b % n)])) ∧ Row wr (w.heap.size + 1 + 1) 69 [.int .i64 0, .int .i64 0] ∧ Below w.heap.size w wr) (fun i _ => 2 - (intOf i).toNat)
  case atStart => exact ⟨.inl ⟨rfl, r0⟩, r1, b0⟩
  case round =>
    clear r0 r1 b0
    obtain ⟨⟨rfl, r0⟩ | ⟨rfl, r0⟩ | ⟨rfl, r0⟩, r1, b0⟩ := hrel
    · obtain ⟨⟨c0, c1⟩, f0, f1⟩ := r0.cells2
      go_wp2
      go_roundw
      case rel =>
        refine ⟨.inr (.inl ⟨rfl, ?_⟩), r1.far (by dsimp only; omega) _, b0.setCell (by dsimp only; omega) _⟩
        have h := r0.set 0 (.int .i64 (a.tmod m % m))
        rw [A.out] at h ⊢
        exact h
      case measure => simp [intOf]
    · obtain ⟨⟨c0, c1⟩, f0, f1⟩ := r0.cells2
      go_wp2
      go_roundw
      case rel =>
        refine ⟨.inr (.inr ⟨rfl, ?_⟩), r1.far (by dsimp only; omega) _, b0.setCell (by dsimp only; omega) _⟩
        have h := r0.set 1 (.int .i64 (b.tmod n % n))
        rw [B.out] at h ⊢
        exact h
      case measure => simp [intOf]
    · obtain ⟨⟨c0, c1⟩, f0, f1⟩ := r0.cells2
      obtain ⟨⟨c2, c3⟩, f2, f3⟩ := r1.cells2
      have r2 := (r1.set 0 (.int .i64 (a % m))).set 1 (.int .i64 (b % n))
      have b2 := (b0.setCell (p := ⟨w.heap.size + 1 + 1, 0, none⟩) (by dsimp only; omega) (.int .i64 (a % m))).setCell (p := ⟨w.heap.size + 1 + 1, 1, none⟩) (by dsimp only; omega) (.int .i64 (b % n))
      go_wp2
      exact ret_pv Try.results59 rfl r2 rfl ⟨rfl, b2⟩
end Go.Proofs.Ytokjdadgdfmffaa
