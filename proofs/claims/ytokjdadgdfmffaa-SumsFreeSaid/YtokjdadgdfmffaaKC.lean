/- Elements added, subtracted; orders. -/
import Derived.Test.YtokjdadgdfmffaaKB
import Derived.Laws.StructEq
namespace Go.Proofs.Ytokjdadgdfmffaa
open Go.RowKit
set_option maxHeartbeats 1000000
set_option maxRecDepth 100000
theorem eq69 (a b a' b' : Int) (w : World) : (Op.equalIn 10000 69 (pv a b) (pv a' b')).run Try.prog w = .ok (decide (a = a' ∧ b = b')) w := by
  have u3 := Try.underlying3
  have a3 := Try.isAgg3
  have z3 := Try.sizeOf3
  rw [show (10000 : Nat) = 9999 + 1 from rfl, Op.equalIn]
  simp only [Sem.run_bind, run_underlying Try.underlying69, Result.andThen_ok]
  simp only [Std.Legacy.Range.forIn_eq_forIn_range', Std.Legacy.Range.size, Nat.sub_zero, Nat.add_sub_cancel, Nat.div_one, List.range'_succ, List.range'_zero, List.forIn_cons, List.forIn_nil]
  go_simp
  by_cases h1 : a = a' <;> by_cases h2 : b = b' <;> simp [h1, h2]
theorem eq69_yes {a b a' b' : Int} (h : a = a' ∧ b = b') : ∀ w, (Op.equalIn 10000 69 (pv a b) (pv a' b')).run Try.prog w = .ok true w := fun w => by rw [eq69, decide_eq_true h]
theorem eq69_no {a b a' b' : Int} (h : ¬ (a = a' ∧ b = b')) : ∀ w, (Op.equalIn 10000 69 (pv a b) (pv a' b')).run Try.prog w = .ok false w := fun w => by rw [eq69, decide_eq_false h]
/-- Is it a group? -/
def Gr (m n : Nat) : Prop := 1 ≤ m ∧ m ≤ 24 ∧ 1 ≤ n ∧ n ≤ 24
/-- Is it an element? -/
def El (m n : Nat) (a b : Int) : Prop := 0 ≤ a ∧ a < m ∧ 0 ≤ b ∧ b < n
theorem el_mod {m n : Nat} (h : Gr m n) (a b : Int) : El m n (a % m) (b % n) := by
  obtain ⟨h1, h2, h3, h4⟩ := h
  exact ⟨Int.emod_nonneg _ (by omega), Int.emod_lt_of_pos _ (by omega), Int.emod_nonneg _ (by omega), Int.emod_lt_of_pos _ (by omega)⟩
theorem plus_any (m n : Nat) (a b c d : Int) (w : World) (hg : Gr m n) (h1 : El m n a b) (h2 : El m n c d) :
    Calls Try.prog 72 #[pv m n, pv a b, pv c d] w fun e w' => e = .returned (pv ((a + c) % m) ((b + d) % n)) ∧ Below w.heap.size w w' := by
  obtain ⟨g1, g2, g3, g4⟩ := hg
  obtain ⟨a1, a2, a3, a4⟩ := h1
  obtain ⟨c1, c2, c3, c4⟩ := h2
  have r0 : Row ((((w.alloc (.cells #[.int .i64 m, .int .i64 n] 63)).alloc (.cells #[.int .i64 a, .int .i64 b] 69)).alloc (.cells #[.int .i64 c, .int .i64 d] 69)).alloc (.cells #[.int .i64 0, .int .i64 0] 69)) (w.heap.size + 1 + 1 + 1) 69 [.int .i64 0, .int .i64 0] := row_new (by simp)
  have b0 : Below w.heap.size w ((((w.alloc (.cells #[.int .i64 m, .int .i64 n] 63)).alloc (.cells #[.int .i64 a, .int .i64 b] 69)).alloc (.cells #[.int .i64 c, .int .i64 d] 69)).alloc (.cells #[.int .i64 0, .int .i64 0] 69)) := by (repeat (first | exact Below.refl _ _ | assumption | (refine Below.setCell ?_ (by first | exact Nat.le_refl _ | omega | (simp; done) | (simp; omega)) _) | (refine Below.trans ?_ (below_drewN _)) | (refine Below.drew ?_) | (refine Below.alloc ?_ (by first | exact Nat.le_refl _ | omega | (simp; done) | (simp; omega)) _) | (refine below_row ?_ (by first | exact Nat.le_refl _ | omega | (simp; done) | (simp; omega)) _)))
  go_enter Try.func72, Try.ntmps72
  go_wp2_with (go_at_call 59; refine (red_any m n (a + c) (b + d) _ ⟨g1, by omega⟩ ⟨g3, by omega⟩).mono ?_; rintro e w1 ⟨rfl, hb⟩; have q := r0.below hb; have hb2 := b0.trans (hb.mono (by simp; omega)); obtain ⟨⟨q1, q2⟩, q3, q4⟩ := q.cells2)
  exact ret_pv Try.results72 rfl ((q.set 0 (.int .i64 ((a + c) % m))).set 1 (.int .i64 ((b + d) % n))) rfl ⟨rfl, (hb2.setCell (p := ⟨w.heap.size + 1 + 1 + 1, 0, none⟩) (by dsimp only; omega) _).setCell (p := ⟨w.heap.size + 1 + 1 + 1, 1, none⟩) (by dsimp only; omega) _⟩
theorem minus_any (m n : Nat) (a b c d : Int) (w : World) (hg : Gr m n) (h1 : El m n a b) (h2 : El m n c d) :
    Calls Try.prog 66 #[pv m n, pv a b, pv c d] w fun e w' => e = .returned (pv ((a - c) % m) ((b - d) % n)) ∧ Below w.heap.size w w' := by
  obtain ⟨g1, g2, g3, g4⟩ := hg
  obtain ⟨a1, a2, a3, a4⟩ := h1
  obtain ⟨c1, c2, c3, c4⟩ := h2
  have r0 : Row ((((w.alloc (.cells #[.int .i64 m, .int .i64 n] 63)).alloc (.cells #[.int .i64 a, .int .i64 b] 69)).alloc (.cells #[.int .i64 c, .int .i64 d] 69)).alloc (.cells #[.int .i64 0, .int .i64 0] 69)) (w.heap.size + 1 + 1 + 1) 69 [.int .i64 0, .int .i64 0] := row_new (by simp)
  have b0 : Below w.heap.size w ((((w.alloc (.cells #[.int .i64 m, .int .i64 n] 63)).alloc (.cells #[.int .i64 a, .int .i64 b] 69)).alloc (.cells #[.int .i64 c, .int .i64 d] 69)).alloc (.cells #[.int .i64 0, .int .i64 0] 69)) := by (repeat (first | exact Below.refl _ _ | assumption | (refine Below.setCell ?_ (by first | exact Nat.le_refl _ | omega | (simp; done) | (simp; omega)) _) | (refine Below.trans ?_ (below_drewN _)) | (refine Below.drew ?_) | (refine Below.alloc ?_ (by first | exact Nat.le_refl _ | omega | (simp; done) | (simp; omega)) _) | (refine below_row ?_ (by first | exact Nat.le_refl _ | omega | (simp; done) | (simp; omega)) _)))
  go_enter Try.func66, Try.ntmps66
  go_wp2_with (go_at_call 59; refine (red_any m n (a - c) (b - d) _ ⟨g1, by omega⟩ ⟨g3, by omega⟩).mono ?_; rintro e w1 ⟨rfl, hb⟩; have q := r0.below hb; have hb2 := b0.trans (hb.mono (by simp; omega)); obtain ⟨⟨q1, q2⟩, q3, q4⟩ := q.cells2)
  exact ret_pv Try.results66 rfl ((q.set 0 (.int .i64 ((a - c) % m))).set 1 (.int .i64 ((b - d) % n))) rfl ⟨rfl, (hb2.setCell (p := ⟨w.heap.size + 1 + 1 + 1, 0, none⟩) (by dsimp only; omega) _).setCell (p := ⟨w.heap.size + 1 + 1 + 1, 1, none⟩) (by dsimp only; omega) _⟩
theorem hidden_any (m n : Nat) (w : World) : Calls Try.prog 68 #[pv m n] w fun e w' => e = .returned (.int .i64 (if m = 1 then 1 else 0)) ∧ Below w.heap.size w w' := by
  by_cases h : m = 1
  · subst h
    go_enter Try.func68, Try.ntmps68
    go_wp2
    go_ret
    exact ⟨rfl, by (repeat (first | exact Below.refl _ _ | assumption | (refine Below.setCell ?_ (by first | exact Nat.le_refl _ | omega | (simp; done) | (simp; omega)) _) | (refine Below.trans ?_ (below_drewN _)) | (refine Below.drew ?_) | (refine Below.alloc ?_ (by first | exact Nat.le_refl _ | omega | (simp; done) | (simp; omega)) _) | (refine below_row ?_ (by first | exact Nat.le_refl _ | omega | (simp; done) | (simp; omega)) _)))⟩
  · have hb : ((m : Int) == 1) = false := by simp; omega
    go_enter Try.func68, Try.ntmps68
    go_wp2
    go_ret
    exact ⟨by first | rfl | (rw [if_neg h]; rfl), by (repeat (first | exact Below.refl _ _ | assumption | (refine Below.setCell ?_ (by first | exact Nat.le_refl _ | omega | (simp; done) | (simp; omega)) _) | (refine Below.trans ?_ (below_drewN _)) | (refine Below.drew ?_) | (refine Below.alloc ?_ (by first | exact Nat.le_refl _ | omega | (simp; done) | (simp; omega)) _) | (refine below_row ?_ (by first | exact Nat.le_refl _ | omega | (simp; done) | (simp; omega)) _)))⟩
theorem bound_any (m n : Nat) (w : World) (hg : Gr m n) : Calls Try.prog 54 #[pv m n] w fun e w' => e = .returned (.int .i64 ((m : Int) + n - 1)) ∧ Below w.heap.size w w' := by
  obtain ⟨g1, g2, g3, g4⟩ := hg
  go_enter Try.func54, Try.ntmps54
  go_wp2
  go_ret
  exact ⟨rfl, by (repeat (first | exact Below.refl _ _ | assumption | (refine Below.setCell ?_ (by first | exact Nat.le_refl _ | omega | (simp; done) | (simp; omega)) _) | (refine Below.trans ?_ (below_drewN _)) | (refine Below.drew ?_) | (refine Below.alloc ?_ (by first | exact Nat.le_refl _ | omega | (simp; done) | (simp; omega)) _) | (refine below_row ?_ (by first | exact Nat.le_refl _ | omega | (simp; done) | (simp; omega)) _)))⟩
/-- So many times an element is zero. -/
def zt (m n : Nat) (a b : Int) (k : Nat) : Prop := (k * a) % m = 0 ∧ (k * b) % n = 0
instance (m n : Nat) (a b : Int) (k : Nat) : Decidable (zt m n a b k) := by unfold zt; infer_instance
/-- The order of an element: from k on, for so many steps. -/
def ordF (m n : Nat) (a b : Int) : Nat → Nat → Nat
  | 0, k => k
  | f + 1, k => if zt m n a b k then k else ordF m n a b f (k + 1)
def ordV (m n : Nat) (a b : Int) : Nat := ordF m n a b (m * n) 1
theorem zt_all (m n : Nat) (a b : Int) : zt m n a b (m * n) := by
  constructor
  · exact Int.emod_eq_zero_of_dvd ⟨n * a, by rw [Int.natCast_mul, Int.mul_assoc]⟩
  · exact Int.emod_eq_zero_of_dvd ⟨m * b, by rw [Int.natCast_mul]; simp only [Int.mul_comm, Int.mul_assoc]⟩
theorem ordF_at {m n : Nat} {a b : Int} : ∀ {f k j : Nat}, (∀ i, k ≤ i → i < j → ¬ zt m n a b i) → zt m n a b j → k ≤ j → j ≤ k + f → ordF m n a b f k = j
  | 0, k, j, _, _, h1, h2 => by simp only [ordF]; omega
  | f + 1, k, j, hn, hz, h1, h2 => by
    unfold ordF
    by_cases e : k = j
    · subst e; rw [if_pos hz]
    · rw [if_neg (hn k (Nat.le_refl _) (by omega))]
      exact ordF_at (fun i hi hj => hn i (by omega) hj) hz (by omega) (by omega)
theorem ordV_at {m n j : Nat} {a b : Int} (hn : ∀ i, 1 ≤ i → i < j → ¬ zt m n a b i) (hz : zt m n a b j) (h1 : 1 ≤ j) (h2 : j ≤ m * n) : ordV m n a b = j := ordF_at hn hz h1 (by omega)
theorem order_any (m n : Nat) (a b : Int) (w : World) (hg : Gr m n) (h1 : El m n a b) : Calls Try.prog 58 #[pv m n, pv a b] w fun e w' => e = .returned (.int .i64 (ordV m n a b)) ∧ Below w.heap.size w w' := by
  have hel := h1
  have ⟨g1, g2, g3, g4⟩ := hg
  obtain ⟨a1, a2, a3, a4⟩ := h1
  have hz := @eq69
  have hmn : m * n ≤ 24 * 24 := Nat.mul_le_mul g2 g4
  have e1 : (a % m) = a := Int.emod_eq_of_lt a1 a2
  have e2 : (b % n) = b := Int.emod_eq_of_lt a3 a4
  have r0 : Row (((w.alloc (.cells #[.int .i64 m, .int .i64 n] 63)).alloc (.cells #[.int .i64 a, .int .i64 b] 69)).alloc (.cells #[.int .i64 a, .int .i64 b] 69)) (w.heap.size + 1 + 1) 69 [.int .i64 ((1 : Nat) * a % m), .int .i64 ((1 : Nat) * b % n)] := by
    rw [show ((1 : Nat) : Int) = 1 from rfl, Int.one_mul, Int.one_mul, e1, e2]; exact row_new (by simp)
  have r1 : Row (((w.alloc (.cells #[.int .i64 m, .int .i64 n] 63)).alloc (.cells #[.int .i64 a, .int .i64 b] 69)).alloc (.cells #[.int .i64 a, .int .i64 b] 69)) w.heap.size 63 [.int .i64 m, .int .i64 n] := ((row_new rfl).alloc _).alloc _
  have r2 : Row (((w.alloc (.cells #[.int .i64 m, .int .i64 n] 63)).alloc (.cells #[.int .i64 a, .int .i64 b] 69)).alloc (.cells #[.int .i64 a, .int .i64 b] 69)) (w.heap.size + 1) 69 [.int .i64 a, .int .i64 b] := (row_new (by simp)).alloc _
  have b0 : Below w.heap.size w (((w.alloc (.cells #[.int .i64 m, .int .i64 n] 63)).alloc (.cells #[.int .i64 a, .int .i64 b] 69)).alloc (.cells #[.int .i64 a, .int .i64 b] 69)) := by (repeat (first | exact Below.refl _ _ | assumption | (refine Below.setCell ?_ (by first | exact Nat.le_refl _ | omega | (simp; done) | (simp; omega)) _) | (refine Below.trans ?_ (below_drewN _)) | (refine Below.drew ?_) | (refine Below.alloc ?_ (by first | exact Nat.le_refl _ | omega | (simp; done) | (simp; omega)) _) | (refine below_row ?_ (by first | exact Nat.le_refl _ | omega | (simp; done) | (simp; omega)) _)))
  clear e1 e2
  have hmn1 : 1 ≤ m * n := Nat.mul_pos g1 g3
  have H0 : ∀ i, 1 ≤ i → i < 1 → ¬ zt m n a b i := fun i h1 h2 => by omega
  have HS := Lib.hid H0
  clear H0 hz
  go_enter Try.func58, Try.ntmps58
  go_wp2
  go_loopw [5, 6] (fun t s wr => ∃ (k g : Nat), 1 ≤ k ∧ k ≤ m * n ∧ Hid (∀ i, 1 ≤ i → i < k → ¬ zt m n a b i) ∧ t = .int .i64 k ∧ s = .pointer (some ⟨g, 0, none⟩) ∧ Row wr g 69 [.int .i64 (k * a % m), .int .i64 (k * b % n)] ∧ Row wr w.heap.size 63 [.int .i64 m, .int .i64 n] ∧ Row wr (w.heap.size + 1) 69 [.int .i64 a, .int .i64 b] ∧ Below w.heap.size w wr) (fun t _ _ => m * n - (intOf t).toNat)
  case atStart => exact ⟨1, _, by omega, hmn1, HS, rfl, rfl, r0, r1, r2, b0⟩
  case round =>
    clear r0 r1 r2 b0 HS
    obtain ⟨k, g, hk, hk2, HS, rfl, rfl, r0, r1, r2, b0⟩ := hrel
    obtain ⟨⟨c0, c1⟩, -, -⟩ := r0.cells2
    obtain ⟨⟨c2, c3⟩, -, -⟩ := r1.cells2
    obtain ⟨⟨c4, c5⟩, -, -⟩ := r2.cells2
    by_cases h : zt m n a b k
    · have HV := Lib.hid (ordV_at HS.out h hk hk2)
      have hq := eq69_yes (a := k * a % m) (b := k * b % n) (a' := 0) (b' := 0) h
      clear h
      generalize (k : Int) * a % m = x at *
      generalize (k : Int) * b % n = y at *
      go_wp2
      go_ret
      exact ⟨by rw [HV.out]; rfl, b0⟩
    · have hq := eq69_no (a := k * a % m) (b := k * b % n) (a' := 0) (b' := 0) h
      have hkl : k < m * n := by
        rcases Nat.lt_or_ge k (m * n) with h3 | h3
        · exact h3
        · obtain rfl : k = m * n := by omega
          exact absurd (zt_all m n a b) h
      have HN := Lib.hid h
      clear h
      have hel2 := el_mod hg (k * a) (k * b)
      have X1 := Lib.hid (show (k * a % m + a) % m = ((k + 1 : Nat) : Int) * a % m by rw [Int.emod_add_emod, Int.natCast_add, Int.add_mul, Int.natCast_one, Int.one_mul])
      have X2 := Lib.hid (show (k * b % n + b) % n = ((k + 1 : Nat) : Int) * b % n by rw [Int.emod_add_emod, Int.natCast_add, Int.add_mul, Int.natCast_one, Int.one_mul])
      generalize (k : Int) * a % m = x at *
      generalize (k : Int) * b % n = y at *
      have hbs := b0.size
      have q0 : Row (wr.alloc (.cells #[.int .i64 x, .int .i64 y] 69)) wr.heap.size 69 [.int .i64 x, .int .i64 y] := row_new rfl
      have q1 := r1.alloc (.cells #[.int .i64 x, .int .i64 y] 69)
      have q2 := r2.alloc (.cells #[.int .i64 x, .int .i64 y] 69)
      have qb := b0.alloc hbs (.cells #[.int .i64 x, .int .i64 y] 69)
      have hl := r2.lt
      obtain ⟨⟨y0, y1⟩, -, -⟩ := q0.cells2
      obtain ⟨⟨y2, y3⟩, -, -⟩ := q1.cells2
      obtain ⟨⟨y4, y5⟩, -, -⟩ := q2.cells2
      go_wp2_with (go_at_call 72; refine (plus_any m n x y a b _ hg hel2 hel).mono ?_; rintro e w1 ⟨rfl, hb⟩; have p0 := q0.below hb; have p1 := q1.below hb; have p2 := q2.below hb; have pb := qb.trans (hb.mono qb.size); obtain ⟨⟨z1, z2⟩, z3, z4⟩ := p0.cells2)
      go_roundw
      case rel =>
        refine ⟨k + 1, _, by omega, by omega, Lib.hid fun i hi hi2 => ?_, by go_num, rfl, ?_, (p1.far (by dsimp only; omega) _).far (by dsimp only; omega) _, (p2.far (by dsimp only; omega) _).far (by dsimp only; omega) _, (pb.setCell (by dsimp only; omega) _).setCell (by dsimp only; omega) _⟩
        · by_cases e : i = k
          · subst e; exact HN.out
          · exact HS.out i hi (by omega)
        · rw [← X1.out, ← X2.out]
          exact (p0.set 0 _).set 1 _
      case measure => simp [intOf]; omega
end Go.Proofs.Ytokjdadgdfmffaa
