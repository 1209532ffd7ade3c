/- The table at a place; the order at a place. -/
import Derived.Test.YtheblebfeinjjaaOE
import Derived.Test.YtheblebfeinjjaaOB
namespace Go.Proofs.Ytheblebfeinjjaa
open Go.RowKit
set_option maxHeartbeats 1000000
set_option maxRecDepth 100000
/-- What is left of k after so many places, and the numbers at the places behind. -/
def dgQ (k : Nat) : Nat → Nat
  | 0 => k
  | a + 1 => dgQ k a / (a + 1)
def dgL (k : Nat) : Nat → List Int
  | 0 => []
  | a + 1 => ((dgQ k a % (a + 1) : Nat) : Int) :: dgL k a
theorem dgL_len (k : Nat) : ∀ a, (dgL k a).length = a
  | 0 => rfl
  | a + 1 => by unfold dgL; rw [List.length_cons, dgL_len k a]
theorem dgQ_le (k : Nat) : ∀ a, dgQ k a ≤ k
  | 0 => Nat.le_refl _
  | a + 1 => Nat.le_trans (Nat.div_le_self _ _) (dgQ_le k a)
theorem dgL_ok (k : Nat) : ∀ a, okT (dgL k a) = true
  | 0 => rfl
  | a + 1 => by
    have h := Nat.mod_lt (dgQ k a) (show 0 < a + 1 by omega)
    unfold dgL okT
    rw [dgL_ok k a, dgL_len, Bool.and_true, Bool.and_eq_true]
    exact ⟨decide_eq_true (by omega), decide_eq_true (by omega)⟩
theorem dg_set {n k a : Nat} (h : a < n) : (List.replicate (n - a) (0 : Int) ++ dgL k a).set (n - 1 - a) ((dgQ k a % (a + 1) : Nat) : Int) = List.replicate (n - (a + 1)) 0 ++ dgL k (a + 1) := by
  have e : n - a = (n - 1 - a) + 1 := by omega
  rw [e, List.replicate_succ', List.append_assoc, List.set_append_right _ _ (by simp), List.length_replicate, Nat.sub_self, List.singleton_append, List.set_cons_zero, show n - (a + 1) = n - 1 - a by omega]
  rfl
theorem tableAt_any (n k : Nat) (w : World) (hn : n ≤ 12) (hk : k ≤ 9223372036854775807) :
    Calls Try.prog 68 #[.int .i64 n, .int .i64 k] w fun e w' => e = .returned (.tuple #[.slice (some ⟨w.heap.size, 0, none⟩) n n, .bool (decide (dgQ k n = 0))]) ∧ IntsAt w' (some ⟨w.heap.size, 0, none⟩) (dgL k n) ∧ Below w.heap.size w w' := by
  have hmk := make_ints n (by omega) w
  have r0 : Row (w.alloc (.cells (iv (List.replicate n 0)).toArray 3)) w.heap.size 3 (iv (List.replicate (n - 0) 0 ++ dgL k 0)) := by
    rw [show List.replicate (n - 0) 0 ++ dgL k 0 = List.replicate n (0 : Int) by simp [dgL]]; exact row_new rfl
  have b0 : Below w.heap.size w (w.alloc (.cells (iv (List.replicate n 0)).toArray 3)) := by (repeat (first | exact Below.refl _ _ | assumption | (refine Below.setCell ?_ (by first | exact Nat.le_refl _ | omega | (simp; done) | (simp; omega)) _) | (refine Below.trans ?_ (below_drewN _)) | (refine Below.drew ?_) | (refine Below.alloc ?_ (by first | exact Nat.le_refl _ | omega | (simp; done) | (simp; omega)) _) | (refine below_row ?_ (by first | exact Nat.le_refl _ | omega | (simp; done) | (simp; omega)) _)))
  go_enter Try.func68, Try.ntmps68
  go_wp2
  clear hmk
  go_loopw [1, 11] (fun q i wr => ∃ a : Nat, a ≤ n ∧ i = .int .i64 a ∧ q = .int .i64 (dgQ k a : Nat) ∧ Row wr w.heap.size 3 (iv (List.replicate (n - a) 0 ++ dgL k a)) ∧ Below w.heap.size w wr) (fun _ i _ => n - (intOf i).toNat)
  case atStart => exact ⟨0, by omega, rfl, rfl, r0, b0⟩
  case round =>
    clear r0 b0
    obtain ⟨a, ha, rfl, rfl, r0, b0⟩ := hrel
    have hq := dgQ_le k a
    by_cases hlt : a < n
    · have HS := Lib.hid (dg_set (k := k) hlt)
      have HQ := Lib.hid (show dgQ k (a + 1) = dgQ k a / (a + 1) from rfl)
      have hll : (List.replicate (n - a) (0 : Int) ++ dgL k a).length = n := by rw [List.length_append, List.length_replicate, dgL_len]; omega
      have hc := ivR r0 (i := n - 1 - a) (by omega)
      have hf := r0.free (n - 1 - a)
      generalize geti (List.replicate (n - a) 0 ++ dgL k a) (n - 1 - a) = u at *
      have hm : ((dgQ k a : Nat) : Int).tmod ((a : Int) + 1) = ((dgQ k a % (a + 1) : Nat) : Int) := rfl
      have hd : ((dgQ k a : Nat) : Int).tdiv ((a : Int) + 1) = ((dgQ k a / (a + 1) : Nat) : Int) := rfl
      have hdl : dgQ k a / (a + 1) ≤ dgQ k a := Nat.div_le_self _ _
      have hml : dgQ k a % (a + 1) ≤ dgQ k a := Nat.mod_le _ _
      clear hll
      generalize dgQ k a / (a + 1) = q2 at *
      generalize dgQ k a % (a + 1) = m2 at *
      generalize dgQ k a = q at *
      go_wp2
      go_roundw
      case rel => exact ⟨a + 1, by omega, by go_num, by rw [HQ.out], by rw [← HS.out, ← iv_set]; exact r0.set _ _, b0.setCell (by dsimp only; omega) _⟩
      case measure => simp [intOf]; omega
    · obtain rfl : a = n := by omega
      have hla := dgL_len k a
      rw [Nat.sub_self, List.replicate_zero, List.nil_append] at r0
      have HI : Hid (IntsAt wr (some ⟨w.heap.size, 0, none⟩) (dgL k a)) := Lib.hid (fun _ => ⟨w.heap.size, 0, rfl, r0.lt, fun i hi => by rw [Nat.zero_add]; exact ivR r0 hi⟩)
      clear hla
      have hb : (((dgQ k a : Nat) : Int) == 0) = decide (dgQ k a = 0) := by
        by_cases h : dgQ k a = 0
        · rw [h]; rfl
        · rw [decide_eq_false h]; simp; exact h
      go_wp2
      go_ret2
      exact ⟨rfl, HI.out, b0⟩
theorem Item_bad (n k : Int) (w : World) (h : n < 0 ∨ 12 < n ∨ k < 0) : Calls Try.prog 40 #[.int .i64 n, .int .i64 k] w fun e w' => e = .returned (.tuple #[.slice none 0 0, .int .i64 2]) ∧ Below w.heap.size w w' := by
  by_cases h1 : n < 0
  · have g1 : decide (n < 0) = true := decide_eq_true h1
    go_enter Try.func40, Try.ntmps40
    go_wp2
    go_ret2
    exact ⟨rfl, Below.refl _ _⟩
  · have g1 : decide (n < 0) = false := decide_eq_false h1
    by_cases h2 : 12 < n
    · have g2 : decide (12 < n) = true := decide_eq_true h2
      go_enter Try.func40, Try.ntmps40
      go_wp2
      go_ret2
      exact ⟨rfl, Below.refl _ _⟩
    · have g2 : decide (12 < n) = false := decide_eq_false h2
      have g3 : decide (k < 0) = true := decide_eq_true (by omega)
      go_enter Try.func40, Try.ntmps40
      go_wp2
      go_ret2
      exact ⟨rfl, Below.refl _ _⟩
theorem Item_no (n k : Nat) (w : World) (hn : n ≤ 12) (hk : k ≤ 9223372036854775807) (h : dgQ k n ≠ 0) : Calls Try.prog 40 #[.int .i64 n, .int .i64 k] w fun e w' => e = .returned (.tuple #[.slice none 0 0, .int .i64 2]) ∧ Below w.heap.size w w' := by
  have HT := Lib.hid (tableAt_any n k w hn hk)
  rw [decide_eq_false h] at HT
  have g1 : decide ((n : Int) < 0) = false := decide_eq_false (by omega)
  have g2 : decide ((12 : Int) < n) = false := decide_eq_false (by omega)
  have g3 : decide ((k : Int) < 0) = false := decide_eq_false (by omega)
  clear h
  go_enter Try.func40, Try.ntmps40
  go_wp2_with (go_at_call 68; refine HT.out.mono ?_; rintro e w1 ⟨rfl, -, b1⟩)
  go_ret2
  exact ⟨rfl, b1⟩
theorem Item_yes (n k : Nat) (w : World) (hn : n ≤ 12) (hk : k ≤ 9223372036854775807) (h : dgQ k n = 0) :
    Calls Try.prog 40 #[.int .i64 n, .int .i64 k] w fun e w' => ∃ A' c', e = .returned (.tuple #[.slice A' n c', .int .i64 0]) ∧ IntsAt w' A' (mdL (dgL k n)) ∧ w'.ownsRow w.heap.size 3 1 (.slice A' n c') n (iv (mdL (dgL k n))) ∧ Below w.heap.size w w' := by
  have HT := Lib.hid (tableAt_any n k w hn hk)
  rw [h, show decide ((0 : Nat) = 0) = true from rfl] at HT
  have g1 : decide ((n : Int) < 0) = false := decide_eq_false (by omega)
  have g2 : decide ((12 : Int) < n) = false := decide_eq_false (by omega)
  have g3 : decide ((k : Int) < 0) = false := decide_eq_false (by omega)
  have hlen := dgL_len k n
  have hok := dgL_ok k n
  have HWT := Lib.hid (fun (A : Option Addr) c (w : World) (ha : IntsAt w A (dgL k n)) => withTable_any A c (dgL k n) w (by omega) hok ha)
  rw [hlen] at HWT
  have HL := Lib.hid (fun w => list_any (mdL (dgL k n)) w (okT_iso (by omega) hok))
  rw [show (mdL (dgL k n)).length = n by unfold mdL; rw [wtN_len, hlen]] at HL
  clear h hlen hok
  go_enter Try.func40, Try.ntmps40
  go_wp2_with (first
    | (go_at_call 68; refine HT.out.mono ?_; rintro e w1 ⟨rfl, i1, b1⟩; have I1 := Lib.hid i1; clear i1)
    | (go_at_call 58; refine (HWT.out _ _ _ I1.out).mono ?_; rintro e w2 ⟨rfl, b2⟩; replace b1 := b1.trans (b2.mono b1.size))
    | (go_at_call 59; fail))
  refine (HL.out _).mono ?_
  rintro e w3 ⟨v, rfl, o3, b3⟩
  obtain ⟨A, c, e2, -, -, i3⟩ := own_intsI o3
  rw [show (mdL (dgL k n)).length = n by unfold mdL; rw [wtN_len, dgL_len]] at e2
  subst e2
  have b4 := b1.trans (b3.mono b1.size)
  go_wp2
  go_ret2
  exact ⟨A, c, rfl, i3, own_mono o3 b1.size, b4⟩
end Go.Proofs.Ytheblebfeinjjaa
