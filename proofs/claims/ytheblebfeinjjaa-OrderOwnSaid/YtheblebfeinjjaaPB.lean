/- Table and Index of an order. -/
import Derived.Test.YtheblebfeinjjaaNX
import Derived.Test.YtheblebfeinjjaaOR
namespace Go.Proofs.Ytheblebfeinjjaa
open Go.RowKit
set_option maxHeartbeats 1000000
set_option maxRecDepth 100000
theorem Table_yes (A : Option Addr) (c : Nat) (l : List Int) (w : World) (h : IsO l) (ha : IntsAt w A l) :
    Calls Try.prog 18 #[.slice A l.length c] w fun e w' => ∃ A' c', e = .returned (.tuple #[.slice A' l.length c', .int .i64 0]) ∧ w'.ownsRow w.heap.size 3 1 (.slice A' l.length c') l.length (iv (tabL l)) ∧ Below w.heap.size w w' := by
  have hpl := pad_len h.le
  have hi := info50_iv hpl
  have HR := Lib.hid (read_yes A c l w h ha)
  have HT := Lib.hid (fun w => table_any l w h)
  have htl := tabL_len l
  have HTL := Lib.hid htl
  unfold arr at HR HT
  clear h ha htl
  generalize pad l = X at *
  generalize tabL l = T at *
  go_enter Try.func18, Try.ntmps18
  go_wp2_with (first
    | (go_at_call 49; refine HR.out.mono ?_; rintro e w1 ⟨rfl, b1⟩; have r1 : Row (w1.alloc (.cells Z12.toArray 50)) w1.heap.size 50 Z12 := row_new rfl; have b0 := b1.alloc b1.size (.cells Z12.toArray 50); have hz1 := b1.size)
    | (with_reducible refine (?_ : wpList _ _ _ (Oper.mk _ (Op.store 50 (.tmp 4) _) _ _ _ _ :: _) _ _); refine wpList_store_row rfl 50 (.tmp 4) (.tmp 9) rfl w1.heap.size (iv X).toArray rfl rfl 50 Z12.toArray (row_heap r1) hi (size50_Z hpl) (iv_all _) ?_; replace r1 := r1.row (iv X); replace b0 := below_row (g := w1.heap.size) b0 hz1 (iv X).toArray; generalize World.setRow (w1.alloc _) _ _ = W at *)
    | ((with_reducible refine (?_ : wpList _ _ _ (Oper.mk (some 13) _ _ _ _ _ :: _) _ _)); refine wpList_load_row rfl 50 (.tmp 4) rfl w1.heap.size rfl 50 (iv X).toArray (0, 0) _ (row_heap r1) Try.underlying50 rfl hi ?_)
    | (go_at_call 53; fail))
  refine (HT.out _).mono ?_
  rintro e w6 ⟨v, rfl, o6, b6⟩
  have b7 := b0.trans (b6.mono b0.size)
  have o7 := own_mono o6 b0.size
  clear o6 b6
  obtain ⟨A6, c6, e6, -, -, -⟩ := own_intsI o7
  rw [HTL.out] at e6
  subst e6
  go_wp2
  go_ret2
  exact ⟨_, _, rfl, o7, b7⟩
theorem Table_no (A : Option Addr) (c : Nat) (l : List Int) (w : World) (hx : l.length ≤ 1000000) (h : okO l = false) (ha : IntsAt w A l) :
    Calls Try.prog 18 #[.slice A l.length c] w fun e w' => e = .returned (.tuple #[.slice none 0 0, .int .i64 2]) ∧ Below w.heap.size w w' := by
  have HR := Lib.hid (read_no A c l w hx h ha)
  clear h ha
  go_enter Try.func18, Try.ntmps18
  go_wp2_with (go_at_call 49; fail)
  refine HR.out.mono ?_
  rintro e w1 ⟨X, hpl, rfl, b1⟩
  have hi := info50_iv hpl
  have r1 : Row (w1.alloc (.cells Z12.toArray 50)) w1.heap.size 50 Z12 := row_new rfl
  have b0 := b1.alloc b1.size (.cells Z12.toArray 50)
  have hz1 := b1.size
  go_wp2_with (with_reducible refine (?_ : wpList _ _ _ (Oper.mk _ (Op.store 50 (.tmp 4) _) _ _ _ _ :: _) _ _); refine wpList_store_row rfl 50 (.tmp 4) (.tmp 9) rfl w1.heap.size (iv X).toArray rfl rfl 50 Z12.toArray (row_heap r1) hi (size50_Z hpl) (iv_all _) ?_; replace b0 := below_row (g := w1.heap.size) b0 hz1 (iv X).toArray; generalize World.setRow (w1.alloc _) _ _ = W at *)
  go_ret2
  exact ⟨rfl, b0⟩
/-- The number that the first so many digits of a table make. -/
def plN (t : List Nat) (n : Nat) : Nat → Nat
  | 0 => 0
  | k + 1 => plN t n k * (n - k) + getn t k
/-- Digits below their bases. -/
def DigOk (t : List Nat) (n : Nat) : Prop := ∀ i, i < n → getn t i < n - i
theorem plN_lt {t : List Nat} {n : Nat} (h : DigOk t n) : ∀ k, k ≤ n → (plN t n k + 1) * facN (n - k) ≤ facN n
  | 0, _ => by simp [plN]
  | k + 1, hk => by
    have ih := plN_lt h k (by omega)
    have hd := h k (by omega)
    have e : facN (n - k) = (n - k) * facN (n - (k + 1)) := by
      obtain ⟨j, hj⟩ : ∃ j, n - k = j + 1 := ⟨n - k - 1, by omega⟩
      rw [hj, show n - (k + 1) = j by omega]; rfl
    rw [e, ← Nat.mul_assoc] at ih
    refine Nat.le_trans (Nat.mul_le_mul_right _ ?_) ih
    show plN t n k * (n - k) + getn t k + 1 ≤ (plN t n k + 1) * (n - k)
    rw [Nat.succ_mul]
    omega
theorem placeOf_any (A : Option Addr) (c : Nat) (t : List Nat) (w : World) (hn : t.length ≤ 12) (hd : DigOk t t.length) (ha : IntsAt w A (natI t)) :
    Calls Try.prog 54 #[.slice A t.length c] w fun e w' => e = .returned (.int .i64 (plN t t.length t.length : Nat)) ∧ w = w' := by
  have HA := Lib.hid ha
  have HB : Hid (∀ k, k ≤ t.length → plN t t.length k ≤ 479001600) := Lib.hid (fun k hk => by
    have h1 := plN_lt hd k hk
    have h2 := facN_pos (t.length - k)
    have h3 : facN t.length ≤ 479001600 := by
      have : ∀ n, n < 13 → facN n ≤ 479001600 := by decide
      exact this _ (by omega)
    have h4 : plN t t.length k + 1 ≤ (plN t t.length k + 1) * facN (t.length - k) := Nat.le_mul_of_pos_right _ h2
    omega)
  have HD := Lib.hid hd
  clear ha hd
  go_enter Try.func54, Try.ntmps54
  go_wp2
  go_loopw [3, 8] (fun p i wr => ∃ k : Nat, k ≤ t.length ∧ i = .int .i64 k ∧ p = .int .i64 (plN t t.length k : Nat) ∧ w = wr) (fun _ i _ => t.length - (intOf i).toNat)
  case atStart => exact ⟨0, by omega, rfl, rfl, rfl⟩
  case round =>
    obtain ⟨k, hk, rfl, rfl, rfl⟩ := hrel
    by_cases hlt : k < t.length
    · obtain ⟨b, o, rfl, hb, hc⟩ := HA.out (by rw [natI_len]; omega)
      have c1 := hc k (by rw [natI_len]; exact hlt)
      rw [geti_natI] at c1
      clear hc
      have h1 := HB.out k hk
      have h2 := HB.out (k + 1) hlt
      have HS : Hid (((plN t t.length k : Nat) : Int) * ((t.length : Int) - k) + (getn t k : Nat) = (plN t t.length (k + 1) : Nat)) := Lib.hid (by
        show _ = ((plN t t.length k * (t.length - k) + getn t k : Nat) : Int)
        rw [Int.natCast_add, Int.natCast_mul, show ((t.length - k : Nat) : Int) = (t.length : Int) - k by omega])
      have hp : 0 ≤ ((plN t t.length k : Nat) : Int) * ((t.length : Int) - k) ∧ ((plN t t.length k : Nat) : Int) * ((t.length : Int) - k) + (getn t k : Nat) ≤ 479001600 := by
        refine ⟨Int.mul_nonneg (by omega) (by omega), ?_⟩
        rw [HS.out]; omega
      obtain ⟨p1, p2⟩ := hp
      clear h2
      obtain ⟨q, HQ⟩ : ∃ q, Hid (plN t t.length (k + 1) = q) := ⟨_, Lib.hid rfl⟩
      replace HS := Lib.hid (HS.out.trans (congrArg Nat.cast HQ.out))
      generalize plN t t.length k = p at *
      generalize getn t k = s at *
      go_wp2
      go_roundw
      case rel => exact ⟨k + 1, by omega, by go_num, by rw [HS.out, ← HQ.out], by first | rfl | trivial⟩
      case measure => simp [intOf]; omega
    · obtain rfl : k = t.length := by omega
      go_wp2
      go_ret
      exact ⟨rfl, rfl⟩
end Go.Proofs.Ytheblebfeinjjaa
