/- later and All. -/
import Derived.Test.YtignbpipdfjkeaaDoorBY
import Derived.Test.YtignbpipdfjkeaaDoorBB
namespace Go.Proofs.YtignbpipdfjkeaaDoor
open Go.RowKit Go.PlainAid
set_option maxHeartbeats 2000000
set_option maxRecDepth 100000
theorem refAll_any (A : Option Addr) (c : Nat) (L : List (List Int)) (w : World) (h : IsMI L) (ha : RowsAt w A L) :
    Calls Tryd.prog 24 #[.slice A L.length c] w fun e w' => e = .returned (.int .i64 (2 ^ nS L - 1 : Nat)) ∧ w = w' := by
  obtain ⟨bA, oA, hA, hbA, hcA⟩ := ha h.k1
  subst hA
  obtain ⟨B0, c0, d0, -⟩ := hcA 0 h.k1
  rw [show (getl L 0).length = nS L from rfl, Nat.add_zero] at d0
  have hk1 := h.k1
  have hn9 := h.n9
  have HP : Hid (wrap64 (wrap64 ((2 : Int) ^ nS L) - 1) = ((2 ^ nS L - 1 : Nat) : Int)) := Lib.hid (by
    have h1 : 2 ^ nS L ≤ 2 ^ 9 := Nat.pow_le_pow_right (by decide) hn9
    have h2 := Nat.two_pow_pos (nS L)
    rw [pow_cast]
    generalize 2 ^ nS L = P at *
    have e1 : wrap64 (P : Int) = P := IntWalk.wrap64_in _ ⟨by omega, by omega⟩
    rw [e1, IntWalk.wrap64_in _ ⟨by omega, by omega⟩]
    omega)
  clear ha hcA h
  generalize nS L = n at *
  go_enter Tryd.func24, Tryd.ntmps24
  go_wp2
  go_ret
  exact ⟨by rw [← HP.out]; rfl, rfl⟩
/-- One string comes after another one: by length, then by bytes. -/
def ltrB (a b : ByteArray) : Bool := decide (b.size < a.size) || (decide (a.size = b.size) && (!Op.bytesLess a.toList b.toList && !a.toList == b.toList))
theorem later_any (a b : ByteArray) (w : World) : Calls Tryd.prog 49 #[.string a, .string b] w fun e w' => e = .returned (.bool (ltrB a b)) ∧ w = w' := by
  have HL : Hid (ltrB a b = (decide (b.size < a.size) || (decide (a.size = b.size) && (!Op.bytesLess a.toList b.toList && !a.toList == b.toList)))) := Lib.hid rfl
  by_cases h1 : b.size < a.size
  · have g1 : decide (b.size < a.size) = true := decide_eq_true h1
    clear h1
    go_enter Tryd.func49, Tryd.ntmps49
    go_wp2
    go_ret
    exact ⟨ret_bool (by rw [HL.out, g1]; rfl), rfl⟩
  · have g1 : decide (b.size < a.size) = false := decide_eq_false h1
    by_cases h2 : a.size = b.size
    · have g2 : ((a.size : Int) == (b.size : Int)) = true := by rw [beq_iff_eq, h2]
      have g3 := Lib.hid (decide_eq_true h2)
      clear h1 h2
      go_enter Tryd.func49, Tryd.ntmps49
      go_wp2
      go_ret
      exact ⟨ret_bool (by rw [HL.out, g1, g3.out]; rfl), rfl⟩
    · have g2 : ((a.size : Int) == (b.size : Int)) = false := by rw [beq_eq_false_iff_ne]; omega
      have g3 := Lib.hid (decide_eq_false h2)
      clear h1 h2
      go_enter Tryd.func49, Tryd.ntmps49
      go_wp2
      go_ret
      exact ⟨ret_bool (by rw [HL.out, g1, g3.out]; rfl), rfl⟩
end Go.Proofs.YtignbpipdfjkeaaDoor
