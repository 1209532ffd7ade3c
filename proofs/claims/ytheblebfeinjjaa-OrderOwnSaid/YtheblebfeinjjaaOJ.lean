/- The order with a table: whether it is one; Order. -/
import Derived.Test.YtheblebfeinjjaaOE
import Derived.Test.YtheblebfeinjjaaOC
namespace Go.Proofs.Ytheblebfeinjjaa
open Go.RowKit
set_option maxHeartbeats 1000000
set_option maxRecDepth 100000
theorem okT_at : ∀ {t : List Int}, okT t = true ↔ ∀ i, i < t.length → 0 ≤ geti t i ∧ geti t i < (t.length : Int) - i
  | [] => by simp [okT]
  | s :: rest => by
    unfold okT
    rw [Bool.and_eq_true, Bool.and_eq_true, okT_at (t := rest), decide_eq_true_eq, decide_eq_true_eq]
    constructor
    · rintro ⟨⟨h1, h2⟩, h3⟩ i hi
      cases i with
      | zero => exact ⟨h1, by show s < _; rw [List.length_cons]; omega⟩
      | succ i =>
        have := h3 i (by rw [List.length_cons] at hi; omega)
        refine ⟨this.1, ?_⟩
        show geti rest i < _
        rw [List.length_cons]
        omega
    · intro h
      refine ⟨⟨(h 0 (by simp)).1, ?_⟩, fun i hi => ?_⟩
      · have h2 : s < ((s :: rest).length : Int) - (0 : Nat) := (h 0 (by simp)).2
        rw [List.length_cons] at h2
        omega
      · have h2 : 0 ≤ geti rest i ∧ geti rest i < ((s :: rest).length : Int) - ((i + 1 : Nat) : Int) := h (i + 1) (by rw [List.length_cons]; omega)
        rw [List.length_cons] at h2
        omega
def isT (t : List Int) : Bool := decide (t.length ≤ 12) && okT t
theorem isTable_any (A : Option Addr) (c : Nat) (t : List Int) (w : World) (hx : t.length ≤ 1000000) (ha : IntsAt w A t) :
    Calls Try.prog 57 #[.slice A t.length c] w fun e w' => e = .returned (.bool (isT t)) ∧ w = w' := by
  by_cases hl : 12 < t.length
  · have g1 : decide ((12 : Int) < t.length) = true := decide_eq_true (by omega)
    have hv : isT t = false := by unfold isT; rw [decide_eq_false (by omega)]; rfl
    rw [hv]
    go_enter Try.func57, Try.ntmps57
    go_wp2
    go_ret
    exact ⟨rfl, rfl⟩
  · have g1 : decide ((12 : Int) < t.length) = false := decide_eq_false (by omega)
    have hv : isT t = okT t := by unfold isT; rw [decide_eq_true (by omega)]; rfl
    rw [hv]
    have HA := Lib.hid ha
    clear hv ha
    go_enter Try.func57, Try.ntmps57
    go_wp2
    go_loopw [10] (fun i wr => ∃ k : Nat, k ≤ t.length ∧ i = .int .i64 k ∧ Hid (∀ i, i < k → 0 ≤ geti t i ∧ geti t i < (t.length : Int) - i) ∧ w = wr) (fun i _ => t.length - (intOf i).toNat)
    case atStart => exact ⟨0, by omega, rfl, Lib.hid (fun i hi => absurd hi (by omega)), rfl⟩
    case round =>
      obtain ⟨k, hk, rfl, HB, rfl⟩ := hrel
      by_cases hlt : k < t.length
      · obtain ⟨b, o, rfl, hb, hc⟩ := HA.out (by omega)
        have c1 := hc k hlt
        clear hc
        obtain ⟨x, hx⟩ : ∃ x, geti t k = x := ⟨_, rfl⟩
        rw [hx] at c1
        have HX := Lib.hid hx
        clear hx
        by_cases h1 : x < 0
        · have e1 : decide (x < 0) = true := decide_eq_true h1
          have HV : Hid (okT t = false) := Lib.hid (by
            cases h : okT t
            · rfl
            · have := (okT_at.1 h k hlt).1; rw [HX.out] at this; omega)
          clear h1
          go_wp2
          go_ret
          exact ⟨ret_bool HV.out.symm, rfl⟩
        · have e1 : decide (x < 0) = false := decide_eq_false h1
          by_cases h2 : (t.length : Int) - k ≤ x
          · have e2 : decide ((t.length : Int) - k ≤ x) = true := decide_eq_true h2
            have HV : Hid (okT t = false) := Lib.hid (by
              cases h : okT t
              · rfl
              · have := (okT_at.1 h k hlt).2; rw [HX.out] at this; omega)
            clear h1 h2
            go_wp2
            go_ret
            exact ⟨ret_bool HV.out.symm, rfl⟩
          · have e2 : decide ((t.length : Int) - k ≤ x) = false := decide_eq_false h2
            have HB2 : Hid (∀ i, i < k + 1 → 0 ≤ geti t i ∧ geti t i < (t.length : Int) - i) := Lib.hid (fun i hi => by
              by_cases e : i = k
              · subst e; rw [HX.out]; omega
              · exact HB.out i (by omega))
            clear h1 h2
            go_wp2
            go_roundw
            case rel => exact ⟨k + 1, by omega, by go_num, HB2, by first | rfl | trivial⟩
            case measure => simp [intOf]; omega
      · obtain rfl : k = t.length := by omega
        have HV := Lib.hid (okT_at.2 HB.out)
        go_wp2
        go_ret
        exact ⟨ret_bool HV.out.symm, rfl⟩
theorem mdL_len (t : List Int) : (mdL t).length = t.length := by unfold mdL; rw [wtN_len]
theorem Order_yes (A : Option Addr) (c : Nat) (t : List Int) (w : World) (h : isT t = true) (ha : IntsAt w A t) :
    Calls Try.prog 27 #[.slice A t.length c] w fun e w' => ∃ A' c', e = .returned (.tuple #[.slice A' t.length c', .int .i64 0]) ∧ IntsAt w' A' (mdL t) ∧ w'.ownsRow w.heap.size 3 1 (.slice A' t.length c') t.length (iv (mdL t)) ∧ Below w.heap.size w w' := by
  have h' := h
  unfold isT at h'
  rw [Bool.and_eq_true, decide_eq_true_eq] at h'
  obtain ⟨h12, hok⟩ := h'
  have HT := Lib.hid (isTable_any A c t w (by omega) ha)
  rw [h] at HT
  have HWT := Lib.hid (withTable_any A c t w h12 hok ha)
  have HL := Lib.hid (fun w => list_any (mdL t) w (okT_iso h12 hok))
  rw [mdL_len] at HL
  clear h hok ha
  go_enter Try.func27, Try.ntmps27
  go_wp2_with (first
    | (go_at_call 57; refine HT.out.mono ?_; rintro e w1 ⟨rfl, rfl⟩)
    | (go_at_call 58; refine HWT.out.mono ?_; rintro e w2 ⟨rfl, b1⟩)
    | (go_at_call 59; fail))
  refine (HL.out _).mono ?_
  rintro e w3 ⟨v, rfl, o3, b3⟩
  obtain ⟨A', c', e2, -, -, i3⟩ := own_intsI o3
  rw [mdL_len] at e2
  subst e2
  have b4 := b1.trans (b3.mono b1.size)
  go_wp2
  go_ret2
  exact ⟨A', c', rfl, i3, own_mono o3 b1.size, b4⟩
theorem Order_no (A : Option Addr) (c : Nat) (t : List Int) (w : World) (hx : t.length ≤ 1000000) (h : isT t = false) (ha : IntsAt w A t) :
    Calls Try.prog 27 #[.slice A t.length c] w fun e w' => e = .returned (.tuple #[.slice none 0 0, .int .i64 2]) ∧ Below w.heap.size w w' := by
  have HT := Lib.hid (isTable_any A c t w hx ha)
  rw [h] at HT
  clear h ha
  go_enter Try.func27, Try.ntmps27
  go_wp2_with (go_at_call 57; refine HT.out.mono ?_; rintro e w1 ⟨rfl, rfl⟩)
  go_ret2
  exact ⟨rfl, Below.refl _ _⟩
end Go.Proofs.Ytheblebfeinjjaa
