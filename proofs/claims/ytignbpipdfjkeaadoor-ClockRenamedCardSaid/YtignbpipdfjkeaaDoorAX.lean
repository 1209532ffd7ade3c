/- ClockCerny: its walk. -/
import Derived.Test.YtignbpipdfjkeaaDoorAU
import Derived.Test.YtignbpipdfjkeaaDoorMD
namespace Go.Proofs.YtignbpipdfjkeaaDoor
open Go.RowKit
set_option maxHeartbeats 1000000
set_option maxRecDepth 100000
def slN (n : Nat) : List (List Int) := [slA n, slB n]
def cernyQ (n : Nat) : Hit := fast (tabN (slN n)) 2 (few 1) 512 [(sAll n, [])] [] (2 ^ sAll n)
def cerny (n : Nat) : Bool := match cernyQ n with
  | some (t, x) => t == 1 && x.length == (n - 1) * (n - 1) && !(few 1 (sAll n))
  | none => false
theorem slA_len (n : Nat) : (slA n).length = n := by unfold slA; rw [List.length_set, slP_len]
theorem slB_len (n : Nat) : (slB n).length = n := by unfold slB; rw [List.length_set, slP_len]
theorem slN_okD : ((List.range 9).all fun i => okM (slN (i + 1))) = true := by decide +kernel
theorem slN_ok {n : Nat} (h1 : 1 ≤ n) (h9 : n ≤ 9) : IsMI (slN n) := okM_iff.1 (by
  have := List.all_eq_true.1 slN_okD (n - 1) (List.mem_range.2 (by omega))
  rwa [show n - 1 + 1 = n by omega] at this)
theorem cerny_all {n : Nat} (h2 : 2 ≤ n) (h9 : n ≤ 9) : cerny n = true := by
  have h : n = 2 ∨ n = 3 ∨ n = 4 ∨ n = 5 ∨ n = 6 ∨ n = 7 ∨ n = 8 ∨ n = 9 := by omega
  rcases h with rfl | rfl | rfl | rfl | rfl | rfl | rfl | rfl
  · decide +kernel
  · decide +kernel
  · decide +kernel
  · decide +kernel
  · decide +kernel
  · decide +kernel
  · decide +kernel
  · decide +kernel
theorem cerny_seek {n : Nat} (h : cerny n = true) : ∃ x, seek (tabN (slN n)) 2 (sAll n) (few 1) = some (1, x) ∧ x.length = (n - 1) * (n - 1) := by
  unfold cerny at h
  cases e : cernyQ n with
  | none => rw [e] at h; cases h
  | some q =>
    obtain ⟨t, x⟩ := q
    rw [e] at h
    simp only [Bool.and_eq_true, beq_iff_eq, Bool.not_eq_true'] at h
    obtain ⟨⟨rfl, h2⟩, h3⟩ := h
    exact ⟨x, seek_fast h3 e, h2⟩
theorem SlowR.rows {w w' : World} {n : Nat} {e : Ending} (h : SlowR w n e w') : ∃ g, e = .returned (.tuple #[.slice (some ⟨g, 0, none⟩) 2 2, .int .i64 0]) ∧ RowsAt w' (some ⟨g, 0, none⟩) (slN n) ∧ Below w.heap.size w w' := by
  obtain ⟨g, a, b, rfl, s1, s2, s3, -, -, -, -, bb⟩ := h
  refine ⟨g, rfl, ?_, bb⟩
  have e1 : Row w' g 29 [.slice (some ⟨a, 0, none⟩) (slA n).length n, .slice (some ⟨b, 0, none⟩) (slB n).length n] := by rw [slA_len, slB_len]; exact s1
  exact rows2 e1 s2 s3
theorem wS_len (x : List Nat) : (wS x).size = x.length := by unfold wS; rw [strOfNums_size, wI_len]
theorem clockCerny_any (n : Int) (w : World) (ht : TabW w) : Calls Tryd.prog 13 #[.int .i64 n] w fun e w' => e = .returned (.bool true) ∧ Below w.heap.size w w' := by
  have HMD := Lib.hid (fun V => mod_any n 8 V (by omega) (by omega))
  have hlt := modI_lt n (n := 8) (by omega)
  obtain ⟨m, hm⟩ : ∃ m, modI n 8 = m := ⟨_, rfl⟩
  rw [hm] at HMD hlt
  clear hm
  have hC := cerny_all (n := m + 2) (by omega) (by omega)
  have HSL : Hid (∀ V, Calls Tryd.prog 39 #[.int .i64 (2 + (m : Int))] V (SlowR V (m + 2))) := Lib.hid (fun V => by
    have := Slow_yes (m + 2) V (by omega) (by omega)
    rwa [show ((m + 2 : Nat) : Int) = 2 + (m : Int) by omega] at this)
  have hok := slN_ok (n := m + 2) (by omega) (by omega)
  have hnS : nS (slN (m + 2)) = m + 2 := slA_len _
  have HRS := Lib.hid (fun (V : World) (g : Nat) (hV : Below w.heap.size w V) ha => Reset_yes (some ⟨g, 0, none⟩) 2 (slN (m + 2)) V hok ha (ht.below hV ht.lt))
  unfold rsX at HRS
  rw [hnS, show (slN (m + 2)).length = 2 from rfl] at HRS
  have HAW := Lib.hid (fun (V : World) (hV : Below w.heap.size w V) => awake_any V (ht.below hV ht.lt))
  obtain ⟨x, hX, hx⟩ := cerny_seek hC
  rw [hX] at HRS
  · clear hX hC
    have hxs : ((wS x).size : Int) = (m + 1) * (m + 1) := by rw [wS_len, hx, show m + 2 - 1 = m + 1 by omega]; push_cast; rfl
    have HR2 : Hid (∀ (V : World) (g : Nat), Below w.heap.size w V → RowsAt V (some ⟨g, 0, none⟩) (slN (m + 2)) → Calls Tryd.prog 17 #[.slice (some ⟨g, 0, none⟩) 2 2] V fun e w' => e = .returned (.tuple #[.string (wS x), .int .i64 0, .int .i64 0]) ∧ Below V.heap.size V w') := Lib.hid (fun V g hV ha => by
      refine (HRS.out V g hV ha).mono (fun e w' ⟨he, hb⟩ => ⟨?_, hb⟩)
      rw [he]
      show Ending.returned (.tuple #[.string (wS x), .int .i64 ((tzS 1 : Nat) : Int), .int .i64 0]) = _
      rw [show tzS 1 = 0 by decide]; rfl)
    clear HRS hx hok hnS ht
    obtain ⟨S, hS⟩ : ∃ S, wS x = S := ⟨_, rfl⟩
    rw [hS] at hxs HR2
    clear hS
    have hq : ((S.size : Int) == wrap64 ((2 + (m : Int) - 1) * (2 + (m : Int) - 1))) = true := by
      have h1 : (2 + (m : Int) - 1) = ((m + 1 : Nat) : Int) := by omega
      have h2 : (m + 1) * (m + 1) ≤ 8 * 8 := Nat.mul_le_mul (by omega) (by omega)
      rw [h1, ← Int.natCast_mul, IntWalk.wrap64_in _ ⟨by omega, by omega⟩, beq_iff_eq, hxs]
      push_cast; rfl
    clear hxs
    have b0 := Below.refl w.heap.size w
    go_enter Tryd.func13, Tryd.ntmps13
    go_wp2_with (first
      | (go_at_call 48; refine (HMD.out _).mono ?_; rintro e w2 ⟨rfl, rfl⟩)
      | (go_at_call 39; refine (HSL.out _).mono ?_; rintro e w1 h1; obtain ⟨g1, rfl, R1, b1⟩ := h1.rows; replace b0 := b0.trans (b1.mono b0.size))
      | (go_at_call 17; refine (HR2.out _ _ b0 R1).mono ?_; rintro e w2 ⟨rfl, b2⟩; replace b0 := b0.trans (b2.mono b0.size))
      | (go_at_call 22; refine (HAW.out _ b0).mono ?_; rintro e w3 ⟨rfl, b3⟩; replace b0 := b0.trans (b3.mono b0.size)))
    go_ret
    exact ⟨rfl, b0⟩
end Go.Proofs.YtignbpipdfjkeaaDoor
