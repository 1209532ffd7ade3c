/- The reference's first shortest list. -/
import Derived.Test.YtopeppnajbnfgaaHD
namespace Go.Proofs.Ytopeppnajbnfgaa
open Go.RowKit
set_option maxHeartbeats 1000000
set_option maxRecDepth 100000
theorem search_any (s : ByteArray) (hs : s.size ≤ 24) (ho : ∀ i, i < s.size → okC s i) (hev : evV s = true) : ∀ (m : Nat), m ≤ 4 → ∀ (A : Option Addr) (c : Nat) (p : List Int) (w : World), p.length + m ≤ 4 → p.length ≤ c → SlAt A c p → cutV 1 s.size p = true → IntsAt w A p →
    Calls Try.prog 46 #[.string s, .slice A p.length c, .int .i64 m, .bool false] w (SRes s m p (fromN p) w)
  | 0, _, A, c, p, w, _, _, _, hcut, hx => search_zero s hs ho hev A c p w hcut hx
  | m + 1, hm, A, c, p, w, hpl, hpc, hA, hcut, hx => by
    have ih := search_any s hs ho hev m (by omega)
    rcases hA with ⟨g, o, rfl⟩ | ⟨rfl, rfl, rfl⟩
    · exact search_some s hs m (by omega) g o c (fromN p) p w hpl hpc hcut hx rfl ((m + 1 : Nat) : Int) (by omega) ih
    · exact search_none s hs m (by omega) 1 w rfl ((m + 1 : Nat) : Int) (by omega) ih
/-- What the reference hands back. -/
def LRes (s : ByteArray) (w : World) (e : Ending) (w' : World) : Prop :=
  ∃ A c xs, e = .returned (.slice A xs.length c) ∧ Below w.heap.size w w' ∧ IntsAt w' A xs ∧ xs = (fewV s 1 1).getD []
theorem fewL_step {s : ByteArray} {r m : Nat} (h : ¬ 4 < m) : fewL s 1 1 (r + 1) m = match (exts s.size m [] 1).find? (fairV s) with | some x => some x | none => fewL s 1 1 r (m + 1) := by
  rw [show fewL s 1 1 (r + 1) m = if 4 < m then none else match (exts s.size m [] 1).find? (fairV s) with | some x => some x | none => fewL s 1 1 r (m + 1) from rfl, if_neg h]
theorem RefLeast_any (s : ByteArray) (w : World) (hc : chV s = true) (hev : evV s = true) : Calls Try.prog 25 #[.string s] w (LRes s w) := by
  have hs := chV_size hc
  have ho := (of_decide_eq_true hc).2
  have HS := Lib.hid (fun (m : Nat) (hm : m ≤ 4) w => (search_any s hs ho hev m hm none 0 [] w (by simp; omega) (by simp) (.inr ⟨rfl, rfl, rfl⟩) (decide_eq_true fun i hi => absurd hi (by simp)) (fun h => absurd h (by simp)) : Calls Try.prog 46 #[.string s, .slice none 0 0, .int .i64 m, .bool false] w (SRes s m [] 1 w)))
  go_enter Try.func25, Try.ntmps25
  go_wp2
  go_loopw [3] (fun i wr => ∃ m r : Nat, i = .int .i64 m ∧ m ≤ 5 ∧ r + m = 6 ∧ Hid (fewV s 1 1 = fewL s 1 1 r m) ∧ Below w.heap.size w wr) (fun i _ => 10 - (intOf i).toNat)
  case atStart => exact ⟨0, 6, rfl, by omega, rfl, Lib.hid rfl, Below.refl _ _⟩
  case round =>
    obtain ⟨m, r, rfl, hm, hr, HF, b0⟩ := hrel
    by_cases h4 : m ≤ 4
    · have g1 : decide ((m : Int) ≤ 4) = true := decide_eq_true (by omega)
      obtain ⟨r, rfl⟩ : ∃ r', r = r' + 1 := ⟨r - 1, by omega⟩
      have HM := Lib.hid (HS.out m h4)
      have HT := Lib.hid (fewL_step (s := s) (r := r) (m := m) (by omega))
      go_wp2_with (go_at_call 46; fail)
      refine (HM.out _).mono ?_
      rintro e w3 ⟨b3, hr⟩
      rcases hr with ⟨x, B2, d2, hf2, rfl, hix⟩ | ⟨hf2, v, rfl⟩
      · replace hf2 : (exts s.size m [] 1).find? (fairV s) = some x := hf2
        have HV := Lib.hid (show x = (fewV s 1 1).getD [] by rw [HF.out, HT.out, hf2]; rfl)
        clear HM hf2
        go_wp2
        go_ret
        exact ⟨B2, d2, x, rfl, b0.trans (b3.mono b0.size), hix, HV.out⟩
      · replace hf2 : (exts s.size m [] 1).find? (fairV s) = none := hf2
        have HV := Lib.hid (show fewV s 1 1 = fewL s 1 1 r (m + 1) by rw [HF.out, HT.out, hf2])
        clear HM hf2
        go_wp2
        go_roundw
        case rel => exact ⟨m + 1, r, by go_num, by omega, by omega, HV, b0.trans (b3.mono b0.size)⟩
        case measure => simp [intOf]; omega
    · have g1 : decide ((m : Int) ≤ 4) = false := decide_eq_false (by omega)
      have HV := Lib.hid (show ([] : List Int) = (fewV s 1 1).getD [] by rw [HF.out, fewL_over (by omega)]; rfl)
      go_wp2
      go_ret
      exact ⟨none, 0, [], rfl, b0, fun h => absurd h (by simp), HV.out⟩
end Go.Proofs.Ytopeppnajbnfgaa
