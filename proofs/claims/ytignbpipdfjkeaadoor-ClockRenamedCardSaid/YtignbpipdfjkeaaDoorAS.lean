/- Tables compared. -/
import Derived.Test.YtignbpipdfjkeaaDoorAR
namespace Go.Proofs.YtignbpipdfjkeaaDoor
open Go.RowKit
set_option maxHeartbeats 1000000
set_option maxRecDepth 100000
theorem RowsAt.drewN {w : World} {A : Option Addr} {L : List (List Int)} (h : RowsAt w A L) (n : Nat) : RowsAt (w.drewN n) A L := h
theorem ext_getl {L M : List (List Int)} (h : L.length = M.length) (h2 : ∀ i, i < L.length → getl L i = getl M i) : L = M := by
  apply List.ext_getElem h
  intro i h1 h3
  have := h2 i h1
  unfold getl at this
  rwa [List.getD_eq_getElem?_getD, List.getD_eq_getElem?_getD, List.getElem?_eq_getElem h1, List.getElem?_eq_getElem h3] at this
theorem tables_any (A B : Option Addr) (c d : Nat) (L M : List (List Int)) (w : World) (hl : L.length ≤ 100) (hL : ∀ i, i < L.length → (getl L i).length ≤ 1000) (hM : ∀ i, i < M.length → (getl M i).length ≤ 1000) (ha : RowsAt w A L) (hb : RowsAt w B M) :
    Calls Tryd.prog 40 #[.slice A L.length c, .slice B M.length d] w fun e w' => e = .returned (.bool (decide (L = M))) ∧ ∃ n, w' = w.drewN n := by
  by_cases hlm : L.length = M.length
  · have hl2 : ((L.length : Int) != M.length) = false := by simp [hlm]
    have HA := Lib.hid ha
    have HB := Lib.hid hb
    have HLL := Lib.hid hL
    have HMM := Lib.hid hM
    have HLM := Lib.hid hlm
    clear ha hb hL hM
    go_enter Tryd.func40, Tryd.ntmps40
    go_wp2
    clear hlm hl2
    go_loopw [5] (fun i wr => ∃ k n : Nat, k ≤ L.length ∧ i = .int .i64 k ∧ wr = w.drewN n ∧ Hid (∀ j, j < k → getl L j = getl M j)) (fun i _ => L.length - (intOf i).toNat)
    case atStart => exact ⟨0, 0, by omega, rfl, rfl, Lib.hid (by intro j hj; omega)⟩
    case round =>
      obtain ⟨k, n, hk, rfl, rfl, HJ⟩ := hrel
      by_cases hlt : k < L.length
      · have g1 : decide (k < L.length) = true := decide_eq_true hlt
        obtain ⟨b, o, rfl, hb1, hc⟩ := HA.out (by omega)
        obtain ⟨b', o', rfl, hb1', hc'⟩ := HB.out (by have := HLM.out; omega)
        obtain ⟨B1, c1, h1, i1⟩ := hc k hlt
        obtain ⟨B2, c2, h2, i2⟩ := hc' k (by have := HLM.out; omega)
        have h3 : k < M.length := by have := HLM.out; omega
        have HI := Lib.hid (fun m => ints_any B1 B2 c1 c2 (getl L k) (getl M k) (w.drewN m) (by have := HLL.out k hlt; omega) (by have := HMM.out k h3; omega) i1 i2)
        have HY : Hid (getl L k = getl M k → ∀ j, j < k + 1 → getl L j = getl M j) := Lib.hid (fun h j hj => by
          by_cases e : j = k
          · subst e; exact h
          · exact HJ.out j (by omega))
        have HN : Hid (getl L k ≠ getl M k → decide (L = M) = false) := Lib.hid (fun h => decide_eq_false (fun e => h (by rw [e])))
        clear hc hc' i1 i2
        generalize getl L k = X at *
        generalize getl M k = Y at *
        by_cases hxy : X = Y
        · replace HI : Hid (∀ m, Calls Tryd.prog 25 #[.slice B1 X.length c1, .slice B2 Y.length c2] (w.drewN m) fun e w' => e = .returned (.bool true) ∧ ∃ n, w' = (w.drewN m).drewN n) := Lib.hid (fun m => by have := HI.out m; rwa [decide_eq_true hxy] at this)
          have HY2 := Lib.hid (HY.out hxy)
          clear hxy HY HN
          go_wp2
          refine wp_region_quiet_lit (by kernel_rfl) (by kernel_rfl) ?_
          repeat go_big_quiet_step (((go_at_call 25; exact quiet_of2 (HI.out _))))
          refine wpQuiet_nil ?_
          rintro _ ⟨nq, rfl⟩
          go_wp2
          go_roundw
          case rel => exact ⟨k + 1, n + nq, by omega, by go_num, (by first | rfl | exact World.drewN_drewN _ _ _), HY2⟩
          case measure => simp [intOf]; omega
        · replace HI : Hid (∀ m, Calls Tryd.prog 25 #[.slice B1 X.length c1, .slice B2 Y.length c2] (w.drewN m) fun e w' => e = .returned (.bool false) ∧ ∃ n, w' = (w.drewN m).drewN n) := Lib.hid (fun m => by have := HI.out m; rwa [decide_eq_false hxy] at this)
          have HN2 := Lib.hid (HN.out hxy)
          clear hxy HY HN
          go_wp2
          refine wp_region_quiet_lit (by kernel_rfl) (by kernel_rfl) ?_
          repeat go_big_quiet_step (((go_at_call 25; exact quiet_of2 (HI.out _))))
          refine wpQuiet_nil ?_
          rintro _ ⟨nq, rfl⟩
          go_wp2
          go_ret
          exact ⟨ret_bool HN2.out.symm, n + nq, World.drewN_drewN _ _ _⟩
      · obtain rfl : k = L.length := by omega
        have g1 : decide (L.length < L.length) = false := decide_eq_false hlt
        go_wp2
        go_ret
        refine ⟨ret_bool ?_, n, rfl⟩
        symm; apply decide_eq_true; exact ext_getl HLM.out (fun i hi => HJ.out i hi)
  · have hl2 : ((L.length : Int) != M.length) = true := by simp; omega
    go_enter Tryd.func40, Tryd.ntmps40
    go_wp2
    go_ret
    refine ⟨ret_bool ?_, 0, rfl⟩
    symm; apply decide_eq_false; rintro rfl; exact hlm rfl
end Go.Proofs.YtignbpipdfjkeaaDoor
