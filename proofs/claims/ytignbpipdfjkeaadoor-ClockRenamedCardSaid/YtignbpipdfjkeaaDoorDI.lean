/- ClockRenamed returns true for every input: a machine with renamed states is the same, with the same words for Reset and Rank; Same is symmetric. The library's table deBruijn32tab is as its own text lays it, which the card ties. No further condition. -/
import Derived.Test.YtignbpipdfjkeaaDoorDH
namespace Go.Proofs.YtignbpipdfjkeaaDoor
open Go.ChangeShapes Go.WideShapes Go.ChangeAt Go.RowKit
set_option maxRecDepth 100000
theorem clockRenamed_door (os : Os) (args : Array Value) : laidMetH Tryd.prog [("math/bits.deBruijn32tab", Rows.laid_math_bits_deBruijn32tab)] ((World.doorLaid Tryd.prog 400 os).forCall (fun _ _ => 0) ⟨#[], args, []⟩).memory :=
  laidMetH_of_parts3 (fuel := 8) (laidMet_of_run' 8 (by kernel_rfl) (by kernel_rfl)) (by kernel_rfl) (by kernel_rfl)
theorem clockRenamed_lifted (os : Os) (started : os.Started) (H : Type) (enc : TypeId × Value → H) :
    ReturnsInHanded {} Tryd.checked os 14 .any (fun w args => (Rows.clockRenamedSpec.pre enc Tryd.prog Tryd.f14 [] false w args ∧ laidMetH Tryd.prog [("math/bits.deBruijn32tab", Rows.laid_math_bits_deBruijn32tab)] w) ∧ sizedMet enc Tryd.prog Tryd.f14 (OpenSpec.ofChange Rows.clockRenamedSpec) false w args)
      (Rows.clockRenamedSpec.post enc Tryd.prog Tryd.f14 false true false false) := by
  refine returnsInHanded_of_change_and (C := Tryd.checked) (X := fun w _ => laidMetH Tryd.prog [("math/bits.deBruijn32tab", Rows.laid_math_bits_deBruijn32tab)] w) (fun _ _ _ hh h => h.of_heap hh) Tryd.own started (by kernel_rfl) Tryd.func14
    (ChangeSpec.witness_shaped (enc := enc) (C := Tryd.checked) (os := os) (X := fun w _ => laidMetH Tryd.prog [("math/bits.deBruijn32tab", Rows.laid_math_bits_deBruijn32tab)] w) false (World.doorLaid Tryd.prog 400 os) #[.slice none 0 0, .slice none 0 0, .slice none 0 0] 8 rfl (World.shaped_of_RefB (by kernel_rfl) (by kernel_rfl)) (by kernel_rfl) (by kernel_rfl) (by kernel_rfl) (clockRenamed_door os _)) ?_
  intro W base args ds gs before hval0 hW _ _ hL _
  have hval : ∀ (j : Nat) t v, Tryd.f14.params[j]? = some t → args[j]? = some v → Value.okWide Tryd.prog W .any base t v := hval0
  have hW' := hW
  obtain ⟨p, q, hA0, hV, rfl, hfz, hnd⟩ := hW
  have hA : DataW.TrodAll enc Tryd.prog W 0 (fun _ => true) true Tryd.f14.params.toList args.toList ds p := hA0
  rw [Tryd.params14] at hA hval
  obtain ⟨v0, v1, v2, d0, d1, d2, p0, p1, p2, rfl, rfl, rfl, h0, h1, h2⟩ := trodAll_three hA
  obtain ⟨rfl, rfl⟩ := trodVars_none hV
  obtain ⟨A0, c0, L0, rfl, hx0, hc0, ha0⟩ := open_rows (hval 0 22 v0 rfl rfl) h0
  obtain ⟨A1, c1, L1, rfl, hx1, hc1, ha1⟩ := open_rows (hval 1 22 v1 rfl rfl) h1
  obtain ⟨A2, c2, xs2, rfl, hx2, hc2, ha2⟩ := open_list Tryd.underlying29 (hval 2 29 v2 rfl rfl) h2
  refine (clockRenamed_any A0 c0 L0 A1 c1 L1 A2 c2 xs2 W (tabW_of_laid hL) hx0 hc0 ha0 hx1 hc1 ha1 hx2 hc2 ha2).mono fun e W' ⟨he, hg⟩ => ?_
  subst he
  exact ⟨_, rfl, law_post Tryd.laidOut Tryd.underlying4 rfl rfl (by rw [Tryd.params14]; exact of_decide_eq_true (by kernel_rfl)) hW' rfl rfl rfl hg⟩
theorem clockRenamed_row : Rows.ClockRenamedSaid :=
  OpenClaim.holds_of_wide 14 Tryd.f14 rfl rfl rfl rfl rfl rfl rfl ⟨rfl, rfl, rfl, rfl, rfl⟩ rfl rfl rfl rfl rfl (by kernel_rfl) Tryd.func14 (by kernel_rfl)
    (of_decide_eq_true (by kernel_rfl)) (by unfold Func.isWrapper; first | (rw [if_pos (by decide +kernel)]; kernel_rfl) | (rw [if_neg (by decide +kernel)]; exact ⟨rfl, rfl⟩))
    (fun os started H enc _ => clockRenamed_lifted os started H enc)
theorem clockRenamed_holds : Rows.ClockRenamedCardSaid :=
  Claim7.holds_tied_plain_at .later [] [.data] true (true, "dae96c157a7416e6103e997949d173cb0a13d75e759545db3897f8017f8c95d1") false
    clockRenamed_row (fun _ h => by cases h) (by kernel_rfl) (fun _ h => by cases h) clockRenamed_row_tie rfl ⟨rfl, rfl⟩ (by kernel_rfl) rfl
    (fun f fn hf hfn => by
      obtain rfl : f = 14 := Option.some.inj ((show Tryd.prog.funcNamed "lampbox/lampboxlaw10.ClockRenamed" = some 14 by kernel_rfl).symm.trans hf) |>.symm
      obtain rfl : fn = Tryd.f14 := (Option.some.inj (Tryd.func14.symm.trans hfn)).symm
      exact ⟨by kernel_rfl, fun j t ht => by
        rw [Tryd.params14] at ht
        rcases j with _ | j
        · obtain rfl : t = 22 := by simpa using ht.symm
          exact (show Tryd.prog.wantsStandIn 22 = false by kernel_rfl)
        · rcases j with _ | j
          · obtain rfl : t = 22 := by simpa using ht.symm
            exact (show Tryd.prog.wantsStandIn 22 = false by kernel_rfl)
          · rcases j with _ | j
            · obtain rfl : t = 29 := by simpa using ht.symm
              exact (show Tryd.prog.wantsStandIn 29 = false by kernel_rfl)
            · simp at ht⟩)
    (by kernel_rfl)
#print axioms clockRenamed_holds
end Go.Proofs.YtignbpipdfjkeaaDoor
