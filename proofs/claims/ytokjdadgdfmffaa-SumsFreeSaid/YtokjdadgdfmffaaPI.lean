/- SumsFree returns true for every input: for any list, any list of lists and any further list. No condition. -/
import Derived.Test.YtokjdadgdfmffaaPH
import Derived.Test.YtokjdadgdfmffaaKR
namespace Go.Proofs.Ytokjdadgdfmffaa
open Go.ChangeShapes Go.WideShapes Go.ChangeAt Go.RowKit
set_option maxRecDepth 100000
theorem sumsFree_lifted (os : Os) (started : os.Started) (H : Type) (enc : TypeId × Value → H) :
    ReturnsInHanded {} Try.checked os 9 .any (Rows.sumsFreeSpec.pre6 enc Try.prog Try.f9 Rows.sumsFreeRow.domain false) (Rows.sumsFreeSpec.post enc Try.prog Try.f9 false true false false) := by
  refine returnsInHanded_of_change (C := Try.checked) Try.own started (by kernel_rfl) Try.func9
    (ChangeSpec.witness6 (enc := enc) (C := Try.checked) false ⟨#[], #[.slice none 0 0, .slice none 0 0, .slice none 0 0], []⟩ 8 (by kernel_rfl) (by kernel_rfl) (by kernel_rfl) (by kernel_rfl)) ?_
  intro W base args ds gs before hval0 hW hcnd _
  have hval : ∀ (j : Nat) t v, Try.f9.params[j]? = some t → args[j]? = some v → Value.okWide Try.prog W .any base t v := hval0
  have hW' := hW
  obtain ⟨p, q, hA0, hV, rfl, hfz, hnd⟩ := hW
  have hA : DataW.TrodAll enc Try.prog W 0 (fun _ => true) true Try.f9.params.toList args.toList ds p := hA0
  rw [Try.params9] at hA hval
  obtain ⟨v0, v1, v2, d0, d1, d2, p0, p1, p2, rfl, rfl, rfl, h0, h1, h2⟩ := trodAll_three hA
  obtain ⟨rfl, rfl⟩ := trodVars_none hV
  obtain ⟨A0, c0, xs0, rfl, hx0, hc0, ha0⟩ := open_list Try.underlying22 (hval 0 22 v0 rfl rfl) h0
  obtain ⟨A1, c1, L1, rfl, hx1, hc1, ha1⟩ := open_rows (hval 1 23 v1 rfl rfl) h1
  obtain ⟨A2, c2, xs2, rfl, hx2, hc2, ha2⟩ := open_list Try.underlying22 (hval 2 22 v2 rfl rfl) h2
  refine (SumsFree_any A0 c0 xs0 A1 c1 L1 A2 c2 xs2 W hx0 hc0 ha0 hx1 hc1 ha1 hx2 hc2 ha2).mono fun e W' ⟨he, hg⟩ => ?_
  subst he
  exact ⟨_, rfl, law_post Try.laidOut Try.underlying4 rfl rfl (by rw [Try.params9]; exact of_decide_eq_true (by kernel_rfl)) hW' rfl rfl rfl hg⟩
theorem sumsFree_holds : Rows.SumsFreeSaid :=
  OpenClaim.holds_of_wide 9 Try.f9 rfl rfl rfl rfl rfl rfl rfl ⟨rfl, rfl, rfl, rfl, rfl⟩ rfl rfl rfl rfl rfl (by kernel_rfl) Try.func9 (by kernel_rfl)
    (of_decide_eq_true (by kernel_rfl)) (by unfold Func.isWrapper; first | (rw [if_pos (by decide +kernel)]; kernel_rfl) | (rw [if_neg (by decide +kernel)]; exact ⟨rfl, rfl⟩))
    (fun os started H enc _ => sumsFree_lifted os started H enc)
#print axioms sumsFree_holds
end Go.Proofs.Ytokjdadgdfmffaa
