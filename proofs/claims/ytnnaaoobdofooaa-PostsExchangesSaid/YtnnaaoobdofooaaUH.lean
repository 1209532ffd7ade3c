/- PostsExchanges returns true for every input: exchanging rows with columns, or two rows, does not change the permanent, and adding a row to another one adds the permanent of the table with two equal rows (at most 7 rows, numbers of at most 4). No condition. -/
import Derived.Test.YtnnaaoobdofooaaUG
import Derived.Test.YtnnaaoobdofooaaRQ
namespace Go.Proofs.Ytnnaaoobdofooaa
open Go.ChangeShapes Go.WideShapes Go.ChangeAt Go.RowKit
set_option maxRecDepth 100000
theorem postsExchanges_lifted (os : Os) (started : os.Started) (H : Type) (enc : TypeId × Value → H) :
    ReturnsInHanded {} Try.checked os 12 .any (Rows.postsExchangesSpec.pre6 enc Try.prog Try.f12 Rows.postsExchangesRow.domain false) (Rows.postsExchangesSpec.post enc Try.prog Try.f12 false true false false) := by
  refine returnsInHanded_of_change (C := Try.checked) Try.own started (by kernel_rfl) Try.func12
    (ChangeSpec.witness6 (enc := enc) (C := Try.checked) false ⟨#[], #[.int .i64 0, .slice none 0 0, .agg #[.int .i64 0, .int .i64 0]], []⟩ 8 (by kernel_rfl) (by kernel_rfl) (by kernel_rfl) (by kernel_rfl)) ?_
  intro W base args ds gs before hval0 hW hcnd _
  have hval : ∀ (j : Nat) t v, Try.f12.params[j]? = some t → args[j]? = some v → Value.okWide Try.prog W .any base t v := hval0
  have hW' := hW
  obtain ⟨p, q, hA0, hV, rfl, hfz, hnd⟩ := hW
  have hA : DataW.TrodAll enc Try.prog W 0 (fun _ => true) true Try.f12.params.toList args.toList ds p := hA0
  rw [Try.params12] at hA hval
  obtain ⟨v0, v1, v2, d0, d1, d2, p0, p1, p2, rfl, rfl, rfl, h0, h1, h2⟩ := trodAll_three hA
  obtain ⟨rfl, rfl⟩ := trodVars_none hV
  obtain ⟨n0, rfl, rfl, rfl, -⟩ := open_int Try.underlying3 (hval 0 3 v0 rfl rfl) h0
  obtain ⟨A1, c1, L1, rfl, hx1, hc1, ha1⟩ := open_rows (hval 1 22 v1 rfl rfl) h1
  obtain ⟨x2, y2, rfl⟩ := open_arr2 (hval 2 36 v2 rfl rfl) h2
  refine (PostsExchanges_any n0 A1 c1 L1 x2 y2 W hx1 hc1 ha1).mono fun e W' ⟨he, hg⟩ => ?_
  subst he
  exact ⟨_, rfl, law_post Try.laidOut Try.underlying4 rfl rfl (by rw [Try.params12]; exact of_decide_eq_true (by kernel_rfl)) hW' rfl rfl rfl hg⟩
theorem postsExchanges_holds : Rows.PostsExchangesSaid :=
  OpenClaim.holds_of_wide 12 Try.f12 rfl rfl rfl rfl rfl rfl rfl ⟨rfl, rfl, rfl, rfl, rfl⟩ rfl rfl rfl rfl rfl (by kernel_rfl) Try.func12 (by kernel_rfl)
    (of_decide_eq_true (by kernel_rfl)) (by unfold Func.isWrapper; first | (rw [if_pos (by decide +kernel)]; kernel_rfl) | (rw [if_neg (by decide +kernel)]; exact ⟨rfl, rfl⟩))
    (fun os started H enc _ => postsExchanges_lifted os started H enc)
#print axioms postsExchanges_holds
end Go.Proofs.Ytnnaaoobdofooaa
