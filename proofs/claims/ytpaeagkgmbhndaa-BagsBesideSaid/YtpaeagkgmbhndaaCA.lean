/- An array of two ints that comes in. -/
import Derived.Test.YtpaeagkgmbhndaaZK
import Derived.OpenShut
namespace Go.Proofs.Ytpaeagkgmbhndaa
open Go.ChangeShapes Go.WideShapes Go.ChangeAt Go.RowKit
set_option maxRecDepth 100000
section
variable {H : Type} {enc : TypeId × Value → H} {W : World}
theorem open_arr2 {r : Reach} {b0 : Nat} {v : Value} {d : DataW H} {p : List MemPlace} (hv : Value.okWide Try.prog W r b0 65 v) (h : DataW.Trod enc Try.prog W 0 (fun _ => true) true 65 v d p) :
    ∃ x y : Int, v = .agg #[.int .i64 x, .int .i64 y] := by
  have hc : Try.prog.cellsOf 65 = 2 := by kernel_rfl
  obtain ⟨cs, rfl, hs⟩ : ∃ cs, v = .agg cs ∧ cs.size = 2 := by
    simp only [Value.okWide, Try.underlying65] at hv
    obtain ⟨cs, h1, h2, _⟩ := hv
    exact ⟨cs, h1, by rw [h2, hc]⟩
  obtain ⟨fuel, hf⟩ := h
  obtain ⟨xs, k, _, _, _, hxl, hat⟩ := DataW.trod_array Try.underlying65 hf
  obtain ⟨l⟩ := cs
  match l, hs with
  | [c0, c1], _ =>
    have h0 := hat 0 (by omega)
    have h1 := hat 1 (by omega)
    rw [Try.cells3, List.getElem?_eq_getElem (by omega)] at h0 h1
    obtain ⟨y0, e0, _⟩ := DataW.trod_int Try.underlying3 h0
    obtain ⟨y1, e1, _⟩ := DataW.trod_int Try.underlying3 h1
    simp [Value.cells] at e0 e1
    exact ⟨y0, y1, by rw [e0, e1]⟩
end
end Go.Proofs.Ytpaeagkgmbhndaa
