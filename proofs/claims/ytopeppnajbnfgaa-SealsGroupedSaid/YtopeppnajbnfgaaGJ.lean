/- An array of four ints that comes in. -/
import Derived.Test.YtopeppnajbnfgaaGI
import Derived.Test.YtopeppnajbnfgaaGA
import Derived.OpenShut
namespace Go.Proofs.Ytopeppnajbnfgaa
open Go.ChangeShapes Go.WideShapes Go.ChangeAt Go.RowKit
set_option maxRecDepth 100000
section
variable {H : Type} {enc : TypeId × Value → H} {W : World}
theorem open_arr4 {r : Reach} {b0 : Nat} {v : Value} {d : DataW H} {p : List MemPlace} (hv : Value.okWide Try.prog W r b0 46 v) (h : DataW.Trod enc Try.prog W 0 (fun _ => true) true 46 v d p) :
    ∃ xs : List Int, v = .agg (iv xs).toArray ∧ xs.length = 4 := by
  have hc : Try.prog.cellsOf 46 = 4 := by kernel_rfl
  obtain ⟨cs, rfl, hs⟩ : ∃ cs, v = .agg cs ∧ cs.size = 4 := by
    simp only [Value.okWide, Try.underlying46] at hv
    obtain ⟨cs, h1, h2, _⟩ := hv
    exact ⟨cs, h1, by rw [h2, hc]⟩
  obtain ⟨fuel, hf⟩ := h
  obtain ⟨xs, k, _, _, _, hxl, hat⟩ := DataW.trod_array Try.underlying46 hf
  obtain ⟨l⟩ := cs
  match l, hs with
  | [c0, c1, c2, c3], _ =>
    have h0 := hat 0 (by omega)
    have h1 := hat 1 (by omega)
    have h2 := hat 2 (by omega)
    have h3 := hat 3 (by omega)
    rw [Try.cells3, List.getElem?_eq_getElem (by omega)] at h0 h1 h2 h3
    obtain ⟨y0, e0, _⟩ := DataW.trod_int Try.underlying3 h0
    obtain ⟨y1, e1, _⟩ := DataW.trod_int Try.underlying3 h1
    obtain ⟨y2, e2, _⟩ := DataW.trod_int Try.underlying3 h2
    obtain ⟨y3, e3, _⟩ := DataW.trod_int Try.underlying3 h3
    simp [Value.cells] at e0 e1 e2 e3
    exact ⟨[y0, y1, y2, y3], by rw [e0, e1, e2, e3]; rfl, rfl⟩
end
end Go.Proofs.Ytopeppnajbnfgaa
