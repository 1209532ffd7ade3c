/- Layers that come in; layers of the law's own. -/
import Derived.Test.YtnnaaoobdofooaaVF
import Derived.Test.YtnnaaoobdofooaaRQ
import Derived.Deep.SlicePairs
namespace Go.Proofs.Ytnnaaoobdofooaa
open Go.ChangeShapes Go.WideShapes Go.ChangeAt Go.RowKit
set_option maxHeartbeats 1000000
set_option maxRecDepth 100000
section
variable {H : Type} {enc : TypeId × Value → H} {W : World}
theorem open_row27 {n : Nat} {v : Value} {x : DataW H × List MemPlace} (h : DataW.trod enc Try.prog W 0 (fun _ => true) true n 27 [v] = some x) : ∃ A c xs, v = .slice A xs.length c ∧ xs.length ≤ c ∧ c ≤ maxLen ∧ IntsAt W A xs := by
  rcases open_ints Try.underlying27 Try.underlying3 Try.cells3 h with ⟨hcs, _⟩ | ⟨a, len, cap, zs, hcs, _, hl, hm, hz, _, hcell, _⟩
  · simp at hcs
    subst hcs
    exact ⟨none, 0, [], rfl, by simp, by simp, fun h => absurd h (by simp)⟩
  · simp at hcs
    subst hcs
    simp only [if_true] at hz
    have hlen : (zs.take len).length = len := by rw [List.length_take]; omega
    refine ⟨some a, cap, zs.take len, by rw [hlen], by omega, hm, fun hp => ?_⟩
    rw [hlen] at hp ⊢
    have g0 := hcell 0 (by omega)
    have hsp : a.spot = none := by
      have := World.cell?_spot g0
      simpa [Addr.add] using this
    obtain ⟨b, o, sp⟩ := a
    dsimp only at hsp
    subst hsp
    refine ⟨b, o, rfl, by have := cell_lt g0; simpa [Addr.add] using this, fun i hi => ?_⟩
    have := hcell i (by omega)
    rw [WideShapes.add_plain] at this
    rw [this, geti_take _ _ _ hi]; rfl
theorem open_lays {r : Reach} {b0 : Nat} {v : Value} {d : DataW H} {p : List MemPlace} (hv : Value.okWide Try.prog W r b0 56 v) (h : DataW.Trod enc Try.prog W 0 (fun _ => true) true 56 v d p) :
    ∃ A c ls, v = .slice A ls.length c ∧ ls.length ≤ c ∧ c ≤ maxLen ∧ LaysIn W A ls := by
  obtain ⟨A, l, c, rfl⟩ := okWide_slice Try.underlying56 hv
  obtain ⟨fuel, hf⟩ := h
  rcases Go.Deep.open_slice_pairs Try.underlying56 Try.underlying69 (by kernel_rfl) rfl rfl (by kernel_rfl) (by kernel_rfl) hf with ⟨hcs, _⟩ | ⟨a, len, cap, m, n, V0, V1, D0, D1, P0, P1, hcs, _, hl, hm, hmm, _, hx⟩
  · simp [Value.cells] at hcs
    obtain ⟨rfl, rfl, rfl⟩ := hcs
    exact ⟨none, 0, [], rfl, by simp, by simp, fun h => absurd h (by simp)⟩
  · simp [Value.cells] at hcs
    obtain ⟨rfl, rfl, rfl⟩ := hcs
    simp only [if_true] at hmm
    rw [hmm] at hx
    clear hmm
    have each : ∀ i, i < l → ∃ y : Int × Option Addr × Nat × List Int, V0 i = .int .i64 y.1 ∧ V1 i = .slice y.2.1 y.2.2.2.length y.2.2.1 ∧ y.2.2.2.length ≤ y.2.2.1 ∧ y.2.2.1 ≤ maxLen ∧ IntsAt W y.2.1 y.2.2.2 := fun i hi => by
      obtain ⟨_, _, h1, h2⟩ := hx i (by omega)
      obtain ⟨y0, e0, _⟩ := DataW.trod_int Try.underlying3 h1
      obtain ⟨B, k, xs, e1, e2, e3, e4⟩ := open_row27 h2
      exact ⟨(y0, B, k, xs), by simpa using e0, e1, e2, e3, e4⟩
    obtain ⟨y, hy⟩ := Go.Deep.choose_lt each
    have hlen : ((List.range l).map fun i => ((y i).1, (y i).2.2.2)).length = l := by simp
    refine ⟨some a, c, (List.range l).map fun i => ((y i).1, (y i).2.2.2), by rw [hlen], by omega, hm, fun hp => ?_⟩
    rw [hlen] at hp
    have g0 := (hx 0 (by omega)).1
    have hsp : a.spot = none := by
      have := World.cell?_spot g0
      simpa [Addr.add] using this
    obtain ⟨b, o, sp⟩ := a
    dsimp only at hsp
    subst hsp
    refine ⟨b, o, rfl, by have := cell_lt g0; simpa [Addr.add] using this, fun i hi => ?_⟩
    rw [hlen] at hi
    obtain ⟨c0, c1, _, _⟩ := hx i (by omega)
    obtain ⟨h1, h2, h3, h4, h5⟩ := hy i hi
    rw [WideShapes.add_plain] at c0 c1
    have hg : ((List.range l).map fun i => ((y i).1, (y i).2.2.2)).getD i (0, []) = ((y i).1, (y i).2.2.2) := by
      rw [List.getD_eq_getElem?_getD, List.getElem?_map, List.getElem?_range hi]; rfl
    unfold laW laC
    rw [hg]
    exact ⟨by rw [c0, h1], (y i).2.1, (y i).2.2.1, by rw [← h2, ← c1, Nat.add_assoc], h3, h4, h5⟩
end
/-- Layers of the law's own, in memory. -/
theorem lays_at {w : World} {B C n : Nat} {v : Value} {ps : List (Int × Value)} {ls : List Lay} (ho : w.ownsRow B 69 2 v n (lcs ps)) (hw : ps.map (·.1) = ls.map (·.1)) (hr : RowsOwn w C (ps.map (·.2)) (ls.map (·.2))) (hl : ls.length = n) (h12 : ∀ i, i < n → (laC ls i).length ≤ 12) : ∃ A c, v = .slice A n c ∧ LaysAt w A ls := by
  have hpl : ps.length = n := by have := congrArg List.length hw; simpa [hl] using this
  rcases ho.2 with ⟨rfl, h0⟩ | ⟨g, cap, cur, rfl, hb, hg, hc, _, hs, ht⟩
  · exact ⟨none, 0, by rw [h0], fun hp => by omega⟩
  · refine ⟨_, cap, rfl, fun hp => ⟨g, 0, rfl, (Array.getElem?_eq_some_iff.1 hg).1, fun i hi => ?_⟩⟩
    obtain ⟨a1, a2⟩ := lcs_at ps i (by omega)
    have c1 := ho.cells (g := g) rfl _ _ a1
    obtain ⟨u, hu, ou⟩ := hr.2 i (by simpa using hi)
    rw [hu] at a2
    have c2 := ho.cells (g := g) rfl _ _ a2
    rw [WideShapes.add_plain] at c1 c2
    have e1 : geti (ps.map (·.1)) i = laW ls i := by
      rw [hw]
      unfold geti laW
      rw [List.getD_eq_getElem?_getD, List.getD_eq_getElem?_getD, List.getElem?_map, List.getElem?_eq_getElem hi]; rfl
    have e2 : getl (ls.map (·.2)) i = laC ls i := by
      unfold getl laC
      rw [List.getD_eq_getElem?_getD, List.getD_eq_getElem?_getD, List.getElem?_map, List.getElem?_eq_getElem hi]; rfl
    rw [e1] at c1
    rw [e2] at ou
    obtain ⟨A', c', rfl, -, -, i3⟩ := own_intsI ou
    have := h12 i (by omega)
    exact ⟨c1, A', c', c2, i3, by omega⟩
theorem lyR_12 (ls : List Lay) (k i : Nat) : (laC (lyR ls k) i).length ≤ 12 := by
  unfold laC lyR
  rw [List.getD_eq_getElem?_getD, List.getElem?_map]
  cases (ls.take k)[i]? with
  | none => simp
  | some l => simp; omega
end Go.Proofs.Ytnnaaoobdofooaa
