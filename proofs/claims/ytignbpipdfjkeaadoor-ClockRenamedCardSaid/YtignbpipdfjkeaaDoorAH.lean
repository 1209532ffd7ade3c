/- The map of the steps of a search. -/
import Derived.Test.YtignbpipdfjkeaaDoorAG
import Derived.Test.YtignbpipdfjkeaaDoorMC
import Derived.Test.YtignbpipdfjkeaaDoorAL
import Derived.Maps.OwnSet
import Derived.Maps.Own
import Derived.Maps.OwnOps
import Derived.Maps.Views
import Derived.Maps.Keyed
namespace Go.Proofs.YtignbpipdfjkeaaDoor
open Go.RowKit
set_option maxHeartbeats 1000000
set_option maxRecDepth 100000
theorem K80 : Maps.Keyed Tryd.prog 80 := Maps.int_keyed Tryd.underlying80
theorem wf_u16 {s : Nat} (h : s < 65536) : (Lit.int .u16 (s : Int)).wf = true := by
  have h1 : IntKind.u16.min = 0 := by decide
  have h2 : IntKind.u16.max = 65535 := by decide
  simp [Lit.wf, h1, h2]; omega
theorem key80 {s : Nat} (h : s < 65536) : keyOf Tryd.prog 80 (.int .u16 s) = some (.int .u16 s) := Maps.keyOf_int_mk Tryd.underlying80 (wf_u16 h)
theorem lit_ne {a b : Nat} (h : a ≠ b) : (Lit.int .u16 (a : Int)) ≠ .int .u16 (b : Int) := fun e => by
  injection e with _ e
  exact h (by omega)
/-- A step, as it is kept. -/
def stepV (p : Nat × Nat) : Value := .agg #[.int .u16 (p.1 : Int), .int .i64 (p.2 : Int)]
def stepD (p : Nat × Nat) : DataW Unit := .agg [.lit (.int .u16 (p.1 : Int)), .lit (.int .i64 (p.2 : Int))]
/-- How a step is read. -/
def stR (v : Value) : Option (DataW Unit × List MemPlace) :=
  match v with
  | .agg a => match a.toList with
    | [.int .u16 x, .int .i64 y] => some (.agg [.lit (.int .u16 x), .lit (.int .i64 y)], [])
    | _ => none
  | _ => none
theorem stR_mk (p : Nat × Nat) : stR (stepV p) = some (stepD p, []) := rfl
theorem stR_inv {v : Value} {p : Nat × Nat} {ps : List MemPlace} (h : stR v = some (stepD p, ps)) : v = stepV p := by
  unfold stR at h
  split at h
  · rename_i a
    split at h
    · rename_i x y e
      unfold stepD at h
      injection h with h; injection h with h _; injection h with h; injection h with h1 h2
      injection h2 with h2 _
      injection h1 with h1; injection h1 with _ h1
      injection h2 with h2; injection h2 with _ h2
      unfold stepV
      rw [← h1, ← h2]
      congr 1
      exact Array.toList_inj.1 e
    · cases h
  · cases h
/-- Block g is a map of at most m steps: F says which. -/
def MapAt (W : World) (g m : Nat) (F : Nat → Option (Nat × Nat)) : Prop :=
  ∃ D, W.ownsMap (H := Unit) Tryd.prog 80 stR g m D ∧ ∀ s : Nat, s < 65536 → Maps.has D (.int .u16 (s : Int)) = (F s).isSome ∧ ∀ z, D.atKey (.int .u16 (s : Int)) z = match F s with | some p => stepD p | none => z
theorem MapAt.below {w w' : World} {g m : Nat} {F : Nat → Option (Nat × Nat)} (h : MapAt w g m F) (hb : Below w.heap.size w w') : MapAt w' g m F := by
  obtain ⟨D, ⟨es, clock, hg, x, y, z⟩, h2⟩ := h
  exact ⟨D, ⟨es, clock, (hb.block g (Array.getElem?_eq_some_iff.1 hg).1).trans hg, x, y, z⟩, h2⟩
theorem MapAt.grown {w w' : World} {g m : Nat} {F : Nat → Option (Nat × Nat)} {row : Option Nat} (h : MapAt w g m F) (hg : w.grownBy w' row) (hne : some g ≠ row) : MapAt w' g m F := by
  obtain ⟨D, h1, h2⟩ := h
  exact ⟨D, h1.kept hg hne, h2⟩
theorem MapAt.lt {w : World} {g m : Nat} {F : Nat → Option (Nat × Nat)} (h : MapAt w g m F) : g < w.heap.size := by
  obtain ⟨D, h1, h2⟩ := h
  exact h1.lt
/-- A map block is no block of cells. -/
theorem MapAt.not_row {w : World} {g m : Nat} {F : Nat → Option (Nat × Nat)} (h : MapAt w g m F) {base : Nat} {e : TypeId} {size n : Nat} {v : Value} {xs : List Value} (ho : w.ownsRow base e size v n xs) : some g ≠ v.ownBlock := by
  intro he
  obtain ⟨_, _, cs', h3⟩ := own_ge ho he.symm
  obtain ⟨D, ⟨es, clock, hg, _⟩, _⟩ := h
  rw [hg] at h3
  injection h3 with h3; cases h3
theorem zero107 (w : World) : (zeroValue 107).run Tryd.prog w = .ok (stepV (0, 0)) w := by kernel_rfl
/-- 'v, ok := steps[s]'. -/
theorem MapAt.look2 {w : World} {g m : Nat} {F : Nat → Option (Nat × Nat)} (h : MapAt w g m F) {s : Nat} (hs : s < 65536) :
    (Instr.lookup 108 (.map (some g)) (.int .u16 s) true).run Tryd.prog w = .ok (.tuple #[stepV ((F s).getD (0, 0)), .bool (F s).isSome]) w := by
  obtain ⟨D, h1, h2⟩ := h
  obtain ⟨h3, h4⟩ := h2 s hs
  obtain ⟨v, ps, hr, hv⟩ := h1.look_ok K80 Tryd.underlying108 (zero107 w) (stR_mk (0, 0)) (key80 hs)
  rw [h4] at hv
  rw [hr, h3]
  cases hF : F s with
  | none => rw [hF] at hv; rw [stR_inv hv]; rfl
  | some p => rw [hF] at hv; rw [stR_inv hv]; rfl
theorem MapAt.look {w : World} {g m : Nat} {F : Nat → Option (Nat × Nat)} (h : MapAt w g m F) {s : Nat} (hs : s < 65536) :
    (Instr.lookup 108 (.map (some g)) (.int .u16 s) false).run Tryd.prog w = .ok (stepV ((F s).getD (0, 0))) w := by
  obtain ⟨D, h1, h2⟩ := h
  obtain ⟨h3, h4⟩ := h2 s hs
  obtain ⟨v, ps, hr, hv⟩ := h1.lookup K80 Tryd.underlying108 (zero107 w) (stR_mk (0, 0)) (key80 hs)
  rw [h4] at hv
  rw [hr]
  cases hF : F s with
  | none => rw [hF] at hv; rw [stR_inv hv]; rfl
  | some p => rw [hF] at hv; rw [stR_inv hv]; rfl
/-- 'steps[t] = p'. -/
theorem MapAt.update {w : World} {g m : Nat} {F : Nat → Option (Nat × Nat)} (h : MapAt w g m F) {t : Nat} (ht : t < 65536) (hm : m < 100000) (p : Nat × Nat) :
    ∃ w', (Instr.mapUpdate 108 (.map (some g)) (.int .u16 t) (stepV p)).run Tryd.prog w = .ok () w' ∧ MapAt w' g (m + 1) (putF F t p) ∧ w.grownBy w' (some g) := by
  obtain ⟨D, h1, h2⟩ := h
  obtain ⟨w', hr, ho, hg⟩ := h1.update K80 Tryd.underlying108 (by unfold maxLen; omega) (key80 ht) (stR_mk p)
  refine ⟨w', hr, ⟨_, ho, fun s hs => ?_⟩, hg⟩
  unfold putF
  by_cases e : s = t
  · subst e
    rw [if_pos rfl]
    exact ⟨Maps.has_put_same h1.isMap (K80.key (key80 ht)) _, fun z => Maps.atKey_put_same h1.isMap (K80.key (key80 ht)) _ z⟩
  · rw [if_neg e, Maps.has_put_other (lit_ne e)]
    exact ⟨(h2 s hs).1, fun z => by rw [Maps.atKey_put_other (lit_ne e)]; exact (h2 s hs).2 z⟩
theorem mapAt_made (w : World) : MapAt (w.alloc (.map #[] 0)) w.heap.size 0 (fun _ => none) :=
  ⟨.map [], World.ownsMap_made (H := Unit) w Tryd.prog 80 stR, fun _ _ => ⟨rfl, fun _ => rfl⟩⟩
end Go.Proofs.YtignbpipdfjkeaaDoor
