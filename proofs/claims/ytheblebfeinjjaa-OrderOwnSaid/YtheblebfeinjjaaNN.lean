/- The table of the statistics. -/
import Derived.Test.YtheblebfeinjjaaNM
import Derived.Test.YtheblebfeinjjaaNK
import Derived.Maps.Own
import Derived.Maps.OwnOps
import Derived.Maps.OwnSet
import Derived.Maps.Views
import Derived.Maps.Keyed
namespace Go.Proofs.Ytheblebfeinjjaa
open Go.RowKit Go.Maps
set_option maxHeartbeats 1000000
set_option maxRecDepth 100000
theorem law68 : Keyed Try.prog 68 := int_keyed Try.underlying68
/-- How a function is read. -/
def fnR : Value → Option (DataW Unit × List MemPlace)
  | .func (.func k) a b => if a.size = 0 ∧ b.size = 0 then some (.lit (.int .i64 k), []) else some (.agg [], [])
  | _ => some (.agg [], [])
theorem fnR_inv {v : Value} {k : Nat} {ps : List MemPlace} (h : fnR v = some (.lit (.int .i64 k), ps)) : v = .func (.func k) #[] #[] := by
  unfold fnR at h
  split at h
  · rename_i k' a b
    split at h
    · rename_i e
      injection h with h; injection h with h; injection h with h; injection h with _ h
      have := Int.ofNat.inj h
      subst this
      rw [Array.eq_empty_of_size_eq_zero e.1, Array.eq_empty_of_size_eq_zero e.2]
    · injection h with h; injection h with h; cases h
  · injection h with h; injection h with h; cases h
theorem wf_i64 {x : Int} (h1 : -9223372036854775808 ≤ x) (h2 : x ≤ 9223372036854775807) : (Lit.int .i64 x).wf = true := by
  simp [Lit.wf]
  exact ⟨h1, h2⟩
theorem key68 {i : Nat} (h : i < 6) : keyOf Try.prog 68 (.int .i64 i) = some (.int .i64 i) := keyOf_int_mk Try.underlying68 (wf_i64 (by omega) (by omega))
/-- Block g is the map of the statistics. -/
def StatAt (W : World) (g : Nat) : Prop := ∃ obj, W.heap[g]? = some obj ∧ ∀ (V : World), V.heap[g]? = some obj → ∀ i : Nat, i < 6 → (Instr.lookup 65 (.map (some g)) (.int .i64 i) false).run Try.prog V = .ok (.func (.func (83 + i)) #[] #[]) V
theorem statAt_of {W : World} {g : Nat} {D : DataW Unit} (h : W.ownsMap Try.prog 68 fnR g 6 D) (hD : ∀ i : Nat, i < 6 → D.atKey (.int .i64 i) (.agg []) = .lit (.int .i64 ((83 + i : Nat) : Int))) : StatAt W g := by
  obtain ⟨es, clock, hb, F, hs, e⟩ := h
  refine ⟨_, hb, fun V hV i hi => ?_⟩
  have h2 : V.ownsMap Try.prog 68 fnR g 6 D := ⟨es, clock, hV, F, hs, e⟩
  obtain ⟨v, ps, hrun, hv⟩ := h2.lookup law68 Try.underlying65 (z := .nilFunc) (Try.zeroValue67 V) (zd := .agg []) (zp := []) rfl (key68 hi)
  rw [hD i hi] at hv
  rw [hrun, fnR_inv hv]
theorem keyLit_int (x : Int) : WideAt.IsKeyLit (.int .i64 x) := trivial
theorem statistics_any (w : World) : Calls Try.prog 71 #[] w fun e w' => ∃ g, e = .returned (.map (some g)) ∧ w.heap.size ≤ g ∧ StatAt w' g ∧ Below w.heap.size w w' := by
  have hmm := @run_makeMap Try.prog
  have o0 := World.ownsMap_made w Try.prog 68 fnR
  have b0 : Below w.heap.size w (w.alloc (.map #[] 0)) := (Below.refl _ w).alloc (Nat.le_refl _) _
  have fv : ∀ k : Nat, fnR (.func (.func k) #[] #[]) = some (.lit (.int .i64 k), []) := fun k => rfl
  obtain ⟨w1, e1, o1, g1⟩ := o0.update law68 Try.underlying65 (by decide) (key68 (i := 0) (by omega)) (fv 83)
  obtain ⟨w2, e2, o2, g2⟩ := o1.update law68 Try.underlying65 (by decide) (key68 (i := 1) (by omega)) (fv 84)
  obtain ⟨w3, e3, o3, g3⟩ := o2.update law68 Try.underlying65 (by decide) (key68 (i := 2) (by omega)) (fv 85)
  obtain ⟨w4, e4, o4, g4⟩ := o3.update law68 Try.underlying65 (by decide) (key68 (i := 3) (by omega)) (fv 86)
  obtain ⟨w5, e5, o5, g5⟩ := o4.update law68 Try.underlying65 (by decide) (key68 (i := 4) (by omega)) (fv 87)
  obtain ⟨w6, e6, o6, g6⟩ := o5.update law68 Try.underlying65 (by decide) (key68 (i := 5) (by omega)) (fv 88)
  have b1 := b0.grown g1 b0.size (fun g h => by injection h with h; omega)
  have b2 := b1.grown g2 b1.size (fun g h => by injection h with h; omega)
  have b3 := b2.grown g3 b2.size (fun g h => by injection h with h; omega)
  have b4 := b3.grown g4 b3.size (fun g h => by injection h with h; omega)
  have b5 := b4.grown g5 b4.size (fun g h => by injection h with h; omega)
  have b6 := b5.grown g6 b5.size (fun g h => by injection h with h; omega)
  have HS : Hid (StatAt w6 w.heap.size) := Lib.hid (statAt_of o6 (fun i hi => by
    have m0 := o0.isMap; have m1 := o1.isMap; have m2 := o2.isMap; have m3 := o3.isMap; have m4 := o4.isMap; have m5 := o5.isMap
    match i, hi with
    | 0, _ => rw [atKey_put_other (by simp), atKey_put_other (by simp), atKey_put_other (by simp), atKey_put_other (by simp), atKey_put_other (by simp), atKey_put_same m0 (keyLit_int _)]
    | 1, _ => rw [atKey_put_other (by simp), atKey_put_other (by simp), atKey_put_other (by simp), atKey_put_other (by simp), atKey_put_same m1 (keyLit_int _)]
    | 2, _ => rw [atKey_put_other (by simp), atKey_put_other (by simp), atKey_put_other (by simp), atKey_put_same m2 (keyLit_int _)]
    | 3, _ => rw [atKey_put_other (by simp), atKey_put_other (by simp), atKey_put_same m3 (keyLit_int _)]
    | 4, _ => rw [atKey_put_other (by simp), atKey_put_same m4 (keyLit_int _)]
    | 5, _ => rw [atKey_put_same m5 (keyLit_int _)]))
  clear o0 o1 o2 o3 o4 o5 o6 g1 g2 g3 g4 g5 g6 b0 b1 b2 b3 b4 b5 fv
  rw [show ((0 : Nat) : Int) = 0 from rfl] at e1
  rw [show ((1 : Nat) : Int) = 1 from rfl] at e2
  rw [show ((2 : Nat) : Int) = 2 from rfl] at e3
  rw [show ((3 : Nat) : Int) = 3 from rfl] at e4
  rw [show ((4 : Nat) : Int) = 4 from rfl] at e5
  rw [show ((5 : Nat) : Int) = 5 from rfl] at e6
  go_enter Try.func71, Try.ntmps71
  go_wp2
  go_ret
  exact ⟨_, rfl, Nat.le_refl _, HS.out, b6⟩
end Go.Proofs.Ytheblebfeinjjaa
