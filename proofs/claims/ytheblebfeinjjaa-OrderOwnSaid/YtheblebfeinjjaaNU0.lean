/- Counts of orders: words for the walks. -/
import Derived.Test.YtheblebfeinjjaaNT
import Derived.Test.YtheblebfeinjjaaNE
import Derived.Deep.WholeRow
namespace Go.Proofs.Ytheblebfeinjjaa
open Go.RowKit
set_option maxHeartbeats 1000000
set_option maxRecDepth 100000
def Z154 : List Nat := List.replicate 154 0
theorem info77 : (Try.prog.info? 77).map (·.size) = some 154 := by kernel_rfl
theorem info77_iv {x : List Nat} (h : x.length = 154) : (Try.prog.info? 77).map (·.size) = some (intv x).toArray.size := by rw [List.size_toArray, intv, List.length_map, h]; exact info77
theorem size77_iv {x y : List Nat} (h : x.length = 154) (h' : y.length = 154) : (intv x).toArray.size = (intv y).toArray.size := by rw [List.size_toArray, List.size_toArray, intv, intv, List.length_map, List.length_map, h, h']
theorem intv_all (xs : List Nat) : (intv xs).toArray.all (·.oneCell') = true := by simp [intv, Value.oneCell']
theorem z77 : ∀ w, (zeroValue 77).run Try.prog w = .ok (.agg (intv Z154).toArray) w := (zero_of_info (n := 154) (by kernel_rfl)).1
theorem built77 : Try.prog.built 77 [(0, .int .i64 1)] = some (intv (1 :: List.replicate 153 0)).toArray := by kernel_rfl
theorem run_index77 (Z : List Nat) (k : Nat) (hk : k < 154) (hZ : Z.length = 154) (w : World) : (Instr.index 77 (.agg (intv Z).toArray) (.int .i64 k)).run Try.prog w = .ok (.int .i64 (getn Z k)) w := by
  obtain ⟨i0, hi, hz0, hz1, hz2⟩ := info_parts info3
  have h1 : (0:Int) ≤ k ∧ (k:Int) < 154 := by omega
  have h : (intv Z)[k]? = some (.int .i64 (getn Z k)) := by
    unfold intv; rw [List.getElem?_map, List.getElem?_eq_getElem (by omega), getn_eq (by omega)]; rfl
  simp [Instr.index, asIntOf, Sem.run_bind, run_underlying Try.underlying77, sizeOf, typeInfo, hi, hz1, part, h, h1, hk]
theorem cell77_res {W : World} {k : Nat} {x : List Nat} (h : x.length = 154) (hr : Row W k 77 (intv x)) : (loadVar 77 ⟨k, 0, none⟩).run Try.prog W = .ok (.agg (intv x).toArray) W :=
  cell_res Try.underlying77 (by rw [intv, List.length_map, h]; exact info77) hr
theorem moreI_any (k p : Nat) (w : World) : Calls Try.prog 65 #[.int .i64 k, .int .i64 p] w fun e w' => e = .returned (.int .i64 (mI k p : Nat)) ∧ w = w' := by
  go_enter Try.func65, Try.ntmps65
  go_wp2
  go_ret
  exact ⟨rfl, rfl⟩
theorem moreD_any (k p : Nat) (w : World) : Calls Try.prog 66 #[.int .i64 k, .int .i64 p] w fun e w' => e = .returned (.int .i64 (mD k p : Nat)) ∧ w = w' := by
  unfold mD
  by_cases h : k < p
  · have g1 : decide (k < p) = true := decide_eq_true h
    rw [if_pos h]
    go_enter Try.func66, Try.ntmps66
    go_wp2
    go_ret
    exact ⟨rfl, rfl⟩
  · have g1 : decide (k < p) = false := decide_eq_false h
    rw [if_neg h]
    go_enter Try.func66, Try.ntmps66
    go_wp2
    go_ret
    exact ⟨rfl, rfl⟩
theorem moreC_any (k p : Nat) (w : World) : Calls Try.prog 67 #[.int .i64 k, .int .i64 p] w fun e w' => e = .returned (.int .i64 (mC k p : Nat)) ∧ w = w' := by
  unfold mC
  by_cases h : p = 0
  · subst h
    go_enter Try.func67, Try.ntmps67
    go_wp2
    go_ret
    exact ⟨rfl, rfl⟩
  · have g1 : ((p : Int) == 0) = false := by simp; omega
    rw [if_neg h]
    clear h
    go_enter Try.func67, Try.ntmps67
    go_wp2
    go_ret
    exact ⟨rfl, rfl⟩
end Go.Proofs.Ytheblebfeinjjaa
