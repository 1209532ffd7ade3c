/- A map from counts to places. -/
import Derived.Test.YtopeppnajbnfgaaGC
import Derived.Maps.OwnSet
import Derived.DeepKeys5
namespace Go.Proofs.Ytopeppnajbnfgaa
open Go.RowKit
set_option maxHeartbeats 1000000
set_option maxRecDepth 100000
theorem K51 : Maps.Keyed Try.prog 51 := Maps.Keyed.of_law (deep_law_gate Try.laidOut (of_decide_eq_true (by kernel_rfl)) (of_decide_eq_true (by kernel_rfl)) (by kernel_rfl) (by kernel_rfl))
theorem wf_sm {a : Int} (h : -1000000 ≤ a ∧ a ≤ 1000000) : (Lit.int .i64 a).wf = true := by
  have h1 : IntKind.i64.min = -9223372036854775808 := by decide
  have h2 : IntKind.i64.max = 9223372036854775807 := by decide
  simp [Lit.wf, h1, h2]
  omega
theorem key_one {a : Int} (h : (Lit.int .i64 a).wf = true) (d : Nat) : Try.prog.keyLits (d + 1) 3 [.int .i64 a] = some [.int .i64 a] := by
  simp [Program.keyLits, Try.underlying3, h]
theorem key51 {a b c d : Int} (ha : (Lit.int .i64 a).wf = true) (hb : (Lit.int .i64 b).wf = true) (hc : (Lit.int .i64 c).wf = true) (hd : (Lit.int .i64 d).wf = true) :
    keyOf Try.prog 51 (.agg #[.int .i64 a, .int .i64 b, .int .i64 c, .int .i64 d]) = some (.string (keyBytes [.int .i64 a, .int .i64 b, .int .i64 c, .int .i64 d])) := by
  have hk : Try.prog.keyType 51 = true := by kernel_rfl
  have c51 : Try.prog.cellsOf 51 = 4 := by kernel_rfl
  have c3 : Try.prog.cellsOf 3 = 1 := by kernel_rfl
  have hl : Try.prog.keyLits 96 51 [.int .i64 a, .int .i64 b, .int .i64 c, .int .i64 d] = some [.int .i64 a, .int .i64 b, .int .i64 c, .int .i64 d] := by
    show Program.keyLits Try.prog (94 + 1 + 1) 51 _ = _
    unfold Program.keyLits
    simp only [Try.underlying51]
    simp [c51, c3, List.range_succ, key_one ha, key_one hb, key_one hc, key_one hd]
  unfold keyOf
  rw [Try.underlying51]
  simp [hk, Value.formed, Try.underlying51, c51, Value.cells]
  exact ⟨_, hl, rfl⟩
/-- The key of four counts. -/
noncomputable def KL (x : List Int) : Lit := (keyOf Try.prog 51 (.agg (iv x).toArray)).getD (.bool false)
theorem key_sm {x : List Int} (h : Sm x) : keyOf Try.prog 51 (.agg (iv x).toArray) = some (KL x) := by
  have : ∃ l, keyOf Try.prog 51 (.agg (iv x).toArray) = some l := by
    obtain ⟨a, b, c, d, rfl⟩ := lit4 h.1
    exact ⟨_, key51 (wf_sm (h.2 0 (by omega))) (wf_sm (h.2 1 (by omega))) (wf_sm (h.2 2 (by omega))) (wf_sm (h.2 3 (by omega)))⟩
  obtain ⟨l, hl⟩ := this
  unfold KL
  rw [hl]; rfl
theorem KL_inj {x y : List Int} (hx : Sm x) (hy : Sm y) (h : KL x = KL y) : x = y := by
  have h1 := key_sm hx
  have h2 := key_sm hy
  rw [h] at h1
  have e := K51.inj h1 h2
  injection e with e
  have e2 : iv x = iv y := by have := congrArg Array.toList e; simpa using this
  refine ext_geti (by rw [hx.1, hy.1]) fun i hi => ?_
  have h3 : (iv x)[i]? = (iv y)[i]? := by rw [e2]
  have hi2 : i < y.length := by rw [hy.1, ← hx.1]; exact hi
  rw [geti_eq hi, geti_eq hi2]
  unfold iv at h3
  simp [hi, hi2] at h3
  exact h3
/-- The map behind so many places. -/
noncomputable def DM {H : Type} (s : ByteArray) : Nat → DataW H
  | 0 => .map []
  | k + 1 => (DM s k).put (KL (sumL s k)) (.lit (.int .i64 k))
theorem DM_map {H : Type} (s : ByteArray) : ∀ k, Maps.IsMap (DM (H := H) s k)
  | 0 => Maps.isMap_empty
  | k + 1 => Maps.IsMap.put (DM_map s k) _ _
theorem DM_no {H : Type} {s : ByteArray} {x : List Int} (hx : Sm x) : ∀ (k : Nat), k ≤ 1000 → (∀ j, j < k → sumL s j ≠ x) → Maps.has (DM (H := H) s k) (KL x) = false
  | 0, _, _ => rfl
  | k + 1, hk, h => by
    have h1 := h k (by omega)
    rw [DM, Maps.has_put_other (fun e => h1 (KL_inj hx (sumL_sm s (by omega)) e).symm)]
    exact DM_no hx k (by omega) (fun j hj => h j (by omega))
theorem DM_yes {H : Type} {s : ByteArray} {x : List Int} (hx : Sm x) {j : Nat} (hj : sumL s j = x) : ∀ (k : Nat), k ≤ 1000 → j < k → (∀ i, i < k → sumL s i = x → i = j) →
    Maps.has (DM (H := H) s k) (KL x) = true ∧ ∀ z, (DM (H := H) s k).atKey (KL x) z = .lit (.int .i64 j)
  | 0, _, h, _ => absurd h (by omega)
  | k + 1, hk, h, ho => by
    by_cases e : k = j
    · subst e
      rw [DM, hj]
      exact ⟨Maps.has_put_same (DM_map s k) (K51.key (key_sm hx)) _, fun z => Maps.atKey_put_same (DM_map s k) (K51.key (key_sm hx)) _ z⟩
    · have h1 : KL x ≠ KL (sumL s k) := fun e2 => e (ho k (by omega) (KL_inj hx (sumL_sm s (by omega)) e2).symm)
      have ih := DM_yes (H := H) hx hj k (by omega) (by omega) (fun i hi => ho i (by omega))
      rw [DM, Maps.has_put_other h1]
      exact ⟨ih.1, fun z => by rw [Maps.atKey_put_other h1]; exact ih.2 z⟩
/-- All counts of a chain's beginnings differ. -/
theorem cnt_all {s : ByteArray} (ho : ∀ i, i < s.size → okC s i) : ∀ p, p ≤ s.size → cnt s p 0 + cnt s p 1 + cnt s p 2 + cnt s p 3 = p
  | 0, _ => rfl
  | p + 1, hp => by
    have ih := cnt_all ho p (by omega)
    have h := ho p (by omega)
    unfold okC at h
    show (cnt s p 0 + _) + (cnt s p 1 + _) + (cnt s p 2 + _) + (cnt s p 3 + _) = _
    have : sb s p = 97 ∨ sb s p = 98 ∨ sb s p = 99 ∨ sb s p = 100 := by omega
    rcases this with h | h | h | h <;> simp [h] <;> omega
theorem sumL_inj {s : ByteArray} (ho : ∀ i, i < s.size → okC s i) {p q : Nat} (hp : p ≤ s.size) (hq : q ≤ s.size) (h : sumL s p = sumL s q) : p = q := by
  have h1 := cnt_all ho p hp
  have h2 := cnt_all ho q hq
  unfold sumL at h
  injection h with e0 h
  injection h with e1 h
  injection h with e2 h
  injection h with e3 h
  omega
end Go.Proofs.Ytopeppnajbnfgaa
