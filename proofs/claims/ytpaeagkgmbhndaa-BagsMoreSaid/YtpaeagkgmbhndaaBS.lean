/- One more edge: the density, the height and the core numbers. -/
import Derived.Test.YtpaeagkgmbhndaaBR
namespace Go.Proofs.Ytpaeagkgmbhndaa
open Go.RowKit
set_option maxHeartbeats 1000000
set_option maxRecDepth 100000
theorem insT_snoc (es : List (Int × Int)) (e : Int × Int) (xs : List Int) : ∀ k, k ≤ es.length → insT (es ++ [e]) xs k = insT es xs k := by
  intro k
  induction k with
  | zero => intro _; rfl
  | succ k ih =>
    intro hk
    have h1 : pA (es ++ [e]) k = pA es k := by unfold pA; rw [List.getD_eq_getElem?_getD, List.getD_eq_getElem?_getD, List.getElem?_append_left (by omega)]
    have h2 : pB (es ++ [e]) k = pB es k := by unfold pB; rw [List.getD_eq_getElem?_getD, List.getD_eq_getElem?_getD, List.getElem?_append_left (by omega)]
    rw [insT, insT, ih (by omega), h1, h2]
/-- Two graphs, the second with one more edge. -/
structure OneMore (m : Nat) (es : List (Int × Int)) (e : Int × Int) (gs gs2 : List Nat) : Prop where
  h1 : readF m es = some gs
  h2 : readF m (es ++ [e]) = some gs2
theorem OneMore.ends {m : Nat} {es : List (Int × Int)} {e : Int × Int} {gs gs2 : List Nat} (o : OneMore m es e gs gs2) {T : Nat} (hT : T < 65536) : endsOf gs T (ms T) / 2 ≤ endsOf gs2 T (ms T) / 2 ∧ endsOf gs2 T (ms T) / 2 ≤ endsOf gs T (ms T) / 2 + 1 := by
  rw [ends_ins o.h1 (xs := natI (ms T)) (fun v => ms_has hT), ends_ins o.h2 (xs := natI (ms T)) (fun v => ms_has hT)]
  rw [List.length_append, List.length_singleton, insT, insT_snoc es e _ es.length (Nat.le_refl _)]
  split <;> omega
theorem OneMore.has {m : Nat} {es : List (Int × Int)} {e : Int × Int} {gs gs2 : List Nat} (o : OneMore m es e gs gs2) {u v : Nat} (h : sHas (near gs u) v = true) : sHas (near gs2 u) v = true := by
  obtain ⟨x, hx, h3⟩ := (readF_has o.h1 u v).1 h
  exact (readF_has o.h2 u v).2 ⟨x, List.mem_append_left _ hx, h3⟩
theorem OneMore.new {m : Nat} {es : List (Int × Int)} {e : Int × Int} {gs gs2 : List Nat} (o : OneMore m es e gs gs2) (u : Nat) : ∃ x : Nat, ∀ v : Nat, sHas (near gs2 u) v = true → sHas (near gs u) v = true ∨ v = x := by
  refine ⟨if e.1 = (u : Int) then e.2.toNat else e.1.toNat, fun v hv => ?_⟩
  obtain ⟨x, hx, h3⟩ := (readF_has o.h2 u v).1 hv
  rcases List.mem_append.1 hx with h | h
  · exact .inl ((readF_has o.h1 u v).2 ⟨x, h, h3⟩)
  · right
    have hxe : x = e := by simpa using h
    subst hxe
    have ne := readF_edges o.h2 (k := es.length) (by simp)
    have ea : pA (es ++ [x]) es.length = x.1 := by unfold pA; simp
    have eb : pB (es ++ [x]) es.length = x.2 := by unfold pB; simp
    rw [ea, eb] at ne
    rcases h3 with ⟨a, b⟩ | ⟨a, b⟩
    · rw [if_pos (by omega)]; omega
    · rw [if_neg (by omega)]; omega
theorem OneMore.nbs {m : Nat} {es : List (Int × Int)} {e : Int × Int} {gs gs2 : List Nat} (o : OneMore m es e gs gs2) (T u : Nat) : nb gs T u ≤ nb gs2 T u ∧ nb gs2 T u ≤ nb gs T u + 1 := by
  constructor
  · unfold nb
    refine pc_mono fun v hv h => ?_
    have b1 : sHas (sAnd (near gs u) T) v = ((near gs u).testBit v && T.testBit v) := sAnd_bit _ _ _
    have b2 : sHas (sAnd (near gs2 u) T) v = ((near gs2 u).testBit v && T.testBit v) := sAnd_bit _ _ _
    rw [b1] at h
    rw [b2]
    simp only [Bool.and_eq_true] at h ⊢
    exact ⟨o.has h.1, h.2⟩
  · have key : (nb gs2 T u : Int) ≤ nb gs T u + 1 := by
      rw [nb_sum, nb_sum]
      obtain ⟨x, hx⟩ : ∃ x : Nat, ∀ v : Nat, sHas (near gs2 u) v = true → sHas (near gs u) v = true ∨ v = x := o.new u
      have h3 : sumN 16 (fun v => if sHas T v = true ∧ sHas (near gs2 u) v = true then 1 else 0) ≤ sumN 16 (fun v => (if sHas T v = true ∧ sHas (near gs u) v = true then 1 else 0) + (if v = x then 1 else 0)) := by
        refine sumN_mono 16 fun v _ => ?_
        by_cases a : sHas T v = true ∧ sHas (near gs2 u) v = true
        · rcases hx v a.2 with b | b
          · rw [if_pos a, if_pos ⟨a.1, b⟩]; split <;> omega
          · rw [if_pos a, if_pos b]; split <;> omega
        · rw [if_neg a]; split <;> split <;> omega
      rw [sumN_add, sumN_one] at h3
      have h4 : (if x < 16 then (1 : Int) else 0) ≤ 1 := by split <;> omega
      omega
    omega
theorem dens_up {m : Nat} {es : List (Int × Int)} {e : Int × Int} {gs gs2 : List Nat} (o : OneMore m es e gs gs2) {s p q s2 p2 q2 : Nat} (D : Dens m gs s p q) (D2 : Dens m gs2 s2 p2 q2) : p * q2 ≤ p2 * q := by
  obtain ⟨q0, _, _, h4⟩ := den_terms D.lt D.ne D.den
  have h5 := D2.up s D.lt D.sub
  have h6 := (o.ends D.lt).1
  have hp := pc_pos D.lt D.ne
  refine Nat.le_of_mul_le_mul_right (c := pc 16 s) ?_ hp
  calc p * q2 * pc 16 s = q * (q2 * (endsOf gs s (ms s) / 2)) := by rw [show p * q2 * pc 16 s = q2 * (p * pc 16 s) by ac_rfl, h4]; ac_rfl
    _ ≤ q * (q2 * (endsOf gs2 s (ms s) / 2)) := Nat.mul_le_mul_left _ (Nat.mul_le_mul_left _ h6)
    _ ≤ q * (p2 * pc 16 s) := Nat.mul_le_mul_left _ h5
    _ = p2 * q * pc 16 s := by ac_rfl
theorem dens_by {m : Nat} {es : List (Int × Int)} {e : Int × Int} {gs gs2 : List Nat} (o : OneMore m es e gs gs2) {s p q s2 p2 q2 : Nat} (D : Dens m gs s p q) (D2 : Dens m gs2 s2 p2 q2) : p2 * q < p * q2 + q * q2 := by
  obtain ⟨q0, _, _, h4⟩ := den_terms D2.lt D2.ne D2.den
  have hq := D.q0
  have h5 := D.up s2 D2.lt D2.sub
  have h6 := (o.ends D2.lt).2
  have hp := pc_pos D2.lt D2.ne
  have hqq : 0 < q * q2 := Nat.mul_pos hq q0
  generalize endsOf gs2 s2 (ms s2) / 2 = E2 at *
  generalize endsOf gs s2 (ms s2) / 2 = E at *
  have h7 : p2 * q * pc 16 s2 ≤ p * q2 * pc 16 s2 + q * q2 := by
    calc p2 * q * pc 16 s2 = q * q2 * E2 := by rw [show p2 * q * pc 16 s2 = q * (p2 * pc 16 s2) by ac_rfl, h4]; ac_rfl
      _ ≤ q * q2 * (E + 1) := Nat.mul_le_mul_left _ h6
      _ = q2 * (q * E) + q * q2 := by rw [Nat.mul_add, Nat.mul_one]; congr 1; ac_rfl
      _ ≤ q2 * (p * pc 16 s2) + q * q2 := Nat.add_le_add_right (Nat.mul_le_mul_left _ h5) _
      _ = p * q2 * pc 16 s2 + q * q2 := by congr 1; ac_rfl
  by_cases hn : pc 16 s2 = 1
  · obtain ⟨v, hv⟩ := List.exists_mem_of_ne_nil _ (ms_ne D2.lt D2.ne)
    obtain ⟨hv16, hvs⟩ := mem_ms.1 hv
    have h8 := dens_deg o.h2 D2 hv16 hvs
    have h9 := pc_without D2.lt hv16 hvs
    have h10 : nb gs2 s2 v ≤ pc 16 (sWithout s2 v) := by
      unfold nb
      refine pc_mono fun u hu h => ?_
      have b2 : sHas (sAnd (near gs2 v) s2) u = ((near gs2 v).testBit u && s2.testBit u) := sAnd_bit _ _ _
      rw [b2] at h
      simp only [Bool.and_eq_true] at h
      have hir := readF_hir o.h2 v
      unfold sHas at hir ⊢
      rw [without_bit s2 v u D2.lt hv16]
      have hne : ¬ v = u := fun e => by subst e; rw [hir] at h; exact absurd h.1 (by simp)
      simp [h.2, hne]
    have h11 : nb gs2 s2 v = 0 := by omega
    rw [h11, Nat.zero_mul] at h8
    have : p2 = 0 := by omega
    subst this
    omega
  · have h12 : 2 ≤ pc 16 s2 := by omega
    refine Nat.lt_of_mul_lt_mul_right (a := pc 16 s2) ?_
    rw [Nat.add_mul]
    have : q * q2 * 2 ≤ q * q2 * pc 16 s2 := Nat.mul_le_mul_left _ h12
    omega
theorem ceil_up {p q p2 q2 : Nat} (hq : 0 < q) (hq2 : 0 < q2) (h : p * q2 ≤ p2 * q) : (p + q - 1) / q ≤ (p2 + q2 - 1) / q2 := by
  refine Nat.le_of_lt_succ ((Nat.div_lt_iff_lt_mul hq).2 ?_)
  have h1 := Nat.div_add_mod (p2 + q2 - 1) q2
  have h2 := Nat.mod_lt (p2 + q2 - 1) hq2
  generalize (p2 + q2 - 1) / q2 = G at *
  have h3 : p2 ≤ q2 * G := by omega
  have h4 : p ≤ G * q := by
    refine Nat.le_of_mul_le_mul_right (c := q2) ?_ hq2
    calc p * q2 ≤ p2 * q := h
      _ ≤ q2 * G * q := Nat.mul_le_mul_right _ h3
      _ = G * q * q2 := by ac_rfl
  have : (G + 1) * q = G * q + q := Nat.succ_mul G q
  show p + q - 1 < (G + 1) * q
  omega
theorem ceil_by {p q p2 q2 : Nat} (hq : 0 < q) (hq2 : 0 < q2) (h : p2 * q < p * q2 + q * q2) : (p2 + q2 - 1) / q2 ≤ (p + q - 1) / q + 1 := by
  have h1 : (p2 + q2 - 1) / q2 ≤ (p + q + q - 1) / q := ceil_up hq2 hq (by rw [Nat.add_mul]; omega)
  have h2 : (p + q + q - 1) / q = (p + q - 1) / q + 1 := by
    rw [show p + q + q - 1 = (p + q - 1) + q by omega, Nat.add_div_right _ hq]
  omega
theorem core_up {m : Nat} {es : List (Int × Int)} {e : Int × Int} {gs gs2 : List Nat} (o : OneMore m es e gs gs2) {v : Nat} (hv : v < m) : getn (coreF m gs) v ≤ getn (coreF m gs2) v ∧ getn (coreF m gs2) v ≤ getn (coreF m gs) v + 1 := by
  obtain ⟨hm1, hm2, _, hI⟩ := readF_ok o.h1
  obtain ⟨_, _, _, hI2⟩ := readF_ok o.h2
  have hm : m ≤ 16 := by omega
  constructor
  · rcases (core_iff hI hm hv (getn (coreF m gs) v)).1 (Nat.le_refl _) with h | ⟨T, a, b, c, d⟩
    · omega
    · exact (core_iff hI2 hm hv _).2 (.inr ⟨T, a, b, c, fun u hu hT => Nat.le_trans (d u hu hT) (o.nbs T u).1⟩)
  · rcases (core_iff hI2 hm hv (getn (coreF m gs2) v)).1 (Nat.le_refl _) with h | ⟨T, a, b, c, d⟩
    · omega
    · have := (core_iff hI hm hv (getn (coreF m gs2) v - 1)).2 (.inr ⟨T, a, b, c, fun u hu hT => by have := d u hu hT; have := (o.nbs T u).2; omega⟩)
      omega
end Go.Proofs.Ytpaeagkgmbhndaa
