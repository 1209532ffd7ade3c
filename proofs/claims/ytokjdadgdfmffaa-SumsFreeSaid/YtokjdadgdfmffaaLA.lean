/- Erdos, Ginzburg and Ziv: of 2n - 1 numbers, n have a sum that is a multiple of n. -/
import Derived.Test.YtokjdadgdfmffaaKU
namespace Go.Proofs.Ytokjdadgdfmffaa
/-! Erdos, Ginzburg and Ziv. -/
def Pr (p : Nat) : Prop := 2 ≤ p ∧ ∀ d : Nat, d ∣ p → d = 1 ∨ d = p
theorem pig : ∀ (p : Nat) (A : List Int), A.Nodup → (∀ a ∈ A, 0 ≤ a ∧ a < p) → A.length ≤ p
  | 0, A, _, h => by
    cases A with
    | nil => simp
    | cons a A => have := h a (by simp); omega
  | p + 1, A, hn, h => by
    by_cases hp : (p : Int) ∈ A
    · have h1 := pig p (A.erase p) (hn.erase _) (fun a ha => by
        rw [hn.mem_erase_iff] at ha
        have := h a ha.2
        omega)
      rw [List.length_erase_of_mem hp] at h1
      omega
    · have h1 := pig p A hn (fun a ha => by
        have h2 := h a ha
        have h3 : a ≠ p := fun e => hp (e ▸ ha)
        omega)
      omega
theorem pig2 : ∀ (p : Nat) (A : List Int), (∀ z : Int, 0 ≤ z → z < p → z ∈ A) → p ≤ A.length
  | 0, _, _ => Nat.zero_le _
  | p + 1, A, h => by
    have hp := h p (by omega) (by omega)
    have h1 := pig2 p (A.erase p) (fun z h0 h1 => by
      rw [List.mem_erase_of_ne (by omega)]
      exact h z h0 (by omega))
    rw [List.length_erase_of_mem hp] at h1
    have : 0 < A.length := List.length_pos_of_mem hp
    omega
theorem pig_all {p : Nat} {A : List Int} (hn : A.Nodup) (h : ∀ a ∈ A, 0 ≤ a ∧ a < p) (hl : A.length = p) {z : Int} (h0 : 0 ≤ z) (h1 : z < p) : z ∈ A := by
  rcases Decidable.em (z ∈ A) with hz | hz
  · exact hz
  · have := pig p (z :: A) (List.nodup_cons.2 ⟨hz, hn⟩) (fun a ha => by
      rcases List.mem_cons.1 ha with rfl | ha
      · exact ⟨h0, h1⟩
      · exact h a ha)
    simp only [List.length_cons] at this
    omega
theorem pr_dvd {p : Nat} (hp : Pr p) {x d : Int} (h : (p : Int) ∣ x * d) (hd : ¬ (p : Int) ∣ d) : (p : Int) ∣ x := by
  have h1 : p ∣ x.natAbs * d.natAbs := by
    have := Int.natAbs_dvd_natAbs.2 h
    rwa [Int.natAbs_mul, Int.natAbs_natCast] at this
  have hd1 : ¬ p ∣ d.natAbs := fun h => hd (Int.natAbs_dvd_natAbs.1 (by rwa [Int.natAbs_natCast]))
  have hc : Nat.Coprime p d.natAbs := by
    rcases hp.2 _ (Nat.gcd_dvd_left p d.natAbs) with h2 | h2
    · exact h2
    · exact absurd (h2 ▸ Nat.gcd_dvd_right p d.natAbs) hd1
  have h3 := hc.dvd_of_dvd_mul_right h1
  exact Int.natAbs_dvd_natAbs.1 (by rwa [Int.natAbs_natCast])
theorem emod_eq_iff {p : Nat} {a b : Int} : a % p = b % p ↔ (p : Int) ∣ a - b := by
  rw [Int.emod_eq_emod_iff_emod_sub_eq_zero]
  exact Int.dvd_iff_emod_eq_zero.symm
/-- Stepping by a number that the prime does not divide leads everywhere. -/
theorem step_out {p : Nat} (hp : Pr p) {A : List Int} {d a0 z : Int} (hd : ¬ (p : Int) ∣ d) (ha : a0 ∈ A) (ha0 : 0 ≤ a0 ∧ a0 < p) (hz : z ∉ A) (h0 : 0 ≤ z) (h1 : z < p) : ∃ a ∈ A, (a + d) % p ∉ A := by
  rcases Classical.em (∃ a ∈ A, (a + d) % p ∉ A) with h | h
  · exact h
  · exfalso
    have hp2 := hp.1
    have hc : ∀ a ∈ A, (a + d) % p ∈ A := fun a ha => Classical.byContradiction fun h2 => h ⟨a, ha, h2⟩
    have hj : ∀ j : Nat, (a0 + j * d) % p ∈ A := by
      intro j
      induction j with
      | zero => simp only [Int.natCast_zero, Int.zero_mul, Int.add_zero]; rwa [Int.emod_eq_of_lt ha0.1 ha0.2]
      | succ j ih =>
        have := hc _ ih
        rw [Int.emod_add_emod] at this
        rwa [Int.natCast_add, Int.add_mul, Int.natCast_one, Int.one_mul, ← Int.add_assoc]
    have hn : ((List.range p).map fun j : Nat => (a0 + j * d) % p).Nodup := by
      rw [List.Nodup, List.pairwise_map]
      refine List.Pairwise.imp_of_mem ?_ List.nodup_range
      intro i j hi hj hne e
      rw [emod_eq_iff] at e
      have e2 : (a0 + i * d) - (a0 + j * d) = (i - j) * d := by rw [Int.sub_mul]; omega
      rw [e2] at e
      have h3 := pr_dvd hp e hd
      have hi := List.mem_range.1 hi
      have hj := List.mem_range.1 hj
      obtain ⟨k, hk⟩ := h3
      rcases Int.lt_trichotomy k 0 with h | h | h
      · have : (p : Int) * k ≤ p * (-1) := Int.mul_le_mul_of_nonneg_left (by omega) (by omega)
        omega
      · subst h; omega
      · have : (p : Int) * 1 ≤ p * k := Int.mul_le_mul_of_nonneg_left (by omega) (by omega)
        omega
    have hm := pig_all (p := p) hn (fun a ha => by
      obtain ⟨j, _, rfl⟩ := List.mem_map.1 ha
      exact ⟨Int.emod_nonneg _ (by omega), Int.emod_lt_of_pos _ (by omega)⟩) (by simp) h0 h1
    obtain ⟨j, _, e⟩ := List.mem_map.1 hm
    exact hz (e ▸ hj j)
/-- A number of each pair is chosen. -/
def Ch {α : Type} : List (α × α) → List α → Prop
  | [], c => c = []
  | q :: ps, c => ∃ c', Ch ps c' ∧ (c = q.1 :: c' ∨ c = q.2 :: c')
theorem Ch_len {α : Type} : ∀ {ps : List (α × α)} {c : List α}, Ch ps c → c.length = ps.length
  | [], c, h => by rw [h]; rfl
  | q :: ps, c, ⟨c', h, h2⟩ => by
    have := Ch_len h
    rcases h2 with rfl | rfl <;> simp [this]
theorem Ch_rest {α : Type} : ∀ {ps : List (α × α)} {c : List α}, Ch ps c → ∃ c2, (ps.map (·.1) ++ ps.map (·.2)).Perm (c ++ c2)
  | [], c, h => by rw [h]; exact ⟨[], List.Perm.refl _⟩
  | q :: ps, c, ⟨c', h, h2⟩ => by
    obtain ⟨c2, h3⟩ := Ch_rest h
    rcases h2 with rfl | rfl
    · refine ⟨q.2 :: c2, ?_⟩
      simp only [List.map_cons, List.cons_append]
      refine List.Perm.cons _ ?_
      refine List.perm_middle.trans ?_
      refine (List.Perm.cons _ h3).trans ?_
      exact List.perm_middle.symm
    · refine ⟨q.1 :: c2, ?_⟩
      simp only [List.map_cons, List.cons_append]
      have e1 : (q.1 :: (ps.map (·.1) ++ q.2 :: ps.map (·.2))).Perm (q.1 :: q.2 :: (ps.map (·.1) ++ ps.map (·.2))) := List.Perm.cons _ List.perm_middle
      refine e1.trans ?_
      refine (List.Perm.swap _ _ _).trans ?_
      refine List.Perm.cons _ ?_
      refine (List.Perm.cons _ h3).trans ?_
      exact List.perm_middle.symm
theorem map_nodup {p : Nat} {A : List Int} (hn : A.Nodup) (h : ∀ a ∈ A, 0 ≤ a ∧ a < p) (x : Int) : (A.map fun r => (r + x) % p).Nodup := by
  rw [List.Nodup, List.pairwise_map]
  refine List.Pairwise.imp_of_mem ?_ hn
  intro a b ha hb hne e
  rw [emod_eq_iff] at e
  have e2 : (p : Int) ∣ a - b := by rwa [show a + x - (b + x) = a - b by omega] at e
  have h1 := h a ha
  have h2 := h b hb
  have e3 := emod_eq_iff.2 e2
  rw [Int.emod_eq_of_lt h1.1 h1.2, Int.emod_eq_of_lt h2.1 h2.2] at e3
  exact hne e3
theorem pairs_all {α : Type} (f : α → Int) {p : Nat} (hp : Pr p) : ∀ ps : List (α × α), (∀ q ∈ ps, ¬ (p : Int) ∣ f q.2 - f q.1) →
    ∃ A : List Int, A.Nodup ∧ (∀ a ∈ A, 0 ≤ a ∧ a < p) ∧ (A.length = p ∨ A.length = ps.length + 1) ∧ ∀ r ∈ A, ∃ c, Ch ps c ∧ (c.map f).sum % p = r
  | [], _ => by
    have := hp.1
    refine ⟨[0], by simp, by simp; omega, .inr rfl, fun r hr => ⟨[], rfl, ?_⟩⟩
    simp at hr
    subst hr
    simp
  | q :: ps, h => by
    have hp2 := hp.1
    obtain ⟨A, hn, hr, hl, hA⟩ := pairs_all f hp ps (fun q hq => h q (List.mem_cons_of_mem _ hq))
    have hle := pig p A hn hr
    have hmap : ∀ r ∈ A.map (fun r => (r + f q.1) % p), ∃ c, Ch (q :: ps) c ∧ (c.map f).sum % p = r := by
      intro r hr
      obtain ⟨s, hs, rfl⟩ := List.mem_map.1 hr
      obtain ⟨c, hc, hc2⟩ := hA s hs
      refine ⟨q.1 :: c, ⟨c, hc, .inl rfl⟩, ?_⟩
      rw [List.map_cons, List.sum_cons, ← hc2, Int.emod_add_emod, Int.add_comm]
    have hmr : ∀ a ∈ A.map (fun r => (r + f q.1) % p), 0 ≤ a ∧ a < p := by
      intro a ha
      obtain ⟨s, _, rfl⟩ := List.mem_map.1 ha
      exact ⟨Int.emod_nonneg _ (by omega), Int.emod_lt_of_pos _ (by omega)⟩
    have hmn := map_nodup hn hr (f q.1)
    by_cases hlp : A.length = p
    · exact ⟨_, hmn, hmr, .inl (by rw [List.length_map]; exact hlp), hmap⟩
    · have hz : ∃ z : Int, (0 ≤ z ∧ z < p) ∧ z ∉ A := Classical.byContradiction fun hno => by
        have := pig2 p A (fun z h0 h1 => Classical.byContradiction fun hz => hno ⟨z, ⟨h0, h1⟩, hz⟩)
        omega
      obtain ⟨z, ⟨z0, z1⟩, hz⟩ := hz
      have hpos : 0 < A.length := by rcases hl with h | h <;> omega
      have ha0 : A[0] ∈ A := List.getElem_mem _
      obtain ⟨a, ha, hout⟩ := step_out hp (h q (by simp)) ha0 (hr _ ha0) hz z0 z1
      refine ⟨A.map (fun r => (r + f q.1) % p) ++ [(a + f q.2) % p], ?_, ?_, .inr ?_, ?_⟩
      · rw [List.nodup_append]
        refine ⟨hmn, by simp, fun x hx y hy e => ?_⟩
        rw [List.mem_singleton] at hy
        subst hy
        subst e
        obtain ⟨s, hs, e⟩ := List.mem_map.1 hx
        apply hout
        have e2 := emod_eq_iff.1 e
        have e3 : (p : Int) ∣ s - (a + (f q.2 - f q.1)) := by rwa [show s - (a + (f q.2 - f q.1)) = s + f q.1 - (a + f q.2) by omega]
        have e4 := emod_eq_iff.2 e3
        rw [← e4, Int.emod_eq_of_lt (hr s hs).1 (hr s hs).2]
        exact hs
      · intro x hx
        rcases List.mem_append.1 hx with hx | hx
        · exact hmr x hx
        · rw [List.mem_singleton] at hx
          subst hx
          exact ⟨Int.emod_nonneg _ (by omega), Int.emod_lt_of_pos _ (by omega)⟩
      · rw [List.length_append, List.length_map, List.length_singleton, List.length_cons]
        rcases hl with h | h <;> omega
      · intro r hr
        rcases List.mem_append.1 hr with hr | hr
        · exact hmap r hr
        · rw [List.mem_singleton] at hr
          subst hr
          obtain ⟨c, hc, hc2⟩ := hA a ha
          refine ⟨q.2 :: c, ⟨c, hc, .inr rfl⟩, ?_⟩
          rw [List.map_cons, List.sum_cons, ← hc2, Int.emod_add_emod, Int.add_comm]
/-- So many can be chosen whose sum is a multiple. -/
def EG (n : Nat) : Prop := ∀ (α : Type) (f : α → Int) (l : List α), 2 * n - 1 ≤ l.length → ∃ s t, l.Perm (s ++ t) ∧ s.length = n ∧ (n : Int) ∣ (s.map f).sum
theorem sum_same {α : Type} (f : α → Int) {p : Nat} {r : Int} : ∀ l : List α, (∀ x ∈ l, f x % p = r) → (p : Int) ∣ (l.map f).sum - l.length * r
  | [], _ => by simp
  | x :: l, h => by
    have h1 := sum_same f l (fun y hy => h y (List.mem_cons_of_mem _ hy))
    have h2 : (p : Int) ∣ f x - r := by
      have := h x (by simp)
      rw [← this]
      exact Int.dvd_self_sub_emod
    rw [List.map_cons, List.sum_cons, List.length_cons, Int.natCast_add, Int.add_mul]
    have := Int.dvd_add h1 h2
    rwa [show (List.map f l).sum - ↑l.length * r + (f x - r) = f x + (List.map f l).sum - (↑l.length * r + ((1 : Nat) : Int) * r) by rw [Int.natCast_one, Int.one_mul]; omega] at this
theorem EG_prime {p : Nat} (hp : Pr p) : EG p := by
  intro α f l0 hl0
  have hp2 := hp.1
  -- just so many
  have hcut : l0.Perm (l0.take (2 * p - 1) ++ l0.drop (2 * p - 1)) := by rw [List.take_append_drop]
  generalize hl1 : l0.take (2 * p - 1) = l at hcut
  have hl : l.length = 2 * p - 1 := by rw [← hl1, List.length_take]; omega
  suffices h : ∃ s t, l.Perm (s ++ t) ∧ s.length = p ∧ (p : Int) ∣ (s.map f).sum by
    obtain ⟨s, t, h1, h2, h3⟩ := h
    refine ⟨s, t ++ l0.drop (2 * p - 1), ?_, h2, h3⟩
    rw [← List.append_assoc]
    exact hcut.trans (h1.append_right _)
  clear hcut hl1 hl0
  -- in the order of the remainders
  have hsp := List.mergeSort_perm l (fun a b => decide (f a % p ≤ f b % p))
  have hso := List.pairwise_mergeSort (le := fun a b => decide (f a % p ≤ f b % p)) (fun a b c h1 h2 => by simp only [decide_eq_true_eq] at *; omega) (fun a b => by simp only [Bool.or_eq_true, decide_eq_true_eq]; omega) l
  generalize l.mergeSort (fun a b => decide (f a % p ≤ f b % p)) = s at *
  have hsl : s.length = 2 * p - 1 := by rw [hsp.length_eq]; exact hl
  suffices h : ∃ u t, s.Perm (u ++ t) ∧ u.length = p ∧ (p : Int) ∣ (u.map f).sum by
    obtain ⟨u, t, h1, h2, h3⟩ := h
    exact ⟨u, t, hsp.symm.trans h1, h2, h3⟩
  have hmono : ∀ i j (hi : i < s.length) (hj : j < s.length), i ≤ j → f s[i] % p ≤ f s[j] % p := by
    intro i j hi hj hij
    rcases Nat.lt_or_ge i j with h | h
    · have := List.pairwise_iff_getElem.1 hso i j hi hj h
      simpa using this
    · obtain rfl : i = j := by omega
      exact Int.le_refl _
  by_cases hb : ∃ i, ∃ h : i + (p - 1) < s.length, f s[i] % p = f s[i + (p - 1)] % p
  · obtain ⟨i, hi, he⟩ := hb
    refine ⟨(s.drop i).take p, s.take i ++ s.drop (i + p), ?_, ?_, ?_⟩
    · have e : s = s.take i ++ ((s.drop i).take p ++ s.drop (i + p)) := by
        rw [← List.drop_drop, List.take_append_drop, List.take_append_drop]
      conv => lhs; rw [e]
      refine (List.perm_append_comm).trans ?_
      rw [List.append_assoc]
      exact (List.perm_append_comm).append_left _
    · rw [List.length_take, List.length_drop]; omega
    · have h1 := sum_same (p := p) (r := f s[i] % p) f ((s.drop i).take p) (fun x hx => by
        obtain ⟨k, hk, rfl⟩ := List.mem_iff_getElem.1 hx
        rw [List.length_take, List.length_drop] at hk
        rw [List.getElem_take, List.getElem_drop]
        have h2 := hmono i (i + k) (by omega) (by omega) (by omega)
        have h3 := hmono (i + k) (i + (p - 1)) (by omega) hi (by omega)
        omega)
      have h2 : ((s.drop i).take p).length = p := by rw [List.length_take, List.length_drop]; omega
      rw [h2] at h1
      have h3 : (p : Int) ∣ p * (f s[i] % p) := Int.dvd_mul_right _ _
      have h4 := Int.dvd_add h1 h3
      rwa [Int.sub_add_cancel] at h4
  · have hlast : 2 * p - 2 < s.length := by omega
    obtain ⟨A, hn, hr, hlA, hA⟩ := pairs_all f hp ((s.take (p - 1)).zip ((s.drop (p - 1)).take (p - 1))) (fun q hq hd => by
      obtain ⟨k, hk, rfl⟩ := List.mem_iff_getElem.1 hq
      rw [List.length_zip, List.length_take, List.length_take, List.length_drop] at hk
      rw [List.getElem_zip, List.getElem_take, List.getElem_take, List.getElem_drop] at hd
      apply hb
      refine ⟨k, by omega, ?_⟩
      have := emod_eq_iff.2 hd
      simp only [Nat.add_comm (p - 1) k] at this
      exact this.symm)
    have hzl : ((s.take (p - 1)).zip ((s.drop (p - 1)).take (p - 1))).length = p - 1 := by
      rw [List.length_zip, List.length_take, List.length_take, List.length_drop]; omega
    have hAp : A.length = p := by rcases hlA with h | h <;> omega
    have hm := pig_all hn hr hAp (z := (-(f s[2 * p - 2])) % p) (Int.emod_nonneg _ (by omega)) (Int.emod_lt_of_pos _ (by omega))
    obtain ⟨c, hc, hcs⟩ := hA _ hm
    obtain ⟨c2, hc2⟩ := Ch_rest hc
    have hcl := Ch_len hc
    have e1 : ((s.take (p - 1)).zip ((s.drop (p - 1)).take (p - 1))).map (·.1) = s.take (p - 1) := List.map_fst_zip (by rw [List.length_take, List.length_take, List.length_drop]; omega)
    have e2 : ((s.take (p - 1)).zip ((s.drop (p - 1)).take (p - 1))).map (·.2) = (s.drop (p - 1)).take (p - 1) := List.map_snd_zip (by rw [List.length_take, List.length_take, List.length_drop]; omega)
    rw [e1, e2] at hc2
    refine ⟨c ++ [s[2 * p - 2]], c2, ?_, ?_, ?_⟩
    · have e : s = s.take (p - 1) ++ (s.drop (p - 1)).take (p - 1) ++ [s[2 * p - 2]] := by
        have h1 : s.drop (2 * p - 2) = [s[2 * p - 2]] := by
          rw [List.drop_eq_getElem_cons hlast]
          rw [List.drop_eq_nil_of_le (by omega)]
        rw [List.append_assoc, ← h1]
        have h2 : (s.drop (p - 1)).drop (p - 1) = s.drop (2 * p - 2) := by rw [List.drop_drop]; congr 1; omega
        rw [← h2, List.take_append_drop, List.take_append_drop]
      conv => lhs; rw [e]
      refine (hc2.append_right _).trans ?_
      rw [List.append_assoc, List.append_assoc]
      exact (List.perm_append_comm).append_left _
    · rw [List.length_append, hcl, hzl]; simp; omega
    · rw [List.map_append, List.sum_append]
      have := emod_eq_iff.1 hcs
      rwa [show (List.map f c).sum - -f s[2 * p - 2] = (List.map f c).sum + f s[2 * p - 2] by omega, show (List.map f c).sum + f s[2 * p - 2] = (List.map f c).sum + (List.map f [s[2 * p - 2]]).sum by simp] at this
theorem EG_one : EG 1 := by
  intro α f l hl
  cases l with
  | nil => simp at hl
  | cons a l => exact ⟨[a], l, List.Perm.refl _, rfl, Int.one_dvd _⟩
/-- Blocks are taken away one after another. -/
theorem blocks {p : Nat} (hE : EG p) {α : Type} (f : α → Int) (l : List α) : ∀ k, k * p + p - 1 ≤ l.length → ∃ (bs : List (List α)) (t : List α), l.Perm (bs.flatten ++ t) ∧ bs.length = k ∧ ∀ b ∈ bs, b.length = p ∧ (p : Int) ∣ (b.map f).sum
  | 0, _ => ⟨[], l, List.Perm.refl _, rfl, fun b hb => by simp at hb⟩
  | k + 1, h => by
    rw [Nat.add_mul] at h
    obtain ⟨bs, t, h1, h2, h3⟩ := blocks hE f l k (by omega)
    have hlen : ∀ bs : List (List α), (∀ b ∈ bs, b.length = p) → bs.flatten.length = bs.length * p := by
      intro bs hb
      induction bs with
      | nil => simp
      | cons b bs ih =>
        rw [List.flatten_cons, List.length_append, ih (fun b hb2 => hb b (List.mem_cons_of_mem _ hb2)), hb b (by simp), List.length_cons, Nat.add_mul]
        omega
    have h4 := h1.length_eq
    rw [List.length_append, hlen bs (fun b hb => (h3 b hb).1), h2] at h4
    obtain ⟨s, t2, h5, h6, h7⟩ := hE α f t (by omega)
    refine ⟨s :: bs, t2, ?_, by rw [List.length_cons, h2], fun b hb => ?_⟩
    · rw [List.flatten_cons, List.append_assoc]
      refine h1.trans ?_
      refine (h5.append_left _).trans ?_
      rw [← List.append_assoc, ← List.append_assoc]
      exact (List.perm_append_comm).append_right _
    · rcases List.mem_cons.1 hb with rfl | hb
      · exact ⟨h6, h7⟩
      · exact h3 b hb
theorem flat_sum {α : Type} (f : α → Int) {p : Nat} : ∀ s : List (List α), (∀ b ∈ s, b.length = p ∧ (p : Int) ∣ (b.map f).sum) → s.flatten.length = s.length * p ∧ (s.flatten.map f).sum = (p : Int) * (s.map fun b => ((b.map f).sum / (p : Int) : Int)).sum
  | [], _ => by simp
  | b :: s, h => by
    obtain ⟨h1, h2⟩ := flat_sum f s (fun b hb => h b (List.mem_cons_of_mem _ hb))
    obtain ⟨h3, h4⟩ := h b (by simp)
    constructor
    · rw [List.flatten_cons, List.length_append, h1, h3, List.length_cons, Nat.add_mul]; omega
    · rw [List.flatten_cons, List.map_append, List.sum_append, h2, List.map_cons, List.sum_cons, Int.mul_add, Int.mul_ediv_cancel' h4]
theorem EG_mul {m p : Nat} (hm : 1 ≤ m) (hp : 1 ≤ p) (h1 : EG m) (h2 : EG p) : EG (m * p) := by
  intro α f l hl
  obtain ⟨bs, t, h3, h4, h5⟩ := blocks h2 f l (2 * m - 1) (by
    have e : (2 * m - 1) * p = 2 * (m * p) - p := by rw [Nat.sub_mul, Nat.mul_assoc, Nat.one_mul]
    have : p ≤ m * p := Nat.le_mul_of_pos_left p hm
    omega)
  obtain ⟨s, u, h6, h7, h8⟩ := h1 (List α) (fun b => (b.map f).sum / (p : Int)) bs (by omega)
  have hs : ∀ b ∈ s, b.length = p ∧ (p : Int) ∣ (b.map f).sum := fun b hb => h5 b (h6.mem_iff.2 (List.mem_append_left _ hb))
  obtain ⟨h9, h10⟩ := flat_sum f s hs
  refine ⟨s.flatten, u.flatten ++ t, ?_, by rw [h9, h7], ?_⟩
  · refine h3.trans ?_
    rw [← List.append_assoc, ← List.flatten_append]
    exact h6.flatten.append_right _
  · rw [h10, Int.natCast_mul, Int.mul_comm (m : Int)]
    exact Int.mul_dvd_mul_left _ h8
theorem pr_small {p : Nat} (h2 : 2 ≤ p) (h : ∀ d, d < p → 2 ≤ d → p % d ≠ 0) : Pr p := ⟨h2, fun d hd => by
  have h3 := Nat.le_of_dvd (by omega) hd
  have h4 : p % d = 0 := Nat.mod_eq_zero_of_dvd hd
  rcases Nat.lt_or_ge d p with h5 | h5
  · rcases Nat.lt_or_ge d 2 with h6 | h6
    · have : d ≠ 0 := fun e => by subst e; simp at hd; omega
      omega
    · exact absurd h4 (h d h5 h6)
  · omega⟩
theorem EG_all : ∀ n, 1 ≤ n → n ≤ 20 → EG n := by
  have q2 : EG 2 := EG_prime (pr_small (by decide) (by decide))
  have q3 : EG 3 := EG_prime (pr_small (by decide) (by decide))
  have q5 : EG 5 := EG_prime (pr_small (by decide) (by decide))
  have q7 : EG 7 := EG_prime (pr_small (by decide) (by decide))
  have q11 : EG 11 := EG_prime (pr_small (by decide) (by decide))
  have q13 : EG 13 := EG_prime (pr_small (by decide) (by decide))
  have q17 : EG 17 := EG_prime (pr_small (by decide) (by decide))
  have q19 : EG 19 := EG_prime (pr_small (by decide) (by decide))
  have q4 : EG 4 := EG_mul (m := 2) (p := 2) (by omega) (by omega) q2 q2
  have q6 : EG 6 := EG_mul (m := 2) (p := 3) (by omega) (by omega) q2 q3
  have q9 : EG 9 := EG_mul (m := 3) (p := 3) (by omega) (by omega) q3 q3
  have q10 : EG 10 := EG_mul (m := 2) (p := 5) (by omega) (by omega) q2 q5
  intro n h1 h2
  match n, h1, h2 with
  | 1, _, _ => exact EG_one
  | 2, _, _ => exact q2
  | 3, _, _ => exact q3
  | 4, _, _ => exact q4
  | 5, _, _ => exact q5
  | 6, _, _ => exact q6
  | 7, _, _ => exact q7
  | 8, _, _ => exact EG_mul (m := 2) (p := 4) (by omega) (by omega) q2 q4
  | 9, _, _ => exact q9
  | 10, _, _ => exact q10
  | 11, _, _ => exact q11
  | 12, _, _ => exact EG_mul (m := 2) (p := 6) (by omega) (by omega) q2 q6
  | 13, _, _ => exact q13
  | 14, _, _ => exact EG_mul (m := 2) (p := 7) (by omega) (by omega) q2 q7
  | 15, _, _ => exact EG_mul (m := 3) (p := 5) (by omega) (by omega) q3 q5
  | 16, _, _ => exact EG_mul (m := 4) (p := 4) (by omega) (by omega) q4 q4
  | 17, _, _ => exact q17
  | 18, _, _ => exact EG_mul (m := 2) (p := 9) (by omega) (by omega) q2 q9
  | 19, _, _ => exact q19
  | 20, _, _ => exact EG_mul (m := 2) (p := 10) (by omega) (by omega) q2 q10
  | n + 21, _, h => omega
end Go.Proofs.Ytokjdadgdfmffaa
