/- Fair cuts of an even chain exist, at most as many as there are kinds. -/
import Derived.Test.YtopeppnajbnfgaaJB
import Derived.Test.YtopeppnajbnfgaaGH
namespace Go.Proofs.Ytopeppnajbnfgaa
open Go.RowKit
set_option maxHeartbeats 1000000
set_option maxRecDepth 100000
/-- The kinds of a chain. -/
def kin (s : ByteArray) : List Nat := (List.range 4).filter fun c => decide (0 < cnt s s.size c)
theorem kin_le (s : ByteArray) : (kin s).length ≤ 4 := by
  have := List.length_filter_le (fun c => decide (0 < cnt s s.size c)) (List.range 4)
  rw [List.length_range] at this
  exact this
theorem cnt_mono (s : ByteArray) (c : Nat) {a : Nat} : ∀ {b : Nat}, a ≤ b → cnt s a c ≤ cnt s b c := by
  intro b
  induction b with
  | zero => intro h; rw [Nat.le_zero.1 h]; exact Int.le_refl _
  | succ b ih =>
    intro h
    rcases Nat.lt_or_ge b a with h1 | h1
    · rw [show a = b + 1 by omega]; exact Int.le_refl _
    · have := ih h1
      show cnt s a c ≤ cnt s b c + if sb s b = 97 + c then 1 else 0
      split <;> omega
theorem cnt_su (s : ByteArray) (c : Nat) : ∀ n, Neck.su n (fun b => if sb s b = 97 + c then 1 else 0) = cnt s n c
  | 0 => rfl
  | n + 1 => by
    show Neck.su n _ + _ = cnt s n c + _
    rw [cnt_su s c n]
theorem asc_of {n : Nat} : ∀ (X : List Nat) (f : Nat), X.Pairwise (fun a b => a < b) → (∀ b ∈ X, f ≤ b ∧ b < n) → AscL n X.length f (X.map fun b : Nat => (b : Int))
  | [], _, _, _ => rfl
  | x :: X, f, hp, hb => by
    have hp := List.pairwise_cons.1 hp
    have hx := hb x (by simp)
    refine asc_cons hx.1 hx.2 (asc_of X (x + 1) hp.2 fun b hb2 => ⟨?_, (hb b (List.mem_cons_of_mem _ hb2)).2⟩)
    exact hp.1 b hb2
/-- Cuts where the carrier changes. -/
theorem signs {s : ByteArray} {σ : Nat → Int} (hσ : ∀ b, σ b = 1 ∨ σ b = -1) {X : List Nat} (hX : X = (List.range s.size).filter fun b => decide (1 ≤ b ∧ σ b ≠ σ (b - 1))) (h4 : X.length ≤ 4) (h0 : 0 < s.size) :
    ∃ a b d e, Pad s.size X.length (X.map fun b : Nat => (b : Int)) a b d e ∧ ∀ i, i < s.size → (i < a → σ i = σ 0) ∧ (a ≤ i → i < b → σ i = -σ 0) ∧ (b ≤ i → i < d → σ i = σ 0) ∧ (d ≤ i → i < e → σ i = -σ 0) ∧ (e ≤ i → σ i = σ 0) := by
  have hm : ∀ b, b ∈ X ↔ b < s.size ∧ 1 ≤ b ∧ σ b ≠ σ (b - 1) := fun b => by
    rw [hX, List.mem_filter, List.mem_range, decide_eq_true_iff]
  have hp : X.Pairwise (fun a b => a < b) := by
    rw [hX]; exact List.Pairwise.filter _ List.pairwise_lt_range
  have hb : ∀ b ∈ X, 1 ≤ b ∧ b < s.size := fun b hb => ⟨((hm b).1 hb).2.1, ((hm b).1 hb).1⟩
  have hA := asc_of X 1 hp hb
  obtain ⟨a, b, d, e, hP⟩ := pad_of h4 hA
  refine ⟨a, b, d, e, hP, ?_⟩
  obtain ⟨h1, h2, h3, h5, hx, p1, p2, p3, p4⟩ := hP
  have hXl : X = [a, b, d, e].take X.length := by
    have : X.map (fun b : Nat => (b : Int)) = ([a, b, d, e].take X.length).map fun b : Nat => (b : Int) := by rw [hx, List.map_take]; rfl
    exact (List.map_inj_right (fun x y h => by omega)).1 this
  have hmem : ∀ i, i < s.size → (i ∈ X ↔ i = a ∨ i = b ∨ i = d ∨ i = e) := by
    intro i hi
    generalize X.length = m at *
    rw [hXl]
    rcases m with _ | _ | _ | _ | _ | m
    · have := p1 (by omega); have := p2 (by omega); have := p3 (by omega); have := p4 (by omega)
      simp; omega
    · have := p2 (by omega); have := p3 (by omega); have := p4 (by omega)
      simp; omega
    · have := p3 (by omega); have := p4 (by omega)
      simp; omega
    · have := p4 (by omega)
      simp; omega
    · simp
    · omega
  have hstr : (a < s.size → 1 ≤ a) ∧ (b < s.size → a < b) ∧ (d < s.size → b < d) ∧ (e < s.size → d < e) := by
    have hp' := hp
    have hb' := hb
    rw [hXl] at hp' hb'
    generalize X.length = m at *
    rcases m with _ | _ | _ | _ | _ | m
    · have := p1 (by omega); have := p2 (by omega); have := p3 (by omega); have := p4 (by omega)
      omega
    · have := p2 (by omega); have := p3 (by omega); have := p4 (by omega)
      have := hb' a (by simp)
      omega
    · have := p3 (by omega); have := p4 (by omega)
      have := hb' a (by simp)
      simp at hp'
      omega
    · have := p4 (by omega)
      have := hb' a (by simp)
      simp at hp'
      omega
    · have := hb' a (by simp)
      simp at hp'
      omega
    · omega
  have hch : ∀ i, i + 1 < s.size → (σ (i + 1) = σ i ∨ σ (i + 1) = -σ i) ∧ (σ (i + 1) = -σ i ↔ i + 1 = a ∨ i + 1 = b ∨ i + 1 = d ∨ i + 1 = e) := by
    intro i hi
    rw [← hmem (i + 1) hi, hm, Nat.add_sub_cancel]
    have := hσ i
    have := hσ (i + 1)
    omega
  obtain ⟨s1, s2, s3, s4⟩ := hstr
  intro i
  induction i with
  | zero => intro _; omega
  | succ i ih =>
    intro hi
    have ih := ih (by omega)
    have hc := hch i hi
    have := hσ i
    have := hσ 0
    omega
theorem fair_signs {s : ByteArray} {σ : Nat → Int} (hσ : ∀ b, σ b = 1 ∨ σ b = -1) {a b d e : Nat} (h1 : a ≤ b) (h2 : b ≤ d) (h3 : d ≤ e) (h5 : e ≤ s.size)
    (hs : ∀ i, i < s.size → (i < a → σ i = σ 0) ∧ (a ≤ i → i < b → σ i = -σ 0) ∧ (b ≤ i → i < d → σ i = σ 0) ∧ (d ≤ i → i < e → σ i = -σ 0) ∧ (e ≤ i → σ i = σ 0)) (c : Nat) :
    ∀ k, k ≤ s.size → Neck.su k (fun i => if sb s i = 97 + c then σ i else 0) = σ 0 * (cnt s k c - 2 * (cnt s (min k b) c - cnt s (min k a) c + (cnt s (min k e) c - cnt s (min k d) c)))
  | 0, _ => by
    simp only [Neck.su, Nat.zero_min]
    have : cnt s 0 c = 0 := rfl
    rw [this]; simp
  | k + 1, hk => by
    have ih := fair_signs hσ h1 h2 h3 h5 hs c k (by omega)
    have h := hs k (by omega)
    have hmin : ∀ x, cnt s (min (k + 1) x) c = cnt s (min k x) c + if k < x then (if sb s k = 97 + c then 1 else 0) else 0 := fun x => by
      by_cases hx : k < x
      · rw [Nat.min_eq_left (by omega), Nat.min_eq_left (by omega), if_pos hx]; rfl
      · rw [Nat.min_eq_right (by omega), Nat.min_eq_right (by omega), if_neg hx, Int.add_zero]
    show Neck.su k _ + (if sb s k = 97 + c then σ k else 0) = _
    rw [ih, hmin a, hmin b, hmin d, hmin e, show cnt s (k + 1) c = cnt s k c + if sb s k = 97 + c then 1 else 0 from rfl]
    by_cases hk2 : sb s k = 97 + c
    · rw [if_pos hk2, if_pos hk2]
      rcases hσ 0 with h0 | h0
      · rw [h0] at h ⊢
        by_cases x1 : k < a
        · rw [if_pos x1, if_pos (by omega), if_pos (by omega), if_pos (by omega), h.1 x1]; omega
        · by_cases x2 : k < b
          · rw [if_neg x1, if_pos x2, if_pos (by omega), if_pos (by omega), h.2.1 (by omega) x2]; omega
          · by_cases x3 : k < d
            · rw [if_neg x1, if_neg x2, if_pos x3, if_pos (by omega), h.2.2.1 (by omega) x3]; omega
            · by_cases x4 : k < e
              · rw [if_neg x1, if_neg x2, if_neg x3, if_pos x4, h.2.2.2.1 (by omega) x4]; omega
              · rw [if_neg x1, if_neg x2, if_neg x3, if_neg x4, h.2.2.2.2 (by omega)]; omega
      · rw [h0] at h ⊢
        by_cases x1 : k < a
        · rw [if_pos x1, if_pos (by omega), if_pos (by omega), if_pos (by omega), h.1 x1]; omega
        · by_cases x2 : k < b
          · rw [if_neg x1, if_pos x2, if_pos (by omega), if_pos (by omega), h.2.1 (by omega) x2]; omega
          · by_cases x3 : k < d
            · rw [if_neg x1, if_neg x2, if_pos x3, if_pos (by omega), h.2.2.1 (by omega) x3]; omega
            · by_cases x4 : k < e
              · rw [if_neg x1, if_neg x2, if_neg x3, if_pos x4, h.2.2.2.1 (by omega) x4]; omega
              · rw [if_neg x1, if_neg x2, if_neg x3, if_neg x4, h.2.2.2.2 (by omega)]; omega
    · rw [if_neg hk2, if_neg hk2]
      simp
/-- Fair cuts of an even chain exist, at most as many as there are kinds. -/
theorem fair_some {s : ByteArray} (hc : chV s = true) (he : evV s = true) : ∃ m x, m ≤ (kin s).length ∧ AscL s.size m 1 x ∧ fairV s x = true := by
  have ho := (of_decide_eq_true hc).2
  have hev := (evV_iff s).1 he
  have hcol : ∀ b c, b < s.size → (sb s b - 97 = c ↔ sb s b = 97 + c) := fun b c hb => by
    have := (ho b hb).1
    omega
  have hcol2 : ∀ c (g : Nat → Int), Neck.su s.size (fun b => if sb s b - 97 = c then g b else 0) = Neck.su s.size (fun b => if sb s b = 97 + c then g b else 0) := fun c g =>
    Neck.su_congr fun b hb => by
      by_cases h : sb s b = 97 + c
      · rw [if_pos ((hcol b c hb).2 h), if_pos h]
      · rw [if_neg (fun h2 => h ((hcol b c hb).1 h2)), if_neg h]
  have hmem : ∀ c, c ∈ kin s ↔ c < 4 ∧ 0 < cnt s s.size c := fun c => by
    unfold kin
    rw [List.mem_filter, List.mem_range, decide_eq_true_iff]
  by_cases h0 : 0 < s.size
  · obtain ⟨σ, hσ, hs, hl⟩ := Neck.split s.size (fun b => sb s b - 97) (kin s) (kin_le s) (fun c hk => by
      rw [hcol2 c fun _ => 1, cnt_su]
      have := hev c ((hmem c).1 hk).1
      omega)
    have h4 := Nat.le_trans hl (kin_le s)
    obtain ⟨a, b, d, e, hP, hi⟩ := signs hσ rfl h4 h0
    generalize hXe : ((List.range s.size).filter fun b => decide (1 ≤ b ∧ σ b ≠ σ (b - 1))) = X at *
    refine ⟨X.length, X.map fun b : Nat => (b : Int), hl, ?_, ?_⟩
    · refine asc_of X 1 ?_ ?_
      · rw [← hXe]; exact List.Pairwise.filter _ List.pairwise_lt_range
      · intro b hb
        rw [← hXe, List.mem_filter, List.mem_range, decide_eq_true_iff] at hb
        exact ⟨hb.2.1, hb.1⟩
    · rw [fair_pad h4 hP]
      intro c hc4
      by_cases hk : c ∈ kin s
      · have h1 := hs c hk
        rw [hcol2 c σ, fair_signs hσ hP.1 hP.2.1 hP.2.2.1 hP.2.2.2.1 hi c s.size (Nat.le_refl _)] at h1
        have q1 : a ≤ s.size := by have := hP.1; have := hP.2.1; have := hP.2.2.1; have := hP.2.2.2.1; omega
        have q2 : b ≤ s.size := by have := hP.2.1; have := hP.2.2.1; have := hP.2.2.2.1; omega
        have q3 : d ≤ s.size := by have := hP.2.2.1; have := hP.2.2.2.1; omega
        rw [Nat.min_eq_right q1, Nat.min_eq_right q2, Nat.min_eq_right q3, Nat.min_eq_right hP.2.2.2.1] at h1
        rcases hσ 0 with h2 | h2
        · rw [h2] at h1; omega
        · rw [h2] at h1; omega
      · have hz : cnt s s.size c = 0 := by
          have := (cnt_rng s c s.size).1
          have : ¬ 0 < cnt s s.size c := fun h => hk ((hmem c).2 ⟨hc4, h⟩)
          omega
        have hz2 : ∀ x, x ≤ s.size → cnt s x c = 0 := fun x hx => by
          have := cnt_mono s c hx
          have := (cnt_rng s c x).1
          omega
        have := hP.1; have := hP.2.1; have := hP.2.2.1; have := hP.2.2.2.1
        rw [hz, hz2 a (by omega), hz2 b (by omega), hz2 d (by omega), hz2 e (by omega)]; rfl
  · have e0 : s.size = 0 := by omega
    refine ⟨0, [], Nat.zero_le _, rfl, ?_⟩
    refine (fair_pad (a := s.size) (b := s.size) (d := s.size) (e := s.size) (m := 0) (x := []) (by omega) ⟨Nat.le_refl _, Nat.le_refl _, Nat.le_refl _, Nat.le_refl _, rfl, fun _ => rfl, fun _ => rfl, fun _ => rfl, fun _ => rfl⟩).2 ?_
    intro c _
    have : cnt s s.size c = 0 := by rw [e0]; rfl
    rw [this]; rfl
end Go.Proofs.Ytopeppnajbnfgaa
