/- Spreads of pieces, and moving some along a way: plain facts. -/
import Derived.Test.YtmfpegadcecknaaT
import Derived.Test.YtmfpegadcecknaaV
namespace Go.Proofs.Ytmfpegadcecknaa
set_option maxHeartbeats 400000
def sumN : Nat → (Nat → Int) → Int
  | 0, _ => 0
  | n + 1, f => sumN n f + f n
theorem sumN_congr {f h : Nat → Int} : ∀ n, (∀ i, i < n → f i = h i) → sumN n f = sumN n h
  | 0, _ => rfl
  | n + 1, e => by unfold sumN; rw [sumN_congr n (fun i hi => e i (by omega)), e n (by omega)]
theorem sumN_upd {f : Nat → Int} {v : Nat} (x : Int) : ∀ n, sumN n (upd f v x) = sumN n f + if v < n then x - f v else 0
  | 0 => by simp [sumN]
  | n + 1 => by
    unfold sumN
    rw [sumN_upd x n]
    by_cases h : v = n
    · subst h; simp [upd]; omega
    · have : upd f v x n = f n := by simp [upd, Ne.symm h]
      rw [this]
      by_cases h2 : v < n
      · rw [if_pos h2, if_pos (by omega)]; omega
      · rw [if_neg h2, if_neg (by omega)]; omega
theorem sumN_nn {f : Nat → Int} : ∀ n, (∀ i, i < n → 0 ≤ f i) → 0 ≤ sumN n f
  | 0, _ => Int.le_refl _
  | n + 1, h => by unfold sumN; have := sumN_nn n (fun i hi => h i (by omega)); have := h n (by omega); omega
theorem sumN_le {f : Nat → Int} {B : Int} : ∀ n : Nat, (∀ i, i < n → f i ≤ B) → sumN n f ≤ n * B
  | 0, _ => by simp [sumN]
  | n + 1, h => by
    unfold sumN
    have h1 := sumN_le n (fun i hi => h i (by omega))
    have h2 := h n (by omega)
    have h3 : ((n + 1 : Nat) : Int) * B = n * B + B := by rw [Int.natCast_succ, Int.add_mul, Int.one_mul]
    omega
/-- What a vertex has of its edges. -/
def outF (H : Nat → Nat → Int) (v : Nat) : Int := sumN 16 (H v)
theorem movS_at {H : Nat → Nat → Int} {p : Int} {u v : Nat} (h : u ≠ v) (a b : Nat) : movS H p u v a b = if a = v ∧ b = u then H v u + p else if a = u ∧ b = v then H u v - p else H a b := by
  unfold movS upd2
  have : ¬ (v = u ∧ u = v) := fun e => h e.2
  simp only [if_neg this]
theorem outF_movS {H : Nat → Nat → Int} {p : Int} {u v : Nat} (h : u ≠ v) (hu : u < 16) (hv : v < 16) (a : Nat) : outF (movS H p u v) a = outF H a + (if a = v then p else 0) - (if a = u then p else 0) := by
  unfold outF
  by_cases e1 : a = v
  · subst e1
    have : ∀ i, i < 16 → movS H p u a a i = upd (H a) u (H a u + p) i := fun i _ => by
      rw [movS_at h]; unfold upd
      by_cases e : i = u
      · subst e; simp
      · simp [e, Ne.symm h]
    rw [sumN_congr 16 this, sumN_upd, if_pos hu, if_pos rfl, if_neg (Ne.symm h)]; omega
  · by_cases e2 : a = u
    · subst e2
      have : ∀ i, i < 16 → movS H p a v a i = upd (H a) v (H a v - p) i := fun i _ => by
        rw [movS_at h]; unfold upd
        by_cases e : i = v
        · subst e; simp [h]
        · simp [e, h]
      rw [sumN_congr 16 this, sumN_upd, if_pos hv, if_neg e1, if_pos rfl]; omega
    · have : ∀ i, i < 16 → movS H p u v a i = H a i := fun i _ => by rw [movS_at h]; simp [e1, e2]
      rw [sumN_congr 16 this, if_neg e1, if_neg e2]; omega
/-- All the pieces of each edge are with its ends, and the loads tell how many each vertex has. -/
structure Spread (gs : List Nat) (pcs : Int) (H : Nat → Nat → Int) (L : Nat → Int) : Prop where
  nn : ∀ u v, u < 16 → v < 16 → 0 ≤ H u v
  sum : ∀ u v, u < 16 → v < 16 → sHas (near gs u) v = true → H u v + H v u = pcs
  no : ∀ u v, u < 16 → v < 16 → sHas (near gs u) v = false → H u v = 0
  load : ∀ v, v < 16 → L v = outF H v
theorem WayL.steps {E : Nat → Nat → Prop} {f : Nat} : ∀ ws : List Nat, WayL E f ws → (0 < ws.length) ∧ (∀ k, k + 1 < ws.length → E (getn ws (k + 1)) (getn ws k)) ∧ getn ws (ws.length - 1) = f
  | [], h => h.elim
  | [v], h => ⟨by simp, fun k hk => absurd hk (by simp), h⟩
  | v :: p :: t, h => by
    have ih := WayL.steps (p :: t) h.2.2
    refine ⟨by simp, fun k hk => ?_, ?_⟩
    · cases k with
      | zero => exact h.1
      | succ k => exact ih.2.1 k (by simp at hk ⊢; omega)
    · have := ih.2.2; simpa [getn] using this
theorem getn_inj {xs : List Nat} (h : xs.Nodup) {i j : Nat} (hi : i < xs.length) (hj : j < xs.length) (e : getn xs i = getn xs j) : i = j := by
  rw [getn_eq hi, getn_eq hj] at e
  rcases Nat.lt_trichotomy i j with h1 | h1 | h1
  · exact absurd e (List.pairwise_iff_getElem.1 h i j hi hj h1)
  · exact h1
  · exact absurd e.symm (List.pairwise_iff_getElem.1 h j i hj hi h1)
theorem movT_facts {ws : List Nat} (hn : ws.Nodup) (hl : ∀ k, k < ws.length → getn ws k < 16) (H : Nat → Nat → Int) (p : Int) : ∀ j, j < ws.length →
    (∀ a b, movT ws H p j a b = H a b ∨ (∃ k, k < j ∧ a = getn ws (k + 1) ∧ b = getn ws k ∧ movT ws H p j a b = H a b - p) ∨ (∃ k, k < j ∧ a = getn ws k ∧ b = getn ws (k + 1) ∧ movT ws H p j a b = H a b + p)) ∧
    (∀ a b, movT ws H p j a b + movT ws H p j b a = H a b + H b a) ∧
    (∀ a, outF (movT ws H p j) a = outF H a + (if a = getn ws 0 then p else 0) - (if a = getn ws j then p else 0)) := by
  intro j
  induction j with
  | zero => intro _; exact ⟨fun a b => .inl rfl, fun a b => rfl, fun a => by simp only [movT]; omega⟩
  | succ j ih =>
    intro hj
    obtain ⟨i1, i2, i3⟩ := ih (by omega)
    have huv : getn ws (j + 1) ≠ getn ws j := fun e => by have := getn_inj hn hj (by omega) e; omega
    have f1 : movT ws H p j (getn ws (j + 1)) (getn ws j) = H (getn ws (j + 1)) (getn ws j) := by
      rcases i1 (getn ws (j + 1)) (getn ws j) with h | ⟨k, hk, ha, hb, _⟩ | ⟨k, hk, ha, hb, _⟩
      · exact h
      · have := getn_inj hn hj (by omega) ha; omega
      · have := getn_inj hn hj (by omega) ha; omega
    have f2 : movT ws H p j (getn ws j) (getn ws (j + 1)) = H (getn ws j) (getn ws (j + 1)) := by
      rcases i1 (getn ws j) (getn ws (j + 1)) with h | ⟨k, hk, ha, hb, _⟩ | ⟨k, hk, ha, hb, _⟩
      · exact h
      · have := getn_inj hn hj (by omega) hb; omega
      · have := getn_inj hn hj (by omega) hb; omega
    refine ⟨fun a b => ?_, fun a b => ?_, fun a => ?_⟩
    · simp only [movT]
      rw [movS_at huv]
      by_cases e1 : a = getn ws j ∧ b = getn ws (j + 1)
      · rw [if_pos e1]
        exact .inr (.inr ⟨j, by omega, e1.1, e1.2, by rw [f2, e1.1, e1.2]⟩)
      · rw [if_neg e1]
        by_cases e2 : a = getn ws (j + 1) ∧ b = getn ws j
        · rw [if_pos e2]
          exact .inr (.inl ⟨j, by omega, e2.1, e2.2, by rw [f1, e2.1, e2.2]⟩)
        · rw [if_neg e2]
          rcases i1 a b with h | ⟨k, hk, h⟩ | ⟨k, hk, h⟩
          · exact .inl h
          · exact .inr (.inl ⟨k, by omega, h⟩)
          · exact .inr (.inr ⟨k, by omega, h⟩)
    · have := i2 a b
      simp only [movT]
      rw [movS_at huv, movS_at huv]
      by_cases e1 : a = getn ws j ∧ b = getn ws (j + 1)
      · have e3 : ¬ (b = getn ws j ∧ a = getn ws (j + 1)) := fun e => huv (by rw [← e1.2, e.1])
        rw [if_pos e1, if_neg e3, if_pos ⟨e1.2, e1.1⟩, f1, f2, e1.1, e1.2]; omega
      · rw [if_neg e1]
        by_cases e2 : a = getn ws (j + 1) ∧ b = getn ws j
        · rw [if_pos e2, if_pos ⟨e2.2, e2.1⟩, f1, f2, e2.1, e2.2]; omega
        · rw [if_neg e2, if_neg (fun e => e2 ⟨e.2, e.1⟩), if_neg (fun e => e1 ⟨e.2, e.1⟩)]; exact this
    · show outF (movS _ _ _ _) a = _
      rw [outF_movS huv (hl _ hj) (hl _ (by omega)), i3 a]
      omega
theorem mn_le (a b : Int) : mn a b ≤ a ∧ mn a b ≤ b := by unfold mn; split <;> omega
theorem mn_pos {a b : Int} (ha : 1 ≤ a) (hb : 1 ≤ b) : 1 ≤ mn a b := by unfold mn; split <;> omega
theorem minT_le (ws : List Nat) (H : Nat → Nat → Int) (p : Int) : ∀ j, minT ws H p j ≤ p ∧ ∀ k, k < j → minT ws H p j ≤ H (getn ws (k + 1)) (getn ws k)
  | 0 => ⟨Int.le_refl _, fun k hk => absurd hk (by omega)⟩
  | j + 1 => by
    obtain ⟨h1, h2⟩ := minT_le ws H p j
    have h3 := mn_le (minT ws H p j) (H (getn ws (j + 1)) (getn ws j))
    refine ⟨by simp only [minT]; omega, fun k hk => ?_⟩
    simp only [minT]
    by_cases e : k = j
    · subst e; omega
    · have := h2 k (by omega); omega
theorem minT_pos {ws : List Nat} {H : Nat → Nat → Int} {p : Int} (hp : 1 ≤ p) : ∀ j, (∀ k, k < j → 1 ≤ H (getn ws (k + 1)) (getn ws k)) → 1 ≤ minT ws H p j
  | 0, _ => hp
  | j + 1, h => mn_pos (minT_pos hp j (fun k hk => h k (by omega))) (h j (by omega))
/-- How much is too much. -/
def exc (lim : Int) (L : Nat → Int) : Nat := (sumN 16 fun v => if lim < L v then L v - lim else 0).toNat
def way0 (L : Nat → Int) (lim : Int) (ws : List Nat) : Int := mn (L (getn ws (ws.length - 1)) - lim) (lim - L (getn ws 0))
theorem Spread.move {gs : List Nat} {pcs : Int} {H : Nat → Nat → Int} {L : Nat → Int} (s : Spread gs pcs H L) {f : Nat} {lim : Int} {R : Nat} {ws : List Nat} (w : WayPost gs H L f lim R ws) (hne : ws ≠ []) (hf : lim < L f) (hsym : ∀ u v, u < 16 → v < 16 → sHas (near gs u) v = sHas (near gs v) u) :
    Spread gs pcs (movT ws H (minT ws H (way0 L lim ws) (ws.length - 1)) (ws.length - 1)) (upd (upd L (getn ws (ws.length - 1)) (L (getn ws (ws.length - 1)) - minT ws H (way0 L lim ws) (ws.length - 1))) (getn ws 0) (upd L (getn ws (ws.length - 1)) (L (getn ws (ws.length - 1)) - minT ws H (way0 L lim ws) (ws.length - 1)) (getn ws 0) + minT ws H (way0 L lim ws) (ws.length - 1))) ∧
    exc lim (upd (upd L (getn ws (ws.length - 1)) (L (getn ws (ws.length - 1)) - minT ws H (way0 L lim ws) (ws.length - 1))) (getn ws 0) (upd L (getn ws (ws.length - 1)) (L (getn ws (ws.length - 1)) - minT ws H (way0 L lim ws) (ws.length - 1)) (getn ws 0) + minT ws H (way0 L lim ws) (ws.length - 1))) < exc lim L ∧ 2 ≤ ws.length := by
  obtain ⟨g1, g2, g3, g4, g5, g6⟩ := w.way hne
  obtain ⟨h1, h2, h3⟩ := g1.steps
  have hlen : 2 ≤ ws.length := by
    by_cases e : ws.length = 1
    · rw [e] at h3; exact absurd h3 g6
    · omega
  have hw : ∀ k, k < ws.length → getn ws k < 16 := fun k hk => g4 _ (getn_mem hk)
  rw [h3]
  have hw0 : getn ws 0 < 16 := hw 0 (by omega)
  have hf16 : f < 16 := by rw [← h3]; exact hw _ (by omega)
  have hp0 : way0 L lim ws = mn (L f - lim) (lim - L (getn ws 0)) := by unfold way0; rw [h3]
  rw [hp0]
  generalize hP : minT ws H (mn (L f - lim) (lim - L (getn ws 0))) (ws.length - 1) = P
  have hle := minT_le ws H (mn (L f - lim) (lim - L (getn ws 0))) (ws.length - 1)
  have hmn := mn_le (L f - lim) (lim - L (getn ws 0))
  have harc : ∀ k, k < ws.length - 1 → 1 ≤ H (getn ws (k + 1)) (getn ws k) := fun k hk => by
    obtain ⟨a1, a2, a3, a4⟩ := h2 k (by omega)
    have := s.nn _ _ a1 a2; omega
  have hpos := minT_pos (p := mn (L f - lim) (lim - L (getn ws 0))) (mn_pos (by omega) (by omega)) _ harc
  rw [hP] at hle hpos
  obtain ⟨t1, t2, t3⟩ := movT_facts g2 hw H P (ws.length - 1) (by omega)
  rw [h3] at t3
  have hL' : ∀ v, upd (upd L f (L f - P)) (getn ws 0) (upd L f (L f - P) (getn ws 0) + P) v = L v + (if v = getn ws 0 then P else 0) - (if v = f then P else 0) := by
    intro v
    unfold upd
    by_cases e1 : v = getn ws 0
    · subst e1; simp [g6]
    · by_cases e2 : v = f
      · subst e2; simp [e1]
      · simp [e1, e2]
  refine ⟨⟨fun u v hu hv => ?_, fun u v hu hv h => by rw [t2]; exact s.sum u v hu hv h, fun u v hu hv h => ?_, fun v hv => by rw [hL', t3, s.load v hv]⟩, ?_, hlen⟩
  · have := s.nn u v hu hv
    rcases t1 u v with h | ⟨k, hk, rfl, rfl, h⟩ | ⟨k, hk, rfl, rfl, h⟩
    · omega
    · have := hle.2 k hk; omega
    · omega
  · rcases t1 u v with h4 | ⟨k, hk, rfl, rfl, h4⟩ | ⟨k, hk, rfl, rfl, h4⟩
    · rw [h4]; exact s.no u v hu hv h
    · have := (h2 k (by omega)).2.2.1; rw [h] at this; cases this
    · have := (h2 k (by omega)).2.2.1; rw [hsym _ _ hv hu, h] at this; cases this
  · unfold exc
    have he : ∀ v, v < 16 → (fun v => if lim < upd (upd L f (L f - P)) (getn ws 0) (upd L f (L f - P) (getn ws 0) + P) v then upd (upd L f (L f - P)) (getn ws 0) (upd L f (L f - P) (getn ws 0) + P) v - lim else 0) v = upd (fun v => if lim < L v then L v - lim else 0) f ((L f - lim) - P) v := by
      intro v _
      simp only [hL']
      by_cases e2 : v = f
      · have e3 : L v + (if v = getn ws 0 then P else 0) - (if v = f then P else 0) = L f - P := by rw [if_neg (fun e => g6 (by rw [← e, e2])), if_pos e2, e2]; omega
        rw [e3]
        unfold upd
        rw [if_pos e2]
        split <;> omega
      · by_cases e1 : v = getn ws 0
        · have e3 : L v + (if v = getn ws 0 then P else 0) - (if v = f then P else 0) = L v + P := by rw [if_pos e1, if_neg e2]; omega
          rw [e3]
          unfold upd
          rw [if_neg e2]
          dsimp only
          rw [e1, if_neg (by omega), if_neg (by omega)]
        · have e3 : L v + (if v = getn ws 0 then P else 0) - (if v = f then P else 0) = L v := by rw [if_neg e1, if_neg e2]; omega
          rw [e3]
          unfold upd
          rw [if_neg e2]
    rw [sumN_congr 16 he, sumN_upd, if_pos hf16]
    have hnn : 0 ≤ sumN 16 (fun v => if lim < L v then L v - lim else 0) := sumN_nn 16 (fun i _ => by split <;> omega)
    have hnn2 : 0 ≤ sumN 16 (upd (fun v => if lim < L v then L v - lim else 0) f ((L f - lim) - P)) := sumN_nn 16 (fun i _ => by
      unfold upd; split
      · omega
      · show 0 ≤ (if lim < L i then L i - lim else 0)
        split <;> omega)
    rw [sumN_upd, if_pos hf16] at hnn2
    have e5 : (if lim < L f then L f - lim else 0) = L f - lim := if_pos hf
    simp only [e5] at hnn2 ⊢
    omega
end Go.Proofs.Ytmfpegadcecknaa
