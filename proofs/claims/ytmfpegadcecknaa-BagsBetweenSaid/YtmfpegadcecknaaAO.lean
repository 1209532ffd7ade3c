/- Which sets are densest: the full vertices are the greatest one. -/
import Derived.Test.YtmfpegadcecknaaAB
import Derived.Test.YtmfpegadcecknaaAM
namespace Go.Proofs.Ytmfpegadcecknaa
set_option maxHeartbeats 400000
theorem sumN_mono {f g : Nat → Int} : ∀ n, (∀ i, i < n → f i ≤ g i) → sumN n f ≤ sumN n g
  | 0, _ => Int.le_refl _
  | n + 1, h => by rw [sumN_s, sumN_s]; have := sumN_mono n (fun i hi => h i (by omega)); have := h n (by omega); omega
theorem sumN_all0 {f : Nat → Int} : ∀ n, (∀ i, i < n → 0 ≤ f i) → sumN n f = 0 → ∀ i, i < n → f i = 0
  | 0, _, _, i, hi => absurd hi (by omega)
  | n + 1, h, h0, i, hi => by
    rw [sumN_s] at h0
    have h1 := sumN_nn n (fun i hi => h i (by omega))
    have h2 := h n (by omega)
    by_cases e : i = n
    · subst e; omega
    · exact sumN_all0 n (fun i hi => h i (by omega)) (by omega) i (by omega)
/-- A vertex's pieces of the edges inside a set. -/
def inF (H : Nat → Nat → Int) (S v : Nat) : Int := sumN 16 (fun u => if sHas S v = true ∧ sHas S u = true then H v u else 0)
theorem ends_sum (gs : List Nat) (S : Nat) : (endsOf gs S (ms S) : Int) = sumN 16 (fun v => sumN 16 (fun u => if sHas S v = true ∧ sHas S u = true ∧ sHas (near gs v) u = true then 1 else 0)) := by
  unfold endsOf
  rw [sum_ms]
  refine sumN_congr 16 (fun v hv => ?_)
  by_cases e : sHas S v = true
  · rw [if_pos e, pc_sum]
    refine sumN_congr 16 (fun u hu => ?_)
    have hb : sHas (sAnd (near gs v) S) u = ((near gs v).testBit u && S.testBit u) := sAnd_bit _ _ _
    rw [hb]
    unfold sHas at *
    by_cases e1 : S.testBit u = true <;> by_cases e2 : (near gs v).testBit u = true <;> simp [e, e1, e2]
  · rw [if_neg e]
    exact ((sumN_congr 16 (fun u _ => if_neg (fun h => e h.1))).trans (sumN_zero 16)).symm
theorem Spread.ends {gs : List Nat} {pcs : Int} {H : Nat → Nat → Int} {L : Nat → Int} (s : Spread gs pcs H L) (hsym : ∀ u v, sHas (near gs u) v = sHas (near gs v) u) (S : Nat) :
    pcs * (endsOf gs S (ms S) : Int) = 2 * sumN 16 (inF H S) := by
  have h2 : sumN 16 (fun v => sumN 16 (fun u => if sHas S v = true ∧ sHas S u = true then H v u else 0)) = sumN 16 (fun v => sumN 16 (fun u => if sHas S v = true ∧ sHas S u = true then H u v else 0)) := by
    rw [sumN_swap]
    refine sumN_congr 16 (fun v _ => sumN_congr 16 (fun u _ => ?_))
    by_cases e : sHas S v = true ∧ sHas S u = true
    · rw [if_pos e, if_pos ⟨e.2, e.1⟩]
    · rw [if_neg e, if_neg (fun h => e ⟨h.2, h.1⟩)]
  have e1 : 2 * sumN 16 (inF H S) = sumN 16 (fun v => sumN 16 (fun u => if sHas S v = true ∧ sHas S u = true then H v u else 0)) + sumN 16 (fun v => sumN 16 (fun u => if sHas S v = true ∧ sHas S u = true then H u v else 0)) := by
    rw [← h2]; unfold inF; omega
  rw [e1, ends_sum, ← sumN_mul, ← sumN_add]
  refine sumN_congr 16 (fun v hv => ?_)
  rw [← sumN_add, ← sumN_mul]
  refine sumN_congr 16 (fun u hu => ?_)
  by_cases e : sHas S v = true ∧ sHas S u = true
  · rw [if_pos e, if_pos e]
    cases hn : sHas (near gs v) u
    · rw [s.no v u hv hu hn, s.no u v hu hv (by rw [← hsym]; exact hn)]; simp
    · rw [s.sum v u hv hu hn, if_pos ⟨e.1, e.2, rfl⟩]; simp
  · rw [if_neg e, if_neg e, if_neg (fun h => e ⟨h.1, h.2.1⟩)]; simp
theorem Spread.in_le {gs : List Nat} {pcs : Int} {H : Nat → Nat → Int} {L : Nat → Int} (s : Spread gs pcs H L) (S : Nat) {v : Nat} (hv : v < 16) : inF H S v ≤ if sHas S v = true then L v else 0 := by
  unfold inF
  by_cases e : sHas S v = true
  · rw [if_pos e, s.load v hv]; unfold outF
    refine sumN_mono 16 (fun u hu => ?_)
    have := s.nn v u hv hu
    split <;> omega
  · rw [if_neg e]
    have : sumN 16 (fun u => if sHas S v = true ∧ sHas S u = true then H v u else 0) = 0 := (sumN_congr 16 (fun u _ => if_neg (fun h => e h.1))).trans (sumN_zero 16)
    rw [this]; exact Int.le_refl _
/-- A set that is as dense as the limit is full, and nothing can be moved out of it. -/
theorem Spread.tight {gs : List Nat} {pcs : Int} {H : Nat → Nat → Int} {L : Nat → Int} (s : Spread gs pcs H L) (hsym : ∀ u v, sHas (near gs u) v = sHas (near gs v) u) {lim : Int} {T : Nat}
    (hl : ∀ v, v < 16 → sHas T v = true → L v ≤ lim) (he : pcs * (endsOf gs T (ms T) : Int) = 2 * (lim * (pc 16 T : Int))) :
    ∀ v, v < 16 → sHas T v = true → L v = lim ∧ ∀ u, u < 16 → H v u ≠ 0 → sHas T u = true := by
  rw [s.ends hsym, pc_sum, ← sumN_mul lim] at he
  have h0 : sumN 16 (fun v => lim * (if sHas T v = true then 1 else 0) - inF H T v) = 0 := by
    have : sumN 16 (fun v => lim * (if sHas T v = true then 1 else 0) - inF H T v) = sumN 16 (fun v => lim * (if sHas T v = true then 1 else 0)) + sumN 16 (fun v => (-1) * inF H T v) := by
      rw [← sumN_add]; exact sumN_congr 16 (fun i _ => by omega)
    rw [this, sumN_mul (-1)]; omega
  have hnn : ∀ v, v < 16 → 0 ≤ lim * (if sHas T v = true then 1 else 0) - inF H T v := fun v hv => by
    have h1 := s.in_le T hv
    by_cases e : sHas T v = true
    · rw [if_pos e] at h1 ⊢; have := hl v hv e; omega
    · rw [if_neg e] at h1 ⊢; omega
  intro v hv e
  have h1 := sumN_all0 16 hnn h0 v hv
  have h2 := s.in_le T hv
  have h3 := hl v hv e
  rw [if_pos e] at h1 h2
  have h4 : L v = lim := by omega
  refine ⟨h4, fun u hu hn => Decidable.byContradiction fun hT => ?_⟩
  have h5 : sumN 16 (fun u => H v u - (if sHas T v = true ∧ sHas T u = true then H v u else 0)) = 0 := by
    have : sumN 16 (fun u => H v u - (if sHas T v = true ∧ sHas T u = true then H v u else 0)) = sumN 16 (H v) + sumN 16 (fun u => (-1) * (if sHas T v = true ∧ sHas T u = true then H v u else 0)) := by
      rw [← sumN_add]; exact sumN_congr 16 (fun i _ => by omega)
    rw [this, sumN_mul (-1)]
    have e5 := s.load v hv
    unfold outF at e5
    unfold inF at h1
    omega
  have h6 := sumN_all0 16 (fun u hu => by have := s.nn v u hv hu; split <;> omega) h5 u hu
  rw [if_neg (fun h => hT h.2)] at h6
  omega
/-- A way stays within a set that it can't leave. -/
theorem WayL.stays {E : Nat → Nat → Prop} {f T : Nat} (hc : ∀ a b, sHas T a = true → E a b → sHas T b = true) (hf : sHas T f = true) : ∀ ws : List Nat, WayL E f ws → ∀ x ∈ ws, sHas T x = true
  | [], h, _, _ => h.elim
  | [v], h, x, hx => by
    have hv : v = f := h
    simp at hx; subst hx; subst hv; exact hf
  | v :: p :: t, h, x, hx => by
    obtain ⟨h1, _, h2⟩ := h
    have ih := WayL.stays hc hf (p :: t) h2
    rcases List.mem_cons.1 hx with rfl | hx
    · exact hc p x (ih p (List.mem_cons_self ..)) h1
    · exact ih x hx
theorem not_freed {gs : List Nat} {H : Nat → Nat → Int} {L : Nat → Int} {lim : Int} {T v : Nat} (hv : sHas T v = true) (hc : ∀ v, v < 16 → sHas T v = true → ∀ u, u < 16 → sHas (near gs v) u = true → H v u ≠ 0 → sHas T u = true)
    (hl : ∀ v, v < 16 → sHas T v = true → lim ≤ L v) : ¬ Freed gs H L lim v := by
  rintro ⟨R, ws, hne, hw⟩
  obtain ⟨g1, g2, g3, g4, g5, g6⟩ := hw.way hne
  have hm : getn ws 0 ∈ ws := getn_mem (List.length_pos_iff.2 hne)
  have h1 := WayL.stays (T := T) (fun a b ha e => hc a e.1 ha b e.2.1 e.2.2.1 e.2.2.2) hv ws g1 _ hm
  have := hl _ (g4 _ hm) h1
  omega
/-- What has been found: a division in which no load is greater than the density of some set. -/
structure DensPost (m : Nat) (gs : List Nat) (p q : Nat) (H : Nat → Nat → Int) (L : Nat → Int) (s : Nat) : Prop where
  sp : Spread gs q H L
  le : ∀ v ∈ ms (sAll m), L v ≤ p
  full : FullI gs H L p (ms (sAll m)) s
  att : ∃ S, S < 65536 ∧ S ≠ 0 ∧ (∀ v, sHas S v = true → v < m) ∧ denV gs S = (p, q)
theorem even_sum {f : Nat → Nat → Int} (hs : ∀ u v, f u v = f v u) (hd : ∀ v, f v v = 0) : ∀ n, ∃ k, sumN n (fun v => sumN n (f v)) = 2 * k
  | 0 => ⟨0, rfl⟩
  | n + 1 => by
    obtain ⟨k, hk⟩ := even_sum hs hd n
    have h1 : sumN (n + 1) (fun v => sumN (n + 1) (f v)) = sumN n (fun v => sumN n (f v)) + sumN n (fun v => f v n) + (sumN n (f n) + f n n) := by
      rw [sumN_s, ← sumN_add]; rfl
    have h2 : sumN n (fun v => f v n) = sumN n (f n) := sumN_congr n (fun i _ => hs i n)
    exact ⟨k + sumN n (f n), by rw [h1, hk, h2, hd]; omega⟩
theorem ends_even {gs : List Nat} (hsym : ∀ u v, sHas (near gs u) v = sHas (near gs v) u) (hir : ∀ v, sHas (near gs v) v = false) (S : Nat) : endsOf gs S (ms S) = 2 * (endsOf gs S (ms S) / 2) := by
  obtain ⟨k, hk⟩ := even_sum (f := fun v u => if sHas S v = true ∧ sHas S u = true ∧ sHas (near gs v) u = true then 1 else 0) (fun u v => by
      rw [hsym u v]
      by_cases e : sHas S v = true ∧ sHas S u = true ∧ sHas (near gs v) u = true
      · rw [if_pos e, if_pos ⟨e.2.1, e.1, e.2.2⟩]
      · rw [if_neg e, if_neg (fun h => e ⟨h.2.1, h.1, h.2.2⟩)]) (fun v => by rw [hir v]; simp) 16
  have := ends_sum gs S
  rw [hk] at this
  omega
theorem frac_eq {a b c d : Nat} (hb : 0 < b) (hd : 0 < d) (h : a * d = c * b) : fN a b = fN c d ∧ fD a b = fD c d := by
  have g1 : 0 < Nat.gcd a b := Nat.gcd_pos_of_pos_right _ hb
  have g2 : 0 < Nat.gcd c d := Nat.gcd_pos_of_pos_right _ hd
  have a1 : Nat.gcd a b * fN a b = a := Nat.mul_div_cancel' (Nat.gcd_dvd_left a b)
  have b1 : Nat.gcd a b * fD a b = b := Nat.mul_div_cancel' (Nat.gcd_dvd_right a b)
  have c1 : Nat.gcd c d * fN c d = c := Nat.mul_div_cancel' (Nat.gcd_dvd_left c d)
  have d1 : Nat.gcd c d * fD c d = d := Nat.mul_div_cancel' (Nat.gcd_dvd_right c d)
  have co1 : Nat.Coprime (fN a b) (fD a b) := Nat.coprime_div_gcd_div_gcd g1
  have co2 : Nat.Coprime (fN c d) (fD c d) := Nat.coprime_div_gcd_div_gcd g2
  have key : fN a b * fD c d = fN c d * fD a b := by
    have e : (Nat.gcd a b * Nat.gcd c d) * (fN a b * fD c d) = (Nat.gcd a b * Nat.gcd c d) * (fN c d * fD a b) := by
      have e1 : (Nat.gcd a b * Nat.gcd c d) * (fN a b * fD c d) = (Nat.gcd a b * fN a b) * (Nat.gcd c d * fD c d) := by ac_rfl
      have e2 : (Nat.gcd a b * Nat.gcd c d) * (fN c d * fD a b) = (Nat.gcd c d * fN c d) * (Nat.gcd a b * fD a b) := by ac_rfl
      rw [e1, e2, a1, b1, c1, d1, h]
    exact Nat.eq_of_mul_eq_mul_left (Nat.mul_pos g1 g2) e
  have hbp : 0 < fD a b := Nat.pos_of_ne_zero (fun h0 => by rw [h0] at b1; omega)
  have d12 : fD a b ∣ fD c d := co1.symm.dvd_of_dvd_mul_left (by rw [key]; exact Nat.dvd_mul_left _ _)
  have d21 : fD c d ∣ fD a b := co2.symm.dvd_of_dvd_mul_left (by rw [← key]; exact Nat.dvd_mul_left _ _)
  have eD : fD a b = fD c d := Nat.dvd_antisymm d12 d21
  refine ⟨?_, eD⟩
  rw [eD] at key
  exact Nat.eq_of_mul_eq_mul_right (eD ▸ hbp) key
theorem frac_mul {a b : Nat} (hb : 0 < b) : 0 < fD a b ∧ fN a b * b = a * fD a b ∧ fN a b ≤ a ∧ fD a b ≤ b := by
  have g1 : 0 < Nat.gcd a b := Nat.gcd_pos_of_pos_right _ hb
  have a1 : Nat.gcd a b * fN a b = a := Nat.mul_div_cancel' (Nat.gcd_dvd_left a b)
  have b1 : Nat.gcd a b * fD a b = b := Nat.mul_div_cancel' (Nat.gcd_dvd_right a b)
  refine ⟨Nat.pos_of_ne_zero (fun h0 => by rw [h0] at b1; omega), ?_, Nat.div_le_self _ _, Nat.div_le_self _ _⟩
  generalize fN a b = x at *
  generalize fD a b = y at *
  generalize Nat.gcd a b = g at *
  subst a1 b1; ac_rfl
/-- The density's terms. -/
theorem den_terms {gs : List Nat} {S p q : Nat} (hs : S < 65536) (h0 : S ≠ 0) (h : denV gs S = (p, q)) : 0 < q ∧ q ≤ 16 ∧ p ≤ 128 ∧ p * pc 16 S = endsOf gs S (ms S) / 2 * q := by
  unfold denV at h
  injection h with h1 h2
  have hp := pc_pos hs h0
  have hl := pc_le 16 S
  have he := endsOf_le gs S (ms S)
  have hm := ms_len S
  obtain ⟨f1, f2, f3, f4⟩ := frac_mul (a := endsOf gs S (ms S) / 2) hp
  rw [h1, h2] at *
  exact ⟨f1, by omega, by omega, f2⟩
theorem DensPost.best {m : Nat} {gs : List Nat} {p q s : Nat} {H : Nat → Nat → Int} {L : Nat → Int} (d : DensPost m gs p q H L s) (hm : m ≤ 16) (hsym : ∀ u v, sHas (near gs u) v = sHas (near gs v) u) (hir : ∀ v, sHas (near gs v) v = false)
    (hlow : ∀ u v, sHas (near gs u) v = true → v < m) :
    s < 65536 ∧ s ≠ 0 ∧ (∀ v, sHas s v = true → v < m) ∧ denV gs s = (p, q) ∧ 0 < q ∧ q ≤ 16 ∧ p ≤ 128 ∧
    ∀ T, T < 65536 → (∀ v, sHas T v = true → v < m) → q * (endsOf gs T (ms T) / 2) ≤ p * pc 16 T ∧ (q * (endsOf gs T (ms T) / 2) = p * pc 16 T → ∀ v, sHas T v = true → sHas s v = true) := by
  obtain ⟨S, hS, hS0, hSm, hSd⟩ := d.att
  obtain ⟨q0, q16, p128, hpq⟩ := den_terms hS hS0 hSd
  have hall : ∀ v, v < m → v ∈ ms (sAll m) := fun v hv => mem_ms.2 ⟨by omega, by unfold sHas; rw [all_bit]; simpa using hv⟩
  have hmem : ∀ v, v ∈ ms (sAll m) → v < m := fun v hv => by have := (mem_ms.1 hv).2; unfold sHas at this; rw [all_bit] at this; simpa using this
  have hle : ∀ T, (∀ v, sHas T v = true → v < m) → ∀ v, v < 16 → sHas T v = true → L v ≤ p := fun T hT v _ hv => d.le v (hall v (hT v hv))
  have hup : ∀ T, T < 65536 → (∀ v, sHas T v = true → v < m) → q * (endsOf gs T (ms T) / 2) ≤ p * pc 16 T := fun T hT hTm => by
    have h1 := d.sp.none_denser hsym (hle T hTm)
    have h2 := ends_even hsym hir T
    have h3 : 2 * (q * (endsOf gs T (ms T) / 2)) ≤ 2 * (p * pc 16 T) := by
      have e : 2 * (q * (endsOf gs T (ms T) / 2)) = q * endsOf gs T (ms T) := by
        calc 2 * (q * (endsOf gs T (ms T) / 2)) = q * (2 * (endsOf gs T (ms T) / 2)) := by ac_rfl
          _ = q * endsOf gs T (ms T) := by rw [← h2]
      rw [e]; exact_mod_cast h1
    omega
  have hti : ∀ T, T < 65536 → (∀ v, sHas T v = true → v < m) → q * (endsOf gs T (ms T) / 2) = p * pc 16 T → ∀ v, sHas T v = true → sHas s v = true := fun T hT hTm he v hv => by
    have h2 := ends_even hsym hir T
    have he2 : (q : Int) * (endsOf gs T (ms T) : Int) = 2 * ((p : Int) * (pc 16 T : Int)) := by
      have e : q * endsOf gs T (ms T) = 2 * (p * pc 16 T) := by
        rw [← he]
        calc q * endsOf gs T (ms T) = q * (2 * (endsOf gs T (ms T) / 2)) := by rw [← h2]
          _ = 2 * (q * (endsOf gs T (ms T) / 2)) := by ac_rfl
      exact_mod_cast e
    have ht := d.sp.tight hsym (hle T hTm) he2
    have hv16 := lt16_bits hT hv
    rcases d.full.all v (hall v (hTm v hv)) with h | h | h
    · exact h
    · exact absurd (ht v hv16 hv).1 h
    · exact absurd h (not_freed hv (fun a ha hTa u hu _ hn => (ht a ha hTa).2 u hu hn) (fun a ha hTa => by have := (ht a ha hTa).1; omega))
  have hsm : ∀ v, sHas s v = true → v < m := fun v hv => hmem v (d.full.sub v hv).1
  have hs0 : s ≠ 0 := fun e => by
    obtain ⟨v, hv⟩ := List.exists_mem_of_ne_nil _ (ms_ne hS hS0)
    have hv2 := (mem_ms.1 hv).2
    have := hti S hS hSm (by rw [Nat.mul_comm, ← hpq]) v hv2
    rw [e] at this; simp [sHas] at this
  have hcl : ∀ v, v < 16 → sHas s v = true → ∀ u, u < 16 → sHas (near gs v) u = true → H v u ≠ 0 → sHas s u = true := by
    intro v hv hsv u hu hn h0
    obtain ⟨_, hLv, R, hR⟩ := d.full.sub v hsv
    obtain ⟨r1, r2⟩ := hR.stuck rfl
    have hRu := r1 v hv hR.root u hu hn h0
    have hRl : ∀ x, x < 16 → sHas R x = true → (p : Int) ≤ L x := fun x hx hx2 => by
      by_cases e : x = v
      · subst e; omega
      · exact r2 x hx hx2 e
    have hum := hall u (hlow v u hn)
    rcases d.full.all u hum with h | h | h
    · exact h
    · have := hRl u hu hRu; have := d.le u hum; omega
    · exact absurd h (not_freed hRu r1 hRl)
  have hsl := d.full.lt
  have hden : q * (endsOf gs s (ms s) / 2) = p * pc 16 s := by
    have h1 := d.sp.closed hsym hcl
    have h2 : sumN 16 (fun v => if sHas s v = true then L v else 0) = p * (pc 16 s : Int) := by
      rw [pc_sum, ← sumN_mul]
      refine sumN_congr 16 (fun v _ => ?_)
      by_cases e : sHas s v = true
      · rw [if_pos e, if_pos e, (d.full.sub v e).2.1]; omega
      · rw [if_neg e, if_neg e]; omega
    rw [h2] at h1
    have h3 : 2 * (p * pc 16 s) = q * endsOf gs s (ms s) := by exact_mod_cast h1
    have h4 := ends_even hsym hir s
    have h5 : q * endsOf gs s (ms s) = 2 * (q * (endsOf gs s (ms s) / 2)) := by
      calc q * endsOf gs s (ms s) = q * (2 * (endsOf gs s (ms s) / 2)) := by rw [← h4]
        _ = 2 * (q * (endsOf gs s (ms s) / 2)) := by ac_rfl
    omega
  refine ⟨hsl, hs0, hsm, ?_, q0, q16, p128, fun T hT hTm => ⟨hup T hT hTm, hti T hT hTm⟩⟩
  rw [← hSd]
  have hps := pc_pos hsl hs0
  have hpS := pc_pos hS hS0
  unfold denV
  obtain ⟨e1, e2⟩ := frac_eq (a := endsOf gs s (ms s) / 2) (b := pc 16 s) (c := endsOf gs S (ms S) / 2) (d := pc 16 S) hps hpS (by
    have k1 : q * (endsOf gs s (ms s) / 2 * pc 16 S) = q * (endsOf gs S (ms S) / 2 * pc 16 s) := by
      calc q * (endsOf gs s (ms s) / 2 * pc 16 S) = (q * (endsOf gs s (ms s) / 2)) * pc 16 S := by ac_rfl
        _ = (p * pc 16 s) * pc 16 S := by rw [hden]
        _ = (p * pc 16 S) * pc 16 s := by ac_rfl
        _ = (endsOf gs S (ms S) / 2 * q) * pc 16 s := by rw [hpq]
        _ = q * (endsOf gs S (ms S) / 2 * pc 16 s) := by ac_rfl
    exact Nat.eq_of_mul_eq_mul_left q0 k1)
  rw [e1, e2]
end Go.Proofs.Ytmfpegadcecknaa
