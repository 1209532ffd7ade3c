/- Olson: of m + n - 1 pairs, where m divides n, some have a sum that is zero modulo m and n (plain mathematics). -/
import Derived.Test.YtokjdadgdfmffaaKA
namespace Go.Proofs.Ytokjdadgdfmffaa.Ols
abbrev V := Nat → Int
def add (u v : V) : V := fun j => u j + v j
def Del (v : V) (f : V → Int) : V → Int := fun u => f u - f (add u v)
/-- The degree is less than k. -/
def D : Nat → (V → Int) → Prop
  | 0, f => ∀ u, f u = 0
  | k + 1, f => ∀ v, D k (Del v f)
theorem D_congr : ∀ {k : Nat} {f g : V → Int}, (∀ u, f u = g u) → D k f → D k g
  | 0, f, g, h, hf => fun u => by rw [← h u]; exact hf u
  | k + 1, f, g, h, hf => fun v => D_congr (fun u => by unfold Del; rw [h, h]) (hf v)
theorem D_zero : ∀ (k : Nat), D k fun _ => 0
  | 0 => fun _ => rfl
  | k + 1 => fun v => D_congr (fun u => by unfold Del; rfl) (D_zero k)
theorem D_up : ∀ {k : Nat} {f : V → Int}, D k f → D (k + 1) f
  | 0, f, hf => fun v => fun u => by unfold Del; rw [hf, hf]; rfl
  | k + 1, f, hf => fun v => D_up (hf v)
theorem D_mono {k l : Nat} {f : V → Int} (h : k ≤ l) (hf : D k f) : D l f := by
  obtain ⟨d, rfl⟩ := Nat.exists_eq_add_of_le h
  induction d with
  | zero => exact hf
  | succ d ih => exact D_up (ih (by omega))
theorem D_add : ∀ {k : Nat} {f g : V → Int}, D k f → D k g → D k fun u => f u + g u
  | 0, f, g, hf, hg => fun u => by
    show f u + g u = 0
    rw [hf, hg]; rfl
  | k + 1, f, g, hf, hg => fun v => D_congr (fun u => by simp only [Del]; omega) (D_add (hf v) (hg v))
theorem D_neg : ∀ {k : Nat} {f : V → Int}, D k f → D k fun u => -f u
  | 0, f, hf => fun u => by
    show -f u = 0
    rw [hf]; rfl
  | k + 1, f, hf => fun v => D_congr (fun u => by simp only [Del]; omega) (D_neg (hf v))
theorem D_mul_zero : ∀ {f g : V → Int} {k : Nat}, (∀ u, f u = 0) → D k fun u => f u * g u := fun {f g k} h => D_congr (fun u => by rw [h u, Int.zero_mul]) (D_zero k)
/-- The degrees of a product add. -/
theorem D_mul : ∀ (s a b : Nat) (f g : V → Int), a + b = s → D a f → D b g → D (a + b - 1) fun u => f u * g u
  | s, 0, b, f, g, _, hf, _ => D_mul_zero hf
  | s, a + 1, 0, f, g, _, _, hg => D_congr (fun u => by rw [Int.mul_comm]) (D_mul_zero (f := g) (g := f) hg)
  | 0, a + 1, b + 1, _, _, h, _, _ => by omega
  | s + 1, a + 1, b + 1, f, g, h, hf, hg => by
    have e : a + 1 + (b + 1) - 1 = (a + b) + 1 := by omega
    rw [e]
    intro v
    have h1 := D_mul s (a + 1) b f (Del v g) (by omega) hf (hg v)
    have h2 := D_mul s a (b + 1) (Del v f) g (by omega) (hf v) hg
    have h3 := D_mul (s - 1) a b (Del v f) (Del v g) (by omega) (hf v) (hg v)
    rw [show a + 1 + b - 1 = a + b by omega] at h1
    rw [show a + (b + 1) - 1 = a + b by omega] at h2
    have h3 := D_mono (l := a + b) (by omega) h3
    refine D_congr (fun u => ?_) (D_add (D_add h1 h2) (D_neg h3))
    show f u * Del v g u + Del v f u * g u + -(Del v f u * Del v g u) = f u * g u - f (add u v) * g (add u v)
    unfold Del
    generalize f u = a1
    generalize g u = b1
    generalize f (add u v) = a2
    generalize g (add u v) = b2
    rw [Int.mul_sub, Int.sub_mul, Int.sub_mul, Int.mul_sub, Int.mul_sub]
    omega
theorem D_const (c : Int) : D 1 fun _ => c := fun v => fun u => by simp only [Del]; omega
theorem D_coord (j : Nat) : D 2 fun u => u j := fun v => D_congr (fun u => by simp only [Del, add]; omega) (D_const (-v j))
theorem D_pow {f : V → Int} (hf : D 2 f) : ∀ k : Nat, D (k + 1) fun u => f u ^ k
  | 0 => D_congr (fun u => by rw [Int.pow_zero]) (D_const 1)
  | k + 1 => by
    have h := D_mul _ (k + 1) 2 _ _ rfl (D_pow hf k) hf
    rw [show k + 1 + 2 - 1 = k + 1 + 1 by omega] at h
    exact D_congr (fun u => by rw [Int.pow_succ]) h
/-- Is this vector zero modulo a prime, in the first d coordinates? 1 or 0, modulo the prime. -/
def ind (p : Nat) : Nat → V → Int
  | 0, _ => 1
  | d + 1, u => ind p d u * (1 - u d ^ (p - 1))
theorem D_ind {p : Nat} (hp : 1 ≤ p) : ∀ d, D (d * (p - 1) + 1) (ind p d)
  | 0 => by rw [Nat.zero_mul]; exact D_const 1
  | d + 1 => by
    have h1 : D p fun u => 1 - u d ^ (p - 1) := by
      have h2 := D_pow (D_coord d) (p - 1)
      rw [show p - 1 + 1 = p by omega] at h2
      exact D_congr (fun u => by omega) (D_add (D_mono (l := p) hp (D_const 1)) (D_neg h2))
    have h := D_mul _ (d * (p - 1) + 1) p _ _ rfl (D_ind hp d) h1
    rw [show d * (p - 1) + 1 + p - 1 = (d + 1) * (p - 1) + 1 by rw [Nat.succ_mul]; omega] at h
    exact h
/-- The alternating sum over all parts of a list. -/
def S {α : Type} (φ : α → V) (f : V → Int) : List α → V → Int
  | [], u => f u
  | x :: L, u => S φ f L u - S φ f L (add u (φ x))
theorem S_zero {α : Type} (φ : α → V) : ∀ (L : List α) {k : Nat} {f : V → Int}, D k f → k ≤ L.length → ∀ u, S φ f L u = 0
  | [], 0, f, hf, _, u => hf u
  | x :: L, k, f, hf, hk, u => by
    have key : ∀ (L : List α) (v : V) (f : V → Int) (u : V), S φ f L u - S φ f L (add u v) = S φ (Del v f) L u := by
      intro L v
      induction L with
      | nil => intro f u; rfl
      | cons y L ih =>
        intro f u
        show (S φ f L u - S φ f L (add u (φ y))) - (S φ f L (add u v) - S φ f L (add (add u v) (φ y))) = S φ (Del v f) L u - S φ (Del v f) L (add u (φ y))
        rw [← ih f u, ← ih f (add u (φ y))]
        have e : add (add u v) (φ y) = add (add u (φ y)) v := by funext j; simp only [add]; omega
        rw [e]; omega
    show S φ f L u - S φ f L (add u (φ x)) = 0
    rw [key]
    rcases k with _ | k
    · exact S_zero φ L (k := 0) (f := Del (φ x) f) (fun u => by unfold Del; rw [hf, hf]; rfl) (Nat.zero_le _) u
    · exact S_zero φ L (hf (φ x)) (by simpa using hk) u
/-- The sum of a part. -/
def sv {α : Type} (φ : α → V) : List α → V
  | [] => fun _ => 0
  | x :: L => add (φ x) (sv φ L)
theorem add_zero (u : V) : add u (fun _ => 0) = u := by funext j; simp only [add]; omega
theorem add_assoc (u v w : V) : add (add u v) w = add u (add v w) := by funext j; simp only [add]; omega
theorem S_all {α : Type} (φ : α → V) {p : Int} {f : V → Int} : ∀ (L : List α) (u : V), (∀ T, T.Sublist L → p ∣ f (add u (sv φ T))) → p ∣ S φ f L u
  | [], u, h => by
    have := h [] (List.Sublist.refl _)
    rwa [show sv φ [] = (fun _ => 0) from rfl, add_zero] at this
  | x :: L, u, h => by
    refine Int.dvd_sub (S_all φ L u fun T hT => h T (hT.cons x)) (S_all φ L _ fun T hT => ?_)
    rw [add_assoc]
    exact h (x :: T) (hT.cons_cons x)
theorem S_one {α : Type} (φ : α → V) {p : Int} {f : V → Int} : ∀ (L : List α) (u : V), (∀ T, T.Sublist L → T ≠ [] → p ∣ f (add u (sv φ T))) → p ∣ S φ f L u - f u
  | [], u, _ => by
    show p ∣ f u - f u
    rw [Int.sub_self]; exact Int.dvd_zero p
  | x :: L, u, h => by
    have h1 := S_one φ L u fun T hT hne => h T (hT.cons x) hne
    have h2 := S_all φ (p := p) (f := f) L (add u (φ x)) fun T hT => by
      rw [add_assoc]
      exact h (x :: T) (hT.cons_cons x) (by simp)
    have h3 := Int.dvd_sub h1 h2
    have e : S φ f L u - f u - S φ f L (add u (φ x)) = S φ f (x :: L) u - f u := by
      show _ = S φ f L u - S φ f L (add u (φ x)) - f u
      omega
    rwa [e] at h3
/-- Fermat's little theorem for the primes that are wanted. -/
def PrS (p : Nat) : Prop := p = 2 ∨ p = 3 ∨ p = 5 ∨ p = 7 ∨ p = 11
theorem pow_mod (x : Int) (p : Nat) : ∀ k : Nat, x ^ k % p = (x % p) ^ k % p
  | 0 => by rw [Int.pow_zero, Int.pow_zero]
  | k + 1 => by
    rw [Int.pow_succ, Int.pow_succ, Int.mul_emod, pow_mod x p k, Int.mul_emod ((x % p) ^ k), Int.emod_emod]
theorem fermat_small : ∀ p ∈ [2, 3, 5, 7, 11], ∀ a ∈ List.range p, a ≠ 0 → a ^ (p - 1) % p = 1 := by decide
theorem fermat {p : Nat} (hp : PrS p) {x : Int} (h : ¬ (p : Int) ∣ x) : (p : Int) ∣ 1 - x ^ (p - 1) := by
  have hpos : 2 ≤ p := by unfold PrS at hp; omega
  have h0 := Int.emod_nonneg x (b := p) (by omega)
  have h1 := Int.emod_lt_of_pos x (b := p) (by omega)
  have hne : x % p ≠ 0 := fun e => h (Int.dvd_of_emod_eq_zero e)
  obtain ⟨a, ha⟩ := Int.eq_ofNat_of_zero_le h0
  have h2 := fermat_small p (by unfold PrS at hp; simp; exact hp) a (List.mem_range.2 (by omega)) (by omega)
  have h3 : x ^ (p - 1) % p = 1 := by
    rw [pow_mod, ha]
    have : ((a : Int) ^ (p - 1)) % (p : Int) = ((a ^ (p - 1) % p : Nat) : Int) := by
      rw [Int.natCast_emod, Int.natCast_pow]
    rw [this, h2]; rfl
  apply Int.dvd_of_emod_eq_zero
  rw [Int.sub_emod, h3]
  have : (1 : Int) % p = 1 := Int.emod_eq_of_lt (by omega) (by omega)
  rw [this]; rfl
theorem ind_dvd {p : Nat} (hp : PrS p) : ∀ (d : Nat) (u : V), ¬ (p : Int) ∣ ind p d u → ∀ j, j < d → (p : Int) ∣ u j
  | 0, _, _ => fun j hj => by omega
  | d + 1, u, h => fun j hj => by
    have h1 : ¬ (p : Int) ∣ ind p d u := fun h2 => h (Int.dvd_mul_of_dvd_left h2)
    by_cases e : j = d
    · subst e
      apply Classical.byContradiction
      intro h2
      exact h (Int.dvd_mul_of_dvd_right (fermat hp h2))
    · exact ind_dvd hp d u h1 j (by omega)
theorem ind_zero {p : Nat} (hp : 2 ≤ p) : ∀ d, ind p d (fun _ => 0) = 1
  | 0 => rfl
  | d + 1 => by
    show ind p d (fun _ => 0) * (1 - (0 : Int) ^ (p - 1)) = 1
    rw [ind_zero hp d, Int.zero_pow (by omega)]; rfl
/-- So many vectors have a part whose sum is zero modulo a prime. -/
theorem olson_p {α : Type} (φ : α → V) {p : Nat} (hp : PrS p) (d : Nat) (L : List α) (hL : d * (p - 1) + 1 ≤ L.length) : ∃ T, T.Sublist L ∧ T ≠ [] ∧ ∀ j, j < d → (p : Int) ∣ sv φ T j := by
  have hpos : 2 ≤ p := by unfold PrS at hp; omega
  apply Classical.byContradiction
  intro hno
  have h1 := S_zero φ L (D_ind (p := p) (by omega) d) hL (fun _ => 0)
  have h2 := S_one φ (p := (p : Int)) (f := ind p d) L (fun _ => 0) fun T hT hne => by
    apply Classical.byContradiction
    intro h3
    have e : add (fun _ => 0) (sv φ T) = sv φ T := by funext j; simp only [add]; omega
    rw [e] at h3
    exact hno ⟨T, hT, hne, ind_dvd hp d _ h3⟩
  rw [h1, ind_zero hpos] at h2
  have := Int.le_of_dvd (by decide) (Int.dvd_neg.1 (by simpa using h2) : (p : Int) ∣ 1)
  omega
def sF {α : Type} (f : α → Int) : List α → Int
  | [] => 0
  | x :: L => f x + sF f L
theorem sF_app {α : Type} (f : α → Int) : ∀ A B : List α, sF f (A ++ B) = sF f A + sF f B
  | [], B => by show sF f B = 0 + sF f B; omega
  | x :: A, B => by
    show f x + sF f (A ++ B) = f x + sF f A + sF f B
    rw [sF_app f A B]; omega
theorem sF_perm {α : Type} (f : α → Int) {A B : List α} (h : A.Perm B) : sF f A = sF f B := by
  induction h with
  | nil => rfl
  | cons x _ ih => show f x + _ = f x + _; rw [ih]
  | swap x y l => show f y + (f x + sF f l) = f x + (f y + sF f l); omega
  | trans _ _ h1 h2 => rw [h1, h2]
theorem sv_eq {α : Type} (φ : α → V) (j : Nat) : ∀ T, sv φ T j = sF (fun x => φ x j) T
  | [] => rfl
  | x :: T => by
    show φ x j + sv φ T j = φ x j + _
    rw [sv_eq φ j T]
theorem sF_one {α : Type} : ∀ T : List α, sF (fun _ => 1) T = T.length
  | [] => rfl
  | x :: T => by
    show 1 + sF (fun _ => 1) T = ((x :: T).length : Int)
    rw [sF_one T, List.length_cons]; omega
theorem sub_rest {α : Type} {T L : List α} (h : T.Sublist L) : ∃ R, (T ++ R).Perm L := by
  induction h with
  | slnil => exact ⟨[], List.Perm.refl _⟩
  | cons a _ ih =>
    obtain ⟨R, h⟩ := ih
    exact ⟨a :: R, List.perm_middle.trans (h.cons a)⟩
  | cons_cons a _ ih =>
    obtain ⟨R, h⟩ := ih
    exact ⟨R, h.cons a⟩
theorem partB {α : Type} (f g : α → Int) {p : Nat} (hp : PrS p) (L : List α) (hL : 2 * p ≤ L.length + 1) : ∃ T R, (T ++ R).Perm L ∧ T ≠ [] ∧ (p : Int) ∣ sF f T ∧ (p : Int) ∣ sF g T := by
  have hpos : 2 ≤ p := by unfold PrS at hp; omega
  obtain ⟨T, hT, hne, hd⟩ := olson_p (fun x j => if j = 0 then f x else g x) hp 2 L (by omega)
  obtain ⟨R, hR⟩ := sub_rest hT
  have h0 := hd 0 (by omega)
  have h1 := hd 1 (by omega)
  rw [sv_eq] at h0 h1
  exact ⟨T, R, hR, hne, h0, h1⟩
theorem partA {α : Type} (f g : α → Int) {p : Nat} (hp : PrS p) (L : List α) (hL : 3 * p ≤ L.length + 2) : ∃ T R, (T ++ R).Perm L ∧ T ≠ [] ∧ T.length ≤ p ∧ (p : Int) ∣ sF f T ∧ (p : Int) ∣ sF g T := by
  have hpos : 2 ≤ p := by unfold PrS at hp; omega
  obtain ⟨T, hT, hne, hd⟩ := olson_p (fun x j => if j = 0 then f x else if j = 1 then g x else 1) hp 3 (L.take (3 * (p - 1) + 1)) (by rw [List.length_take]; omega)
  have hTl := hT.length_le
  rw [List.length_take] at hTl
  obtain ⟨R, hR⟩ := sub_rest (hT.trans (List.take_sublist _ _))
  have h0 := hd 0 (by omega)
  have h1 := hd 1 (by omega)
  have h2 := hd 2 (by omega)
  rw [sv_eq] at h0 h1 h2
  have h0 : (p : Int) ∣ sF f T := h0
  have h1 : (p : Int) ∣ sF g T := h1
  have h2 : (p : Int) ∣ sF (fun _ => 1) T := h2
  rw [sF_one] at h2
  obtain ⟨k, hk⟩ := h2
  have hk3 : k = 1 ∨ k = 2 := by
    have hT0 : 0 < T.length := List.length_pos_iff.2 hne
    rcases Int.lt_trichotomy k 0 with h | h | h
    · have : (p : Int) * k ≤ p * (-1) := Int.mul_le_mul_of_nonneg_left (by omega) (by omega)
      omega
    · subst h; omega
    · rcases Int.lt_or_le k 3 with h3 | h3
      · omega
      · have : (p : Int) * 3 ≤ p * k := Int.mul_le_mul_of_nonneg_left h3 (by omega)
        omega
  rcases hk3 with rfl | rfl
  · exact ⟨T, R, hR, hne, by omega, h0, h1⟩
  · cases T with
    | nil => exact absurd rfl hne
    | cons t T0 =>
      simp only [List.length_cons] at hk
      obtain ⟨U, W, hU, hUn, u0, u1⟩ := partB f g hp T0 (by omega)
      have hUl := hU.length_eq
      rw [List.length_append] at hUl
      have s0 := sF_perm f hU
      have s1 := sF_perm g hU
      rw [sF_app] at s0 s1
      by_cases hc : U.length ≤ p
      · refine ⟨U, t :: (W ++ R), ?_, hUn, hc, u0, u1⟩
        refine List.perm_middle.trans ((List.Perm.cons t ?_).trans hR)
        rw [← List.append_assoc]
        exact hU.append_right R
      · refine ⟨t :: W, U ++ R, ?_, by simp, by simp only [List.length_cons]; omega, ?_, ?_⟩
        · refine (List.Perm.cons t ?_).trans hR
          show (W ++ (U ++ R)).Perm (T0 ++ R)
          rw [← List.append_assoc]
          exact (List.perm_append_comm.trans hU).append_right R
        · have e : sF f (t :: W) = sF f (t :: T0) - sF f U := by
            show f t + sF f W = f t + sF f T0 - sF f U
            omega
          rw [e]; exact Int.dvd_sub h0 u0
        · have e : sF g (t :: W) = sF g (t :: T0) - sF g U := by
            show g t + sF g W = g t + sF g T0 - sF g U
            omega
          rw [e]; exact Int.dvd_sub h1 u1
/-- So many parts without a common element, each with a sum that is zero modulo the prime. -/
theorem parts {α : Type} (f g : α → Int) {p : Nat} (hp : PrS p) : ∀ (s : Nat) (L : List α), s * p + 2 * p ≤ L.length + 1 →
    ∃ (Ts : List (List α)) (R : List α), Ts.length = s + 1 ∧ (Ts.flatten ++ R).Perm L ∧ ∀ T ∈ Ts, T ≠ [] ∧ (p : Int) ∣ sF f T ∧ (p : Int) ∣ sF g T
  | 0, L, h => by
    obtain ⟨T, R, h1, h2, h3⟩ := partB f g hp L (by omega)
    exact ⟨[T], R, rfl, by simpa using h1, fun T' hT => by rw [List.mem_singleton.1 hT]; exact ⟨h2, h3⟩⟩
  | s + 1, L, h => by
    have hpos : 2 ≤ p := by unfold PrS at hp; omega
    rw [Nat.succ_mul] at h
    obtain ⟨T, R, h1, h2, h3, h4⟩ := partA f g hp L (by omega)
    have hl := h1.length_eq
    rw [List.length_append] at hl
    obtain ⟨Ts, R2, k1, k2, k3⟩ := parts f g hp s R (by omega)
    refine ⟨T :: Ts, R2, by simp [k1], ?_, fun T' hT => ?_⟩
    · rw [List.flatten_cons, List.append_assoc]
      exact (k2.append_left T).trans h1
    · rcases List.mem_cons.1 hT with rfl | hT
      · exact ⟨h2, h4⟩
      · exact k3 T' hT
theorem len_le {α : Type} [DecidableEq α] : ∀ (A B : List α), A.Nodup → (∀ x ∈ A, x ∈ B) → A.length ≤ B.length
  | [], B, _, _ => by simp
  | a :: A, B, hn, h => by
    have hn := List.nodup_cons.1 hn
    have hb := h a (by simp)
    have := len_le A (B.erase a) hn.2 fun x hx => (List.mem_erase_of_ne (fun e => hn.1 (by rw [← e]; exact hx))).2 (h x (List.mem_cons_of_mem _ hx))
    rw [List.length_erase_of_mem hb] at this
    have := List.length_pos_of_mem hb
    simp only [List.length_cons]
    omega
/-- As many numbers as the modulus have a part with the sum zero. -/
theorem cyc {α : Type} (g : α → Int) {n : Nat} (hn : 1 ≤ n) (L : List α) (hL : n ≤ L.length) : ∃ T R, (T ++ R).Perm L ∧ T ≠ [] ∧ (n : Int) ∣ sF g T := by
  obtain ⟨i, j, hij, hj, he⟩ : ∃ i j, i < j ∧ j ≤ n ∧ sF g (L.take i) % n = sF g (L.take j) % n := by
    apply Classical.byContradiction
    intro hno
    have hnd : ((List.range (n + 1)).map fun i => (sF g (L.take i) % n).toNat).Nodup := by
      rw [List.Nodup, List.pairwise_map]
      refine List.Pairwise.imp_of_mem ?_ List.pairwise_lt_range
      intro i j hi hj hlt e
      have hj := List.mem_range.1 hj
      have a0 := Int.emod_nonneg (sF g (L.take i)) (b := n) (by omega)
      have b0 := Int.emod_nonneg (sF g (L.take j)) (b := n) (by omega)
      exact hno ⟨i, j, hlt, by omega, by omega⟩
    have := len_le _ (List.range n) hnd fun x hx => by
      obtain ⟨i, _, rfl⟩ := List.mem_map.1 hx
      have a0 := Int.emod_nonneg (sF g (L.take i)) (b := n) (by omega)
      have a1 := Int.emod_lt_of_pos (sF g (L.take i)) (b := n) (by omega)
      exact List.mem_range.2 (by omega)
    simp only [List.length_map, List.length_range] at this
    omega
  have hsplit : L.take j = L.take i ++ (L.take j).drop i := by
    have := (List.take_append_drop i (L.take j)).symm
    rwa [List.take_take, Nat.min_eq_left (by omega)] at this
  refine ⟨(L.take j).drop i, L.take i ++ L.drop j, ?_, ?_, ?_⟩
  · have e : L.take i ++ ((L.take j).drop i ++ L.drop j) = L := by
      rw [← List.append_assoc, ← hsplit, List.take_append_drop]
    refine List.Perm.trans ?_ (List.Perm.of_eq e)
    rw [← List.append_assoc, ← List.append_assoc]
    exact List.perm_append_comm.append_right _
  · intro e
    have := congrArg List.length e
    rw [List.length_drop, List.length_take] at this
    simp at this
    omega
  · have h1 := congrArg (sF g) hsplit
    rw [sF_app] at h1
    apply Int.dvd_of_emod_eq_zero
    have h2 : sF g ((L.take j).drop i) = sF g (L.take j) - sF g (L.take i) := by omega
    rw [h2, Int.sub_emod, ← he, Int.sub_self]; rfl
theorem sF_flat {α : Type} (f : α → Int) (p : Int) : ∀ Ts : List (List α), (∀ T ∈ Ts, p ∣ sF f T) → sF f Ts.flatten = p * sF (fun T => sF f T / p) Ts
  | [], _ => by show (0 : Int) = p * 0; rw [Int.mul_zero]
  | T :: Ts, h => by
    rw [List.flatten_cons, sF_app, sF_flat f p Ts fun T hT => h T (List.mem_cons_of_mem _ hT)]
    show sF f T + _ = p * (sF f T / p + _)
    rw [Int.mul_add, Int.mul_ediv_cancel' (h T (by simp))]
theorem prime_of (m : Nat) (h1 : 2 ≤ m) (h2 : m ≤ 12) : ∃ p, PrS p ∧ ∃ q, m = p * q ∧ 1 ≤ q ∧ q < m := by
  unfold PrS
  have : m = 2 ∨ m = 3 ∨ m = 4 ∨ m = 5 ∨ m = 6 ∨ m = 7 ∨ m = 8 ∨ m = 9 ∨ m = 10 ∨ m = 11 ∨ m = 12 := by omega
  rcases this with rfl | rfl | rfl | rfl | rfl | rfl | rfl | rfl | rfl | rfl | rfl
  · exact ⟨2, by omega, 1, by omega⟩
  · exact ⟨3, by omega, 1, by omega⟩
  · exact ⟨2, by omega, 2, by omega⟩
  · exact ⟨5, by omega, 1, by omega⟩
  · exact ⟨2, by omega, 3, by omega⟩
  · exact ⟨7, by omega, 1, by omega⟩
  · exact ⟨2, by omega, 4, by omega⟩
  · exact ⟨3, by omega, 3, by omega⟩
  · exact ⟨2, by omega, 5, by omega⟩
  · exact ⟨11, by omega, 1, by omega⟩
  · exact ⟨2, by omega, 6, by omega⟩
/-- Olson: of m + n - 1 pairs, where m divides n, some have the sum zero. -/
theorem olson : ∀ (M m : Nat), m ≤ M → 1 ≤ m → m ≤ 12 → ∀ (n : Nat), m ∣ n → 1 ≤ n → ∀ {α : Type} (f g : α → Int) (L : List α), m + n ≤ L.length + 1 →
    ∃ T R, (T ++ R).Perm L ∧ T ≠ [] ∧ (m : Int) ∣ sF f T ∧ (n : Int) ∣ sF g T
  | 0, m, hM, h1, _ => by omega
  | M + 1, m, hM, h1, h12 => by
    intro n hmn hn α f g L hL
    rcases Nat.lt_or_ge m 2 with hm | hm
    · obtain rfl : m = 1 := by omega
      obtain ⟨T, R, k1, k2, k3⟩ := cyc g hn L (by omega)
      exact ⟨T, R, k1, k2, ⟨sF f T, by omega⟩, k3⟩
    · obtain ⟨p, hp, q, rfl, hq, hql⟩ := prime_of m hm h12
      have hpos : 2 ≤ p := by unfold PrS at hp; omega
      obtain ⟨k, rfl⟩ := hmn
      have hqk : 1 ≤ q * k := by
        rcases Nat.eq_zero_or_pos (q * k) with h | h
        · rw [Nat.mul_assoc, h, Nat.mul_zero] at hn; omega
        · exact h
      have hlen : (q + q * k - 2) * p + 2 * p ≤ L.length + 1 := by
        have e : (q + q * k - 2) * p + 2 * p = (q + q * k) * p := by
          rw [← Nat.add_mul]; congr 1; omega
        rw [e, Nat.add_mul, Nat.mul_comm q p, Nat.mul_comm (q * k) p, ← Nat.mul_assoc]
        exact hL
      obtain ⟨Ts, R, t1, t2, t3⟩ := parts f g hp (q + q * k - 2) L hlen
      obtain ⟨T', R', u1, u2, u3, u4⟩ := olson M q (by omega) hq (by omega) (q * k) ⟨k, rfl⟩ hqk (fun T => sF f T / p) (fun T => sF g T / p) Ts (by omega)
      have hmem : ∀ T ∈ T', T ≠ [] ∧ (p : Int) ∣ sF f T ∧ (p : Int) ∣ sF g T := fun T hT => t3 T (u1.mem_iff.1 (List.mem_append_left _ hT))
      refine ⟨T'.flatten, R'.flatten ++ R, ?_, ?_, ?_, ?_⟩
      · rw [← List.append_assoc, ← List.flatten_append]
        exact ((u1.flatten).append_right R).trans t2
      · intro e
        cases T' with
        | nil => exact u2 rfl
        | cons T T2 =>
          rw [List.flatten_cons, List.append_eq_nil_iff] at e
          exact (hmem T (by simp)).1 e.1
      · rw [sF_flat f p T' fun T hT => (hmem T hT).2.1, Int.natCast_mul]
        exact Int.mul_dvd_mul_left _ u3
      · rw [sF_flat g p T' fun T hT => (hmem T hT).2.2, Nat.mul_assoc, Int.natCast_mul]
        exact Int.mul_dvd_mul_left _ u4
end Go.Proofs.Ytokjdadgdfmffaa.Ols
