/- The words without a square in their order: mathematics. -/
import Derived.Test.YtoklnpiehbnalaaAQ
namespace Go.Proofs.Ytoklnpiehbnalaa
set_option maxRecDepth 100000
theorem exts_form {k : Nat} : ∀ r x y, y ∈ exts k r x → ∃ z, y = x ++ z ∧ z.length = r ∧ (∀ b, b ∈ z → b < k) ∧ (free x = true → free y = true)
  | 0, x, y, h => by
    have : y = x := by simpa [exts] using h
    subst this
    exact ⟨[], by simp, rfl, fun b hb => (by cases hb), id⟩
  | r + 1, x, y, h => by
    have key : ∀ c, c ≤ k → y ∈ extsTo k r x c → ∃ z, y = x ++ z ∧ z.length = r + 1 ∧ (∀ b, b ∈ z → b < k) ∧ (free x = true → free y = true) := by
      intro c
      induction c with
      | zero => intro _ h; rw [extsTo_zero] at h; cases h
      | succ c ih =>
        intro hc h
        cases he : endS (x ++ [c])
        · rw [extsTo_yes he] at h
          rcases List.mem_append.1 h with h | h
          · exact ih (by omega) h
          · obtain ⟨z, rfl, h1, h2, h3⟩ := exts_form r _ _ h
            refine ⟨c :: z, by simp, by simp [h1], fun b hb => ?_, fun hf => h3 ?_⟩
            · rcases List.mem_cons.1 hb with rfl | hb
              · omega
              · exact h2 b hb
            · rw [free_snoc, hf, he]; rfl
        · rw [extsTo_no he] at h
          exact ih (by omega) h
    exact key k (Nat.le_refl _) (by rw [← exts_succ]; exact h)
theorem exts_mem {k : Nat} : ∀ (z x : List Nat), free (x ++ z) = true → (∀ b, b ∈ z → b < k) → x ++ z ∈ exts k z.length x
  | [], x, _, _ => by simp [exts]
  | c :: z, x, hf, hk => by
    have e : x ++ c :: z = x ++ [c] ++ z := by simp
    rw [e] at hf ⊢
    have h1 := exts_mem z (x ++ [c]) hf (fun b hb => hk b (List.mem_cons_of_mem _ hb))
    have hc := hk c (List.mem_cons_self ..)
    have h2 : free (x ++ [c]) = true := by
      have := free_take hf (x ++ [c]).length
      rwa [List.take_append_of_le_length (Nat.le_refl _), List.take_length] at this
    rw [free_snoc, Bool.and_eq_true] at h2
    have h3 : endS (x ++ [c]) = false := by simpa using h2.2
    have h4 : x ++ [c] ++ z ∈ extsTo k z.length x (c + 1) := by rw [extsTo_yes h3]; exact List.mem_append_right _ h1
    exact (extsTo_pre k z.length x (show c + 1 ≤ k by omega)).subset h4
/-- A word is no later than another. -/
def lexL (y y' : List Nat) : Prop := y = y' ∨ ∃ p a b s t, a < b ∧ y = p ++ a :: s ∧ y' = p ++ b :: t
theorem exts_least {k : Nat} : ∀ r x y y', (exts k r x).head? = some y → y' ∈ exts k r x → lexL y y'
  | 0, x, y, y', h, h' => by
    have e1 : x = y := by simpa [exts] using h
    have e2 : y' = x := by simpa [exts] using h'
    subst e1 e2
    exact .inl rfl
  | r + 1, x, y, y', h, h' => by
    have key : ∀ c, (extsTo k r x c).head? = some y → y' ∈ extsTo k r x c → lexL y y' ∧ ∃ d z, d < c ∧ y = x ++ d :: z := by
      intro c
      induction c with
      | zero => intro _ h; rw [extsTo_zero] at h; cases h
      | succ c ih =>
        intro h h'
        cases he : endS (x ++ [c])
        · rw [extsTo_yes he] at h h'
          cases hh : extsTo k r x c with
          | nil =>
            rw [hh, List.nil_append] at h h'
            refine ⟨exts_least r _ y y' h h', ?_⟩
            obtain ⟨z, e, -⟩ := exts_form r _ y (List.mem_of_mem_head? h)
            exact ⟨c, z, by omega, by rw [e]; simp⟩
          | cons u L =>
            have hy : (extsTo k r x c).head? = some y := by rw [hh] at h ⊢; simpa using h
            have hd : y ∈ extsTo k r x c := List.mem_of_mem_head? hy
            rcases List.mem_append.1 h' with h1 | h1
            · obtain ⟨h2, d, z, h3, h4⟩ := ih hy h1
              exact ⟨h2, d, z, by omega, h4⟩
            · have hfirst : ∃ d z, d < c ∧ y = x ++ d :: z := by
                have key2 : ∀ e, y ∈ extsTo k r x e → ∃ d z, d < e ∧ y = x ++ d :: z := by
                  intro e
                  induction e with
                  | zero => intro h; rw [extsTo_zero] at h; cases h
                  | succ e ih2 =>
                    intro h
                    cases hx : endS (x ++ [e])
                    · rw [extsTo_yes hx] at h
                      rcases List.mem_append.1 h with h | h
                      · obtain ⟨d, z, h1, h2⟩ := ih2 h
                        exact ⟨d, z, by omega, h2⟩
                      · obtain ⟨z, e1, -⟩ := exts_form r _ y h
                        exact ⟨e, z, by omega, by rw [e1]; simp⟩
                    · rw [extsTo_no hx] at h
                      obtain ⟨d, z, h1, h2⟩ := ih2 h
                      exact ⟨d, z, by omega, h2⟩
                exact key2 c hd
              obtain ⟨d, z, h3, h4⟩ := hfirst
              obtain ⟨z2, e2, -⟩ := exts_form r _ y' h1
              exact ⟨.inr ⟨x, d, c, z, z2, h3, h4, by rw [e2]; simp⟩, d, z, by omega, h4⟩
        · rw [extsTo_no he] at h h'
          obtain ⟨h2, d, z, h3, h4⟩ := ih h h'
          exact ⟨h2, d, z, by omega, h4⟩
    exact (key k (by rw [← exts_succ]; exact h) (by rw [← exts_succ]; exact h')).1
/-- The order of words is the order of strings. -/
theorem bl_cons (a b : UInt8) (x y : List UInt8) : Op.bytesLess (a :: x) (b :: y) = (decide (a < b) || (a == b && Op.bytesLess x y)) := rfl
theorem bl_app (p : List UInt8) (s t : List UInt8) : Op.bytesLess (p ++ s) (p ++ t) = Op.bytesLess s t := by
  induction p with
  | nil => rfl
  | cons a p ih =>
    rw [List.cons_append, List.cons_append, bl_cons, ih, beq_self_eq_true, Bool.true_and, decide_eq_false (UInt8.lt_irrefl a), Bool.false_or]
theorem lex_bytes {y y' : List Nat} (hy : okW y) (hy' : okW y') (h : lexL y y') : (Op.bytesLess (wS y).toList (wS y').toList || ((wS y).toList == (wS y').toList)) = true := by
  rcases h with rfl | ⟨p, a, b, s, t, hab, rfl, rfl⟩
  · rw [Bool.or_eq_true]; right; exact beq_self_eq_true _
  · rw [Bool.or_eq_true]; left
    rw [ba_list, ba_list, wS_data, wS_data, List.map_append, List.map_append, bl_app, List.map_cons, List.map_cons]
    have ha : a < 4 := hy a (by simp)
    have hb : b < 4 := hy' b (by simp)
    have : UInt8.ofNat (97 + a) < UInt8.ofNat (97 + b) := by
      rw [UInt8.lt_iff_toNat_lt]
      simp [UInt8.toNat_ofNat]
      omega
    rw [bl_cons, decide_eq_true this, Bool.true_or]
def w60 : List Nat := [0, 1, 0, 2, 0, 1, 2, 0, 2, 1, 0, 1, 2, 0, 1, 0, 2, 0, 1, 2, 0, 2, 1, 0, 2, 0, 1, 0, 2, 1, 0, 1, 2, 0, 1, 0, 2, 0, 1, 2, 0, 2, 1, 0, 1, 2, 0, 1, 0, 2, 1, 0, 1, 2, 0, 2, 1, 0, 2, 0]
theorem w60_free : free w60 = true := by decide +kernel
theorem first3 {n : Nat} (hn : n ≤ 60) : ∃ y, (exts 3 n []).head? = some y ∧ free y = true ∧ y.length = n ∧ (∀ b, b ∈ y → b < 3) := by
  have hl : w60.length = 60 := rfl
  have h3 : ∀ b, b ∈ w60 → b < 3 := by decide +kernel
  have hm := exts_mem (k := 3) (w60.take n) [] (by rw [List.nil_append]; exact free_take w60_free n) (fun b hb => h3 b (List.mem_of_mem_take hb))
  rw [List.length_take, hl, Nat.min_eq_left hn] at hm
  cases hh : exts 3 n [] with
  | nil => rw [hh] at hm; cases hm
  | cons y L =>
    obtain ⟨z, e, h1, h2, h3⟩ := exts_form n [] y (by rw [hh]; exact List.mem_cons_self ..)
    rw [List.nil_append] at e
    subst e
    exact ⟨y, rfl, h3 rfl, h1, h2⟩
theorem none2 {n : Nat} (hn : 4 ≤ n) : exts 2 n [] = [] := by
  cases hh : exts 2 n [] with
  | nil => rfl
  | cons y L =>
    exfalso
    obtain ⟨z, e, h1, h2, h3⟩ := exts_form n [] y (by rw [hh]; exact List.mem_cons_self ..)
    rw [List.nil_append] at e
    subst e
    have hm := exts_mem (k := 2) (y.take 4) [] (by rw [List.nil_append]; exact free_take (h3 rfl) 4) (fun b hb => h2 b (List.mem_of_mem_take hb))
    rw [List.length_take, h1, Nat.min_eq_left hn] at hm
    have h0 : exts 2 4 [] = [] := by decide +kernel
    rw [h0] at hm
    cases hm
/-- The first word of fewer letters is no later than the beginning of the first word of more. -/
theorem first_le {n m : Nat} {y y' : List Nat} (h : n ≤ m) (h1 : (exts 3 n []).head? = some y) (h2 : (exts 3 m []).head? = some y') : lexL y (y'.take n) := by
  obtain ⟨z, e, g1, g2, g3⟩ := exts_form m [] y' (List.mem_of_mem_head? h2)
  rw [List.nil_append] at e
  subst e
  have hm := exts_mem (k := 3) (y'.take n) [] (by rw [List.nil_append]; exact free_take (g3 rfl) n) (fun b hb => g2 b (List.mem_of_mem_take hb))
  rw [List.length_take, g1, Nat.min_eq_left h, List.nil_append] at hm
  exact exts_least n [] y _ h1 hm
end Go.Proofs.Ytoklnpiehbnalaa
