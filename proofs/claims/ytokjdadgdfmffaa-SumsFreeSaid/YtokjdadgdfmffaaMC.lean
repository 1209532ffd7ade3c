/- The same by the numbers of elements. -/
import Derived.Test.YtokjdadgdfmffaaMA
namespace Go.Proofs.Ytokjdadgdfmffaa
set_option maxRecDepth 100000
/-- The number of what is left of the element with number c. -/
def lsN (m n c : Nat) (e : Int × Int) : Nat := ((((c / n : Nat) : Int) - e.1) % m).toNat * n + ((((c % n : Nat) : Int) - e.2) % n).toNat
theorem lsN_ok {m n : Nat} (hm : 1 ≤ m) (hn : 1 ≤ n) (c : Nat) (e : Int × Int) :
    lsN m n c e < m * n ∧ ((lsN m n c e / n : Nat) : Int) = (((c / n : Nat) : Int) - e.1) % m ∧ ((lsN m n c e % n : Nat) : Int) = (((c % n : Nat) : Int) - e.2) % n := by
  have a1 := Int.emod_nonneg (((c / n : Nat) : Int) - e.1) (show (m : Int) ≠ 0 by omega)
  have a2 := Int.emod_lt_of_pos (((c / n : Nat) : Int) - e.1) (show (0 : Int) < m by omega)
  have b1 := Int.emod_nonneg (((c % n : Nat) : Int) - e.2) (show (n : Int) ≠ 0 by omega)
  have b2 := Int.emod_lt_of_pos (((c % n : Nat) : Int) - e.2) (show (0 : Int) < n by omega)
  unfold lsN
  obtain ⟨x, hx⟩ := Int.eq_ofNat_of_zero_le a1
  obtain ⟨y, hy⟩ := Int.eq_ofNat_of_zero_le b1
  rw [hx] at a2 ⊢
  rw [hy] at b2 ⊢
  have hx2 : x < m := by omega
  have hy2 : y < n := by omega
  have e1 : (Int.ofNat x).toNat = x := rfl
  have e2 : (Int.ofNat y).toNat = y := rfl
  show (x : Int).toNat * n + (y : Int).toNat < m * n ∧ ((((x : Int).toNat * n + (y : Int).toNat) / n : Nat) : Int) = x ∧ ((((x : Int).toNat * n + (y : Int).toNat) % n : Nat) : Int) = y
  rw [Int.toNat_natCast, Int.toNat_natCast]
  refine ⟨?_, ?_, ?_⟩
  · have := Nat.mul_le_mul_right n (show x + 1 ≤ m by omega)
    rw [Nat.add_mul] at this
    omega
  · rw [Nat.add_comm, Nat.add_mul_div_right _ _ (by omega), Nat.div_eq_of_lt hy2]; simp
  · rw [Nat.add_comm, Nat.add_mul_mod_self_right, Nat.mod_eq_of_lt hy2]
def szN (m n : Nat) (l : List (Int × Int)) (c : Nat) : Nat := szL m n l (c / n : Nat) (c % n : Nat)
def nzN (m n : Nat) (l : List (Int × Int)) (c : Nat) : Nat := nzL m n l (c / n : Nat) (c % n : Nat)
def gdN (m n i : Nat) (l : List (Int × Int)) (c r : Nat) : List Int := gdL m n i l (c / n : Nat) (c % n : Nat) r
variable {m n : Nat}
theorem szN_nil (_hn : 1 ≤ n) (c : Nat) : szN m n [] c = if c = 0 then 0 else farN := by
  unfold szN szL
  by_cases h : c = 0
  · subst h; simp
  · rw [if_neg h, if_neg]
    rintro ⟨h1, h2⟩
    have h3 := Nat.div_add_mod c n
    have h4 : c / n = 0 := by omega
    have h5 : c % n = 0 := by omega
    rw [h4, h5] at h3
    simp at h3
    omega
theorem szN_le (l : List (Int × Int)) (c : Nat) : szN m n l c ≤ farN := szL_le m n l _ _
theorem szN_cons (hm : 1 ≤ m) (hn : 1 ≤ n) (e : Int × Int) (l : List (Int × Int)) (c : Nat) : szN m n (e :: l) c = min (szN m n l c) (1 + szN m n l (lsN m n c e)) := by
  obtain ⟨-, h1, h2⟩ := lsN_ok hm hn c e
  unfold szN
  rw [h1, h2]; rfl
theorem nzN_cons (hm : 1 ≤ m) (hn : 1 ≤ n) (e : Int × Int) (l : List (Int × Int)) (c : Nat) : nzN m n (e :: l) c = min (nzN m n l c) (1 + szN m n l (lsN m n c e)) := by
  obtain ⟨-, h1, h2⟩ := lsN_ok hm hn c e
  unfold nzN szN
  rw [h1, h2]; rfl
theorem nzN_nil (c : Nat) : nzN m n [] c = farN := rfl
theorem nzL_le (m n : Nat) : ∀ l a b, nzL m n l a b ≤ farN
  | [], _, _ => Nat.le_refl _
  | e :: l, a, b => by
    have := nzL_le m n l a b
    unfold nzL
    omega
theorem nzN_le (l : List (Int × Int)) (c : Nat) : nzN m n l c ≤ farN := nzL_le m n l _ _
theorem gdN_cons (hm : 1 ≤ m) (hn : 1 ≤ n) (i : Nat) (e : Int × Int) (l : List (Int × Int)) (c r : Nat) (hr : r ≠ 0) : gdN m n i (e :: l) c r = if 1 + szN m n l (lsN m n c e) = r then (i : Int) :: gdN m n (i + 1) l (lsN m n c e) (r - 1) else gdN m n (i + 1) l c r := by
  obtain ⟨-, h1, h2⟩ := lsN_ok hm hn c e
  unfold gdN szN
  rw [h1, h2]
  show (if r = 0 then _ else _) = _
  rw [if_neg hr]
theorem gdN_zero (i : Nat) (l : List (Int × Int)) (c : Nat) : gdN m n i l c 0 = [] := gdL_zero m n i l _ _
theorem gdN_nil (i c r : Nat) : gdN m n i [] c r = [] := rfl
/-- The number of an element. -/
def cdN (n : Nat) (a b : Int) : Nat := a.toNat * n + b.toNat
theorem cdN_ok {a b : Int} (h : El m n a b) : cdN n a b < m * n ∧ ((cdN n a b / n : Nat) : Int) = a ∧ ((cdN n a b % n : Nat) : Int) = b := by
  obtain ⟨a1, a2, b1, b2⟩ := h
  obtain ⟨x, rfl⟩ := Int.eq_ofNat_of_zero_le a1
  obtain ⟨y, rfl⟩ := Int.eq_ofNat_of_zero_le b1
  have hx2 : x < m := by omega
  have hy2 : y < n := by omega
  unfold cdN
  rw [Int.toNat_natCast, Int.toNat_natCast]
  refine ⟨?_, ?_, ?_⟩
  · have := Nat.mul_le_mul_right n (show x + 1 ≤ m by omega)
    rw [Nat.add_mul] at this
    omega
  · rw [Nat.add_comm, Nat.add_mul_div_right _ _ (by omega), Nat.div_eq_of_lt hy2]; simp
  · rw [Nat.add_comm, Nat.add_mul_mod_self_right, Nat.mod_eq_of_lt hy2]
/-- Part and Zero choose as the reference does. -/
theorem nz_part (hg : Gr m n) {l : List (Int × Int)} (he : ∀ e ∈ l, El m n e.1 e.2) (hl : l.length ≤ 60) {a b : Int} (h : El m n a b) :
    (nzN m n l (cdN n a b) = lnF (shF m n 0 l a b)) ∧ (¬(a = 0 ∧ b = 0) → szN m n l (cdN n a b) = nzN m n l (cdN n a b)) ∧ (nzN m n l (cdN n a b) < farN → gdN m n 0 l (cdN n a b) (nzN m n l (cdN n a b)) = shF m n 0 l a b) := by
  obtain ⟨-, h1, h2⟩ := cdN_ok h
  unfold nzN szN gdN
  rw [h1, h2]
  obtain ⟨k1, k2⟩ := sz_nz hg l he hl 0 a b h
  exact ⟨k1, k2, gd_sh hg l he hl 0 a b h⟩
end Go.Proofs.Ytokjdadgdfmffaa
