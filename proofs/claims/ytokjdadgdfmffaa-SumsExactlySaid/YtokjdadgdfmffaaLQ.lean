/- Exactly so many: the reference's table, as numbers. -/
import Derived.Test.YtokjdadgdfmffaaLP
namespace Go.Proofs.Ytokjdadgdfmffaa
/-- Row j of the table: can so many of the numbers from j on have this remainder? -/
def cB (n : Nat) (l : List Int) (j v : Nat) : Bool := cnB n (l.drop j) (v / n) ((v % n : Nat) : Int)
theorem at_div {n k r : Nat} (h : r < n) : (k * n + r) / n = k := by
  rw [Nat.mul_comm, Nat.mul_add_div (by omega), Nat.div_eq_of_lt h]; omega
theorem at_mod {n k r : Nat} (h : r < n) : (k * n + r) % n = r := by
  rw [Nat.mul_comm, Nat.mul_add_mod, Nat.mod_eq_of_lt h]
theorem at_lt {n k r : Nat} (h : r < n) (hk : k ≤ n) : k * n + r < (n + 1) * n := by
  have := Nat.mul_le_mul_right n hk
  rw [Nat.add_mul]; omega
theorem cB_at {n k r : Nat} (l : List Int) (j : Nat) (h : r < n) : cB n l j (k * n + r) = cnB n (l.drop j) k r := by
  unfold cB
  rw [at_div h, at_mod h]
theorem cB_end {n k r : Nat} (l : List Int) (h : r < n) : cB n l l.length (k * n + r) = (decide (k = 0) && decide (r = 0)) := by
  rw [cB_at l _ h, List.drop_length]
  simp [cnB]
theorem drop_geti (l : List Int) {j : Nat} (h : j < l.length) : l.drop j = geti l j :: l.drop (j + 1) := by
  rw [List.drop_eq_getElem_cons h]
  congr 1
  simp [geti, h]
theorem rest_nat (n : Nat) (a : Int) (h : 0 < n) : ∃ s : Nat, s < n ∧ a % n = (s : Int) := by
  have h1 := Int.emod_nonneg a (b := (n : Int)) (by omega)
  have h2 := Int.emod_lt_of_pos a (b := (n : Int)) (by omega)
  exact ⟨(a % n).toNat, by omega, by omega⟩
theorem cB_zero {n r : Nat} (l : List Int) {j : Nat} (h : r < n) (hj : j < l.length) : cB n l j (0 * n + r) = cB n l (j + 1) (0 * n + r) := by
  rw [cB_at l _ h, cB_at l _ h, cnB_zero, cnB_zero]
theorem cB_step {n k r s : Nat} (l : List Int) {j : Nat} (h : r < n) (hj : j < l.length) (hs : s < n) (e : ((r : Int) - geti l j) % n = s) : cB n l j ((k + 1) * n + r) = (cB n l (j + 1) ((k + 1) * n + r) || cB n l (j + 1) (k * n + s)) := by
  rw [cB_at l _ h, cB_at l _ h, cB_at l _ hs, drop_geti l hj, ← e]
  simp [cnB]
/-- The choice from i on, with these chosen. -/
def grT (n : Nat) (l : List Int) (i : Nat) (o : List Int) (a : Int) : List Int := o ++ grL n i (l.drop i) (n - o.length) a
theorem grT_zero (n : Nat) (l : List Int) : grT n l 0 [] 0 = grL n 0 l n 0 := rfl
theorem grT_full {n : Nat} {l : List Int} {i : Nat} {o : List Int} {a : Int} (h : ¬ o.length < n) : grT n l i o a = o := by
  unfold grT
  rw [show n - o.length = 0 by omega]
  cases l.drop i <;> simp [grL]
theorem grT_end {n : Nat} {l : List Int} {o : List Int} {a : Int} : grT n l l.length o a = o := by
  unfold grT
  rw [List.drop_length]
  simp [grL]
theorem grT_yes {n : Nat} {l : List Int} {i s : Nat} {o : List Int} {a : Int} (h : o.length < n) (hi : i < l.length) (hs : s < n) (e : (a - geti l i) % n = s) (c : cB n l (i + 1) ((n - o.length - 1) * n + s) = true) :
    grT n l i o a = grT n l (i + 1) (o ++ [(i : Int)]) s := by
  rw [cB_at l _ hs] at c
  unfold grT
  rw [drop_geti l hi, List.length_append, List.append_assoc, List.length_singleton, ← Nat.sub_sub, List.singleton_append]
  congr 1
  conv => lhs; unfold grL
  rw [if_pos (by omega), e, if_pos c]
theorem grT_no {n : Nat} {l : List Int} {i s : Nat} {o : List Int} {a : Int} (h : o.length < n) (hi : i < l.length) (hs : s < n) (e : (a - geti l i) % n = s) (c : cB n l (i + 1) ((n - o.length - 1) * n + s) = false) :
    grT n l i o a = grT n l (i + 1) o a := by
  rw [cB_at l _ hs] at c
  unfold grT
  rw [drop_geti l hi]
  conv => lhs; unfold grL
  rw [if_pos (by omega), e, if_neg (by rw [c]; decide)]
/-- What the table holds as it is filled up to v. -/
def upB (n : Nat) (l : List Int) (j k r v : Nat) : Bool := decide (v < k * n + r) && cB n l j v
theorem upB_zero (n : Nat) (l : List Int) (j : Nat) (v : Nat) : upB n l j 0 0 v = false := by simp [upB]
theorem upB_next (n : Nat) (l : List Int) (j k v : Nat) : upB n l j k n v = upB n l j (k + 1) 0 v := by
  unfold upB
  rw [Nat.add_mul, Nat.one_mul, Nat.add_zero]
theorem upB_step (n : Nat) (l : List Int) (j k r v : Nat) : (if v = k * n + r then cB n l j (k * n + r) else upB n l j k r v) = upB n l j k (r + 1) v := by
  unfold upB
  by_cases e : v = k * n + r
  · rw [if_pos e, e, decide_eq_true (by omega)]; rfl
  · rw [if_neg e]
    congr 1
    by_cases h : v < k * n + r
    · rw [decide_eq_true h, decide_eq_true (by omega)]
    · rw [decide_eq_false h, decide_eq_false (by omega)]
theorem upB_all (n : Nat) (l : List Int) (j v : Nat) (h : v < (n + 1) * n) : upB n l j (n + 1) 0 v = cB n l j v := by
  unfold upB
  rw [Nat.add_zero, decide_eq_true h]; rfl
end Go.Proofs.Ytokjdadgdfmffaa
