/- The second order's inversions are the sum of the descents; descents of inverses; the first order back: plain mathematics. -/
import Derived.Test.YtheblebfeinjjaaPI
import Derived.Test.YtheblebfeinjjaaPM
import Derived.Test.YtheblebfeinjjaaPD
namespace Go.Proofs.Ytheblebfeinjjaa
open Go.RowKit
set_option maxRecDepth 100000
abbrev lt' (x : Int) : Int → Bool := fun y => decide (y < x)
abbrev gt' (x : Int) : Int → Bool := fun y => decide (x < y)
def ivs : List Int → Nat
  | [] => 0
  | x :: r => r.countP (lt' x) + ivs r
theorem ivs_sum : ∀ l : List Int, sumN (tabL l) l.length = (ivs l : Nat)
  | [] => rfl
  | x :: r => by
    rw [tabL_cons, List.length_cons, sumN_cons, ivs_sum r]
    show _ = ((r.countP (fun y => decide (y < x)) + ivs r : Nat) : Int)
    omega
theorem ivs_move (x : Int) (R : List Int) : ∀ p : List Int, ivs (x :: p ++ R) + p.countP (gt' x) = ivs (p ++ x :: R) + p.countP (lt' x)
  | [] => by simp [ivs]
  | y :: p => by
    have ih := ivs_move x R p
    simp only [List.cons_append, ivs, List.countP_cons, List.countP_append] at ih ⊢
    simp only [lt', gt'] at ih ⊢
    by_cases h1 : y < x <;> by_cases h2 : x < y <;> simp [h1, h2] at ih ⊢ <;> omega
theorem ivs_tail {R R' : List Int} (hp : R'.Perm R) : ∀ u : List Int, ivs (u ++ R') + ivs R = ivs (u ++ R) + ivs R'
  | [] => by simp; omega
  | y :: u => by
    have ih := ivs_tail hp u
    have hc := hp.countP_eq (lt' y)
    simp only [List.cons_append, ivs, List.countP_append, hc]
    omega
theorem ivs_snoc (a : Int) : ∀ u : List Int, ivs (u ++ [a]) = ivs u + u.countP (gt' a)
  | [] => by simp [ivs]
  | y :: u => by
    simp only [List.cons_append, ivs, List.countP_append, List.countP_cons, List.countP_nil, ivs_snoc a u, lt', gt']
    omega
/-- What is left of a list ends on the side asked for. -/
def endOk (a : Int) (g : Bool) (part rest : List Int) : Prop := (rest = [] → part = []) ∧ ∀ z, rest.getLast? = some z → decide (a < z) = g
theorem endOk.tail {a x : Int} {g : Bool} {part rest : List Int} (h : endOk a g part (x :: rest)) : endOk a g [] rest := by
  refine ⟨fun _ => rfl, fun z hz => h.2 z ?_⟩
  rw [List.getLast?_cons, hz]; rfl
theorem endOk.grow {a x : Int} {g : Bool} {part rest : List Int} (h : endOk a g part (x :: rest)) (hd : decide (a < x) ≠ g) : endOk a g (part ++ [x]) rest := by
  refine ⟨fun e => ?_, h.tail.2⟩
  subst e
  exact absurd (h.2 x rfl) hd
theorem endOk_start {a : Int} (xs : List Int) : endOk a (decide (a < geti xs (xs.length - 1))) [] xs := by
  refine ⟨fun _ => rfl, fun z hz => ?_⟩
  have : geti xs (xs.length - 1) = z := by
    rw [List.getLast?_eq_getElem?] at hz
    unfold geti; rw [List.getD_eq_getElem?_getD, hz]; rfl
  rw [this]
theorem count_all {p : Int → Bool} {l : List Int} (h : ∀ y ∈ l, p y = true) : l.countP p = l.length := List.countP_eq_length.2 h
theorem count_none {p : Int → Bool} {l : List Int} (h : ∀ y ∈ l, p y = false) : l.countP p = 0 := List.countP_eq_zero.2 (fun y hy => by rw [h y hy]; simp)
theorem rot_up (a : Int) : ∀ rest part : List Int, (∀ y ∈ part, decide (a < y) = false) → endOk a true part rest → ivs (rotGo a true part rest) = ivs (part ++ rest) + (part ++ rest).countP (fun y => !decide (a < y))
  | [], part, _, he => by
    obtain rfl := he.1 rfl
    simp [rotGo, ivs]
  | x :: rest, part, hp, he => by
    unfold rotGo
    by_cases hx : decide (a < x) = true
    · rw [if_pos hx]
      have ih := rot_up a rest [] (by simp) he.tail
      have hpm := rotGo_perm a true rest []
      rw [List.nil_append] at ih hpm
      have h1 := ivs_tail hpm (x :: part)
      have h2 := ivs_move x rest part
      have hx' := of_decide_eq_true hx
      have h3 : part.countP (gt' x) = 0 := count_none (fun y hy => by have := of_decide_eq_false (hp y hy); exact decide_eq_false (by omega))
      have h4 : part.countP (lt' x) = part.length := count_all (fun y hy => by have := of_decide_eq_false (hp y hy); exact decide_eq_true (by omega))
      have h5 : part.countP (fun y => !decide (a < y)) = part.length := count_all (fun y hy => by rw [hp y hy]; rfl)
      rw [List.countP_append, List.countP_cons, h5, hx]
      simp only [Bool.not_true, Bool.false_eq_true, if_false]
      omega
    · rw [if_neg hx]
      have hx0 : decide (a < x) = false := by simpa using hx
      have ih := rot_up a rest (part ++ [x]) (fun y hy => by
        rcases List.mem_append.1 hy with h | h
        · exact hp y h
        · rw [List.mem_singleton.1 h]; exact hx0) (he.grow hx)
      rw [List.append_assoc, List.singleton_append] at ih
      exact ih
theorem rot_down (a : Int) : ∀ rest part : List Int, (∀ y ∈ part, decide (a < y) = true) → endOk a false part rest → ivs (rotGo a false part rest) + (part ++ rest).countP (gt' a) = ivs (part ++ rest)
  | [], part, _, he => by
    obtain rfl := he.1 rfl
    simp [rotGo, ivs]
  | x :: rest, part, hp, he => by
    unfold rotGo
    by_cases hx : decide (a < x) = false
    · rw [if_pos hx]
      have ih := rot_down a rest [] (by simp) he.tail
      have hpm := rotGo_perm a false rest []
      rw [List.nil_append] at ih hpm
      have h1 := ivs_tail hpm (x :: part)
      have h2 := ivs_move x rest part
      have hx' := of_decide_eq_false hx
      have h3 : part.countP (gt' x) = part.length := count_all (fun y hy => by have := of_decide_eq_true (hp y hy); exact decide_eq_true (by omega))
      have h4 : part.countP (lt' x) = 0 := count_none (fun y hy => by have := of_decide_eq_true (hp y hy); exact decide_eq_false (by omega))
      have h5 : part.countP (gt' a) = part.length := count_all (fun y hy => hp y hy)
      rw [List.countP_append, List.countP_cons, h5]
      simp only [gt', hx, Bool.false_eq_true, if_false] at *
      omega
    · rw [if_neg hx]
      have hx0 : decide (a < x) = true := by simpa using hx
      have ih := rot_down a rest (part ++ [x]) (fun y hy => by
        rcases List.mem_append.1 hy with h | h
        · exact hp y h
        · rw [List.mem_singleton.1 h]; exact hx0) (he.grow hx)
      rw [List.append_assoc, List.singleton_append] at ih
      exact ih
theorem count_split (a : Int) (l : List Int) : l.countP (fun y => !decide (a < y)) + l.countP (gt' a) = l.length := by
  induction l with
  | nil => rfl
  | cons y l ih =>
    simp only [List.countP_cons, List.length_cons, gt'] at ih ⊢
    by_cases h : a < y <;> simp [h] at ih ⊢ <;> omega
theorem secN_last (l : List Int) {k : Nat} (h : k < l.length) : geti (secN l (k + 1)) k = geti l k := by
  unfold secN
  have hl : (rot (geti l k) (secN l k)).length = k := by rw [rot_len, secN_len l (by omega)]
  rw [geti_app, if_neg (by omega), hl, Nat.sub_self]; rfl
/-- The second order has as many inversions as the sum of the descents. -/
theorem secN_inv (l : List Int) : ∀ k, k ≤ l.length → ivs (secN l k) = majN l k
  | 0, _ => rfl
  | k + 1, h => by
    have ih := secN_inv l k (by omega)
    have hlen := secN_len l (k := k) (by omega)
    have hp := rot_perm (geti l k) (secN l k)
    show ivs (rot (geti l k) (secN l k) ++ [geti l k]) = majN l k + if isDb l k then k else 0
    rw [ivs_snoc, hp.countP_eq]
    have he := endOk_start (a := geti l k) (secN l k)
    have hs := count_split (geti l k) (secN l k)
    cases k with
    | zero => simp [secN, rot, rotGo, ivs, majN, isDb]
    | succ k =>
      have hla : geti (secN l (k + 1)) ((secN l (k + 1)).length - 1) = geti l k := by rw [hlen]; exact secN_last l (by omega)
      have hd : isDb l (k + 1) = decide (geti l (k + 1) < geti l k) := by unfold isDb; simp
      unfold rot
      rw [hla] at he
      rw [hla, hd]
      cases hg : decide (geti l (k + 1) < geti l k)
      · rw [hg] at he
        have h1 := rot_down (geti l (k + 1)) (secN l (k + 1)) [] (by simp) he
        rw [List.nil_append] at h1
        simp only [Bool.false_eq_true, if_false]
        omega
      · rw [hg] at he
        have h1 := rot_up (geti l (k + 1)) (secN l (k + 1)) [] (by simp) he
        rw [List.nil_append] at h1
        simp only [if_true]
        omega
theorem sec_inv (l : List Int) : sumN (tabL (sec l)) l.length = (majN l l.length : Nat) := by
  have h := ivs_sum (sec l)
  rw [sec_len] at h
  rw [h]
  exact congrArg Int.ofNat (secN_inv l l.length (Nat.le_refl _))
theorem sec_last {l : List Int} (h : 0 < l.length) : geti (sec l) (l.length - 1) = geti l (l.length - 1) := by
  have := secN_last l (k := l.length - 1) (by omega)
  rwa [show l.length - 1 + 1 = l.length by omega] at this
theorem filter_none {p : Int → Bool} {l : List Int} (h : ∀ y ∈ l, p y = false) : l.filter p = [] := List.filter_eq_nil_iff.2 (fun y hy => by rw [h y hy]; simp)
theorem rot_filter (a : Int) (g s : Bool) (P : Int → Bool) : ∀ rest part : List Int, (∀ y ∈ part, decide (a < y) ≠ g) → (∀ y ∈ part ++ rest, P y = true → decide (a < y) = s) → (rotGo a g part rest).filter P = (part ++ rest).filter P
  | [], part, _, _ => by simp [rotGo]
  | x :: rest, part, hp, hP => by
    unfold rotGo
    by_cases hx : decide (a < x) = g
    · rw [if_pos hx]
      have ih := rot_filter a g s P rest [] (by simp) (fun y hy => hP y (List.mem_append_right _ (List.mem_cons_of_mem _ hy)))
      rw [List.nil_append] at ih
      rw [List.filter_append, ih, List.append_cons, List.filter_append]
      congr 1
      rw [List.filter_append]
      by_cases hs : s = g
      · have : part.filter P = [] := filter_none (fun y hy => by
          cases hy2 : P y with
          | false => rfl
          | true => exact absurd ((hP y (List.mem_append_left _ hy) hy2).trans hs) (hp y hy))
        rw [List.filter_cons, this]
        split <;> simp_all
      · have : P x = false := by
          cases hy2 : P x with
          | false => rfl
          | true => exact absurd ((hP x (List.mem_append_right _ (List.mem_cons_self ..)) hy2).symm.trans hx) hs
        simp [List.filter_cons, this]
    · rw [if_neg hx]
      have ih := rot_filter a g s P rest (part ++ [x]) (fun y hy => by
        rcases List.mem_append.1 hy with h | h
        · exact hp y h
        · rw [List.mem_singleton.1 h]; exact hx) (fun y hy => hP y (by rw [List.append_assoc, List.singleton_append] at hy; exact hy))
      rw [List.append_assoc, List.singleton_append] at ih
      exact ih
abbrev nb (v : Int) : Int → Bool := fun y => decide (y = v ∨ y = v + 1)
theorem geti_take' {l : List Int} {k i : Nat} (h : i < k) : geti (l.take k) i = geti l i := by
  unfold geti; simp [h]
theorem secN_filter {l : List Int} (hl : IsO l) (v : Int) : ∀ k, k ≤ l.length → (secN l k).filter (nb v) = (l.take k).filter (nb v)
  | 0, _ => rfl
  | k + 1, h => by
    have ih := secN_filter hl v k (by omega)
    have hp := secN_perm l k (by omega)
    show (rot (geti l k) (secN l k) ++ [geti l k]).filter (nb v) = _
    rw [take_snoc (by omega), List.filter_append, List.filter_append, ← ih]
    congr 1
    refine rot_filter (geti l k) _ (decide (geti l k ≤ v)) (nb v) (secN l k) [] (by simp) (fun y hy hyP => ?_)
    rw [List.nil_append] at hy
    have hy2 := hp.mem_iff.1 hy
    obtain ⟨i, hi, e⟩ := mem_geti hy2
    rw [List.length_take] at hi
    rw [geti_take' (by omega)] at e
    have hne : y ≠ geti l k := by
      rw [← e]; exact hl.ne k i (by omega) (by omega)
    have hy3 := of_decide_eq_true hyP
    by_cases hc : geti l k ≤ v
    · rw [decide_eq_true hc]; exact decide_eq_true (by omega)
    · rw [decide_eq_false hc]; exact decide_eq_false (by omega)
theorem sec_filter {l : List Int} (hl : IsO l) (v : Int) : (sec l).filter (nb v) = l.filter (nb v) := by
  have h := secN_filter hl v l.length (Nat.le_refl _)
  rwa [List.take_length] at h
theorem find_first {l : List Int} (hl : IsO l) {i j : Nat} {v : Int} (hi : i < l.length) (hj : j < l.length) (ei : geti l i = v) (ej : geti l j = v + 1) : l.find? (nb v) = some (if i < j then v else v + 1) := by
  have hne : i ≠ j := fun e => by subst e; omega
  rw [List.find?_eq_some_iff_getElem]
  by_cases h : i < j
  · rw [if_pos h]
    refine ⟨by simp, i, hi, by rw [← geti_eq hi, ei], fun m hm => ?_⟩
    have h1 : geti l m ≠ v := fun e => by have := hl.inj (by omega) hi (e.trans ei.symm); omega
    have h2 : geti l m ≠ v + 1 := fun e => by have := hl.inj (by omega) hj (e.trans ej.symm); omega
    rw [← geti_eq (by omega)]
    simp [h1, h2]
  · rw [if_neg h]
    refine ⟨by simp, j, hj, by rw [← geti_eq hj, ej], fun m hm => ?_⟩
    have h1 : geti l m ≠ v := fun e => by have := hl.inj (by omega) hi (e.trans ei.symm); omega
    have h2 : geti l m ≠ v + 1 := fun e => by have := hl.inj (by omega) hj (e.trans ej.symm); omega
    rw [← geti_eq (by omega)]
    simp [h1, h2]
theorem inv_find {l : List Int} (hl : IsO l) {k : Nat} (hk : k + 1 < l.length) : l.find? (nb ((k : Int) + 1)) = some (if geti (invL l) k < geti (invL l) (k + 1) then (k : Int) + 1 else (k : Int) + 1 + 1) := by
  obtain ⟨i, hi, ei, gi⟩ := invL_get hl (k := k) (by omega)
  obtain ⟨j, hj, ej, gj⟩ := invL_get hl (k := k + 1) hk
  rw [find_first hl hi hj ei (by rw [ej]; omega), gi, gj]
  congr 1
  by_cases h : i < j
  · rw [if_pos h, if_pos (by omega)]
  · rw [if_neg h, if_neg (by omega)]
/-- The inverses have the same descents. -/
theorem sec_desc {l : List Int} (hl : IsO l) (k : Nat) (hk : k < l.length) : isDb (invL (sec l)) k = isDb (invL l) k := by
  unfold isDb
  cases k with
  | zero => simp
  | succ k =>
    simp only [Nat.zero_lt_succ, decide_true, Bool.true_and, Nat.add_sub_cancel]
    have h1 := inv_find hl (k := k) hk
    have h2 := inv_find hl.sec (k := k) (by rw [sec_len]; exact hk)
    have hf : (sec l).find? (nb ((k : Int) + 1)) = l.find? (nb ((k : Int) + 1)) := by
      rw [← List.head?_filter, ← List.head?_filter, sec_filter hl]
    rw [hf, h1] at h2
    injection h2 with h2
    have hi := hl.inv
    have hs := hl.sec.inv
    have n1 := hi.ne (k + 1) k (by rw [invL_len]; omega) (by omega)
    have n2 := hs.ne (k + 1) k (by rw [invL_len, sec_len]; omega) (by omega)
    by_cases c1 : geti (invL l) k < geti (invL l) (k + 1) <;> by_cases c2 : geti (invL (sec l)) k < geti (invL (sec l)) (k + 1)
    · rw [decide_eq_false (by omega), decide_eq_false (by omega)]
    · rw [if_pos c1, if_neg c2] at h2; omega
    · rw [if_neg c1, if_pos c2] at h2; omega
    · rw [decide_eq_true (by omega), decide_eq_true (by omega)]
theorem rot_head (a : Int) (g : Bool) : ∀ rest part : List Int, rest ≠ [] → endOk a g part rest → ∃ x t, rotGo a g part rest = x :: t ∧ decide (a < x) = g
  | [], _, h, _ => absurd rfl h
  | x :: rest, part, _, he => by
    unfold rotGo
    by_cases hx : decide (a < x) = g
    · rw [if_pos hx]; exact ⟨x, _, rfl, hx⟩
    · rw [if_neg hx]
      refine rot_head a g rest (part ++ [x]) (fun e => ?_) (he.grow hx)
      have := (he.grow hx).1 e
      simp at this
theorem btl_scan (a : Int) (g : Bool) (R : List Int) (hR : R = [] ∨ decide (a < geti R 0) = g) : ∀ (u acc : List Int) (y : Int), (∀ z ∈ u, decide (a < z) ≠ g) → btlGo a g acc (y :: (u ++ R)) = rotl (acc ++ y :: u) ++ btlGo a g [] R
  | [], acc, y, _ => by
    rw [List.nil_append]
    conv => lhs; unfold btlGo
    rw [if_pos hR]
  | z :: u, acc, y, hu => by
    conv => lhs; unfold btlGo
    rw [if_neg]
    · rw [List.cons_append, btl_scan a g R hR u (acc ++ [y]) z (fun w hw => hu w (List.mem_cons_of_mem _ hw)), List.append_assoc, List.singleton_append]
    · rintro (e | e)
      · cases e
      · exact hu z (List.mem_cons_self ..) e
theorem btl_rotGo (a : Int) (g : Bool) : ∀ rest part : List Int, (∀ y ∈ part, decide (a < y) ≠ g) → endOk a g part rest → btlGo a g [] (rotGo a g part rest) = part ++ rest
  | [], part, _, he => by
    obtain rfl := he.1 rfl
    simp [rotGo, btlGo]
  | x :: rest, part, hp, he => by
    unfold rotGo
    by_cases hx : decide (a < x) = g
    · rw [if_pos hx]
      have ih := btl_rotGo a g rest [] (by simp) he.tail
      rw [List.nil_append] at ih
      have hR : rotGo a g [] rest = [] ∨ decide (a < geti (rotGo a g [] rest) 0) = g := by
        by_cases e : rest = []
        · subst e; left; rfl
        · obtain ⟨y, t, e2, e3⟩ := rot_head a g rest [] e he.tail
          rw [e2]; right; exact e3
      rw [List.cons_append, btl_scan a g _ hR part [] x hp, ih]
      simp [rotl]
    · rw [if_neg hx]
      have ih := btl_rotGo a g rest (part ++ [x]) (fun y hy => by
        rcases List.mem_append.1 hy with h | h
        · exact hp y h
        · rw [List.mem_singleton.1 h]; exact hx) (he.grow hx)
      rw [ih]; simp
theorem btl_rot (a : Int) (xs : List Int) : btl a (rot a xs) = xs := by
  by_cases h : xs = []
  · subst h; rfl
  · unfold btl
    obtain ⟨x, t, e, hx⟩ := rot_head a _ xs [] h (endOk_start (a := a) xs)
    have e2 : rot a xs = x :: t := e
    have h0 : decide (a < geti (rot a xs) 0) = decide (a < geti xs (xs.length - 1)) := by rw [e2]; exact hx
    rw [h0]
    exact btl_rotGo a _ xs [] (by simp) (endOk_start xs)
theorem fst_sec_at (l : List Int) : ∀ k, k < l.length → fstN (sec l) k = secN l (l.length - k) ++ l.drop (l.length - k)
  | 0, _ => by simp [fstN, sec]
  | k + 1, h => by
    have ih := fst_sec_at l k (by omega)
    unfold fstN
    rw [ih, sec_len]
    obtain ⟨m, hm⟩ : ∃ m, l.length - (k + 1) = m := ⟨_, rfl⟩
    have hm1 : l.length - k = m + 1 := by omega
    have hm2 : l.length - 1 - k = m := by omega
    rw [hm1, hm2, hm]
    have hl : (rot (geti l m) (secN l m)).length = m := by rw [rot_len, secN_len l (by omega)]
    have e1 : secN l (m + 1) ++ l.drop (m + 1) = rot (geti l m) (secN l m) ++ (geti l m :: l.drop (m + 1)) := by
      show (rot (geti l m) (secN l m) ++ [geti l m]) ++ _ = _
      rw [List.append_assoc, List.singleton_append]
    rw [e1]
    have e2 : geti (rot (geti l m) (secN l m) ++ (geti l m :: l.drop (m + 1))) m = geti l m := by
      rw [geti_app, if_neg (by omega), hl, Nat.sub_self]; rfl
    rw [e2]
    have e3 : (rot (geti l m) (secN l m) ++ (geti l m :: l.drop (m + 1))).take m = rot (geti l m) (secN l m) := by
      rw [List.take_append_of_le_length (by omega), List.take_of_length_le (by omega)]
    have e4 : (rot (geti l m) (secN l m) ++ (geti l m :: l.drop (m + 1))).drop m = geti l m :: l.drop (m + 1) := by
      rw [List.drop_append, List.drop_eq_nil_of_le (by omega), hl, Nat.sub_self, List.nil_append]; rfl
    rw [e3, e4, btl_rot, ← drop_cons (by omega)]
/-- The first order of the second one. -/
theorem fst_sec (l : List Int) : fst' (sec l) = l := by
  unfold fst'
  rw [sec_len]
  by_cases h : l.length = 0
  · have : l = [] := List.eq_nil_of_length_eq_zero h
    subst this; rfl
  · rw [fst_sec_at l _ (by omega), show l.length - (l.length - 1) = 1 by omega]
    have e : secN l 1 = [geti l 0] := rfl
    have h2 := drop_cons (l := l) (k := 0) (by omega)
    rw [List.drop_zero] at h2
    rw [e, List.singleton_append]
    exact h2.symm
theorem perm_of_sub' {α : Type} [DecidableEq α] : ∀ {a b : List α}, a.Nodup → (∀ x ∈ a, x ∈ b) → b.length ≤ a.length → a.Perm b
  | [], b, _, _, hl => by
    have : b = [] := List.eq_nil_of_length_eq_zero (by simpa using hl)
    rw [this]
  | x :: t, b, hn, hs, hl => by
    obtain ⟨h1, h2⟩ := List.nodup_cons.1 hn
    have hx : x ∈ b := hs x (List.mem_cons_self ..)
    have hp := List.perm_cons_erase hx
    refine List.Perm.trans (List.Perm.cons x (perm_of_sub' h2 (fun y hy => ?_) ?_)) hp.symm
    · have hy2 := hs y (List.mem_cons_of_mem _ hy)
      have hne : y ≠ x := fun e => h1 (e ▸ hy)
      exact (List.mem_erase_of_ne hne).2 hy2
    · rw [List.length_erase_of_mem hx]
      simp only [List.length_cons] at hl
      omega
theorem lexA_ne {a b : List Int} (h : lexA a b) : a ≠ b := by
  rintro rfl
  obtain ⟨j, -, h2, -⟩ := h
  omega
theorem nodup_map_range {f : Nat → List Int} {N : Nat} (h : ∀ i j, i < j → j < N → f i ≠ f j) : ((List.range N).map f).Nodup := by
  rw [List.nodup_iff_pairwise_ne, List.pairwise_iff_getElem]
  intro i j hi hj hij
  simp only [List.length_map, List.length_range] at hi hj
  simp only [List.getElem_map, List.getElem_range]
  exact h i j hij hj
/-- What undoes a turn of orders is undone by it. -/
theorem turn_back {f g : List Int → List Int} (hf : ∀ l, IsO l → IsO (f l) ∧ (f l).length = l.length) (hgf : ∀ l, IsO l → g (f l) = l) (o : List Int) (ho : IsO o) : f (g o) = o := by
  obtain ⟨n, hn⟩ : ∃ n, o.length = n := ⟨_, rfl⟩
  have hn12 : n ≤ 12 := by rw [← hn]; exact ho.le
  have hE : ∀ k, IsO (mdL (dgL k n)) ∧ (mdL (dgL k n)).length = n := fun k => ⟨okT_iso (by rw [dgL_len]; exact hn12) (dgL_ok k n), by rw [mdL_len, dgL_len]⟩
  have hall : ∀ l, IsO l → l.length = n → ∃ k, k < facN n ∧ mdL (dgL k n) = l := fun l hl e => by
    have h1 := place_L l
    have h2 := place_max hl
    rw [e] at h1 h2
    exact ⟨_, h2.1, by rw [h1]; exact mdL_tab hl⟩
  have hinj : ∀ i j, i < j → j < facN n → mdL (dgL i n) ≠ mdL (dgL j n) := fun i j hij hj e => by
    refine lexA_ne (dgL_lex n i j hij hj) ?_
    rw [← tab_mdL (dgL_ok i n), ← tab_mdL (dgL_ok j n), e]
  have hp : ((List.range (facN n)).map fun k => f (mdL (dgL k n))).Perm ((List.range (facN n)).map fun k => mdL (dgL k n)) := by
    refine perm_of_sub' (nodup_map_range fun i j hij hj e => hinj i j hij hj ?_) (fun x hx => ?_) (by simp)
    · rw [← hgf _ (hE i).1, ← hgf _ (hE j).1, e]
    · obtain ⟨k, -, rfl⟩ := List.mem_map.1 hx
      obtain ⟨h1, h2⟩ := hf _ (hE k).1
      obtain ⟨m, hm, e⟩ := hall _ h1 (by rw [h2]; exact (hE k).2)
      exact List.mem_map.2 ⟨m, List.mem_range.2 hm, e⟩
  obtain ⟨m, hm, e⟩ := hall o ho hn
  have hmem : o ∈ (List.range (facN n)).map fun k => f (mdL (dgL k n)) := hp.mem_iff.2 (List.mem_map.2 ⟨m, List.mem_range.2 hm, e⟩)
  obtain ⟨k, -, e2⟩ := List.mem_map.1 hmem
  rw [← e2, hgf _ (hE k).1]
theorem sec_fst {l : List Int} (h : IsO l) : sec (fst' l) = l :=
  turn_back (f := sec) (g := fst') (fun l hl => ⟨hl.sec, sec_len l⟩) (fun l _ => fst_sec l) l h
end Go.Proofs.Ytheblebfeinjjaa
