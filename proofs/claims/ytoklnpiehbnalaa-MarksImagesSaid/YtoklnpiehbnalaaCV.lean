/- All square-free words of at most eleven letters, one after another: mathematics for the reference's Keeps. -/
import Derived.Test.YtoklnpiehbnalaaCQ
namespace Go.Proofs.Ytoklnpiehbnalaa
set_option maxHeartbeats 1000000
set_option maxRecDepth 100000
theorem fm_congr {α β : Type} {f g : α → List β} : ∀ {L : List α}, (∀ x, x ∈ L → f x = g x) → L.flatMap f = L.flatMap g
  | [], _ => rfl
  | a :: L, h => by rw [List.flatMap_cons, List.flatMap_cons, h a List.mem_cons_self, fm_congr (fun x hx => h x (List.mem_cons_of_mem _ hx))]
theorem exts_out (k : Nat) : ∀ r x, exts k (r + 1) x = (exts k r x).flatMap (exts k 1)
  | 0, x => by
    show exts k 1 x = [x].flatMap (exts k 1)
    simp
  | r + 1, x => by
    show (grow k x).flatMap (exts k (r + 1)) = ((grow k x).flatMap (exts k r)).flatMap (exts k 1)
    rw [List.flatMap_assoc]
    congr 1
    exact funext (fun y => exts_out k r y)
def nxt (x : List Nat) : List (List Nat) := if x.length = 11 then [] else extsTo 3 0 x 3
def QQ : List (List Nat) := (List.range 12).flatMap fun n => exts 3 n []
theorem range_cons (n : Nat) {α : Type} (f : Nat → List α) : (List.range (n + 1)).flatMap f = f 0 ++ (List.range n).flatMap (fun i => f (i + 1)) := by
  rw [List.range_succ_eq_map, List.flatMap_cons, List.flatMap_map]
theorem QQ_eq : QQ = [] :: QQ.flatMap nxt := by
  have h1 : QQ.flatMap nxt = (List.range 12).flatMap fun n => (exts 3 n []).flatMap nxt := by unfold QQ; rw [List.flatMap_assoc]
  have h2 : ∀ n, n < 11 → (exts 3 n []).flatMap nxt = exts 3 (n + 1) [] := fun n hn => by
    rw [exts_out]
    refine fm_congr (fun x hx => ?_)
    obtain ⟨h, -, -⟩ := exts_all hx
    unfold nxt
    rw [if_neg (by omega)]; rfl
  have h3 : (exts 3 11 []).flatMap nxt = [] := by
    rw [List.flatMap_eq_nil_iff]
    intro x hx
    obtain ⟨h, -, -⟩ := exts_all hx
    unfold nxt
    rw [if_pos h]
  rw [h1, List.range_succ, List.flatMap_append, List.flatMap_singleton, h3, List.append_nil, fm_congr (fun n hn => h2 n (List.mem_range.1 hn))]
  unfold QQ
  rw [range_cons]
  rfl
theorem QQ_mem {x : List Nat} (h : x ∈ QQ) : letW 3 x ∧ free x = true ∧ x.length ≤ 11 := by
  unfold QQ at h
  obtain ⟨n, hn, hx⟩ := List.mem_flatMap.1 h
  obtain ⟨h1, h2, h3⟩ := exts_all hx
  have := List.mem_range.1 hn
  exact ⟨h2, h3, by omega⟩
theorem exts_few : ∀ r x, (exts 3 r x).length ≤ 3 ^ r
  | 0, x => by simp [exts]
  | r + 1, x => by
    rw [exts_out]
    have h1 := exts_few r x
    have h2 : ∀ L : List (List Nat), (L.flatMap (exts 3 1)).length ≤ L.length * 3 := fun L => by
      induction L with
      | nil => simp
      | cons y L ih =>
        have h3 : (exts 3 1 y).length ≤ 3 := by
          have e : exts 3 1 y = grow 3 y := by show (grow 3 y).flatMap (fun z => [z]) = _; simp
          rw [e]
          unfold grow
          refine Nat.le_trans (List.length_filter_le _ _) ?_
          simp
        rw [List.flatMap_cons, List.length_append, List.length_cons]
        omega
    have h4 := h2 (exts 3 r x)
    rw [Nat.pow_succ]
    omega
theorem QQ_len : QQ.length ≤ 3000000 := by
  have h : ∀ n, ((List.range n).flatMap fun n => exts 3 n []).length ≤ n * 3 ^ n := fun n => by
    induction n with
    | zero => simp
    | succ n ih =>
      rw [List.range_succ, List.flatMap_append, List.flatMap_singleton, List.length_append]
      have h1 := exts_few n []
      have h2 : 3 ^ n ≤ 3 ^ (n + 1) := Nat.pow_le_pow_right (by decide) (by omega)
      have h3 : n * 3 ^ n ≤ n * 3 ^ (n + 1) := Nat.mul_le_mul_left n h2
      rw [Nat.add_mul]
      omega
  have := h 11
  unfold QQ
  rw [List.range_succ, List.flatMap_append, List.flatMap_singleton, List.length_append]
  have h1 := exts_few 11 []
  have e : (3 : Nat) ^ 11 = 177147 := by decide
  rw [e] at this h1
  omega
/-- The queue when so many words have been looked at. -/
def Wq (i : Nat) : List (List Nat) := [] :: (QQ.take i).flatMap nxt
theorem Wq_pre (i : Nat) : Wq i <+: QQ := by
  have h : (QQ.take i).flatMap nxt <+: QQ.flatMap nxt := ⟨(QQ.drop i).flatMap nxt, by rw [← List.flatMap_append, List.take_append_drop]⟩
  obtain ⟨t, ht⟩ := h
  exact ⟨t, by rw [QQ_eq]; show [] :: ((QQ.take i).flatMap nxt ++ t) = _; rw [ht]⟩
theorem Wq_len (i : Nat) : (Wq i).length ≤ QQ.length := (Wq_pre i).length_le
theorem Wq_get {i : Nat} (h : i < (Wq i).length) : i < QQ.length ∧ (Wq i)[i]? = some (QQ.getD i []) := by
  have h1 := Wq_len i
  have h2 : i < QQ.length := by omega
  refine ⟨h2, ?_⟩
  obtain ⟨t, ht⟩ := Wq_pre i
  have : QQ[i]? = (Wq i)[i]? := by
    conv => lhs; rw [← ht]
    rw [List.getElem?_append_left h]
  rw [← this, List.getD_eq_getElem?_getD, List.getElem?_eq_getElem h2]; rfl
theorem Wq_next {i : Nat} (h : i < QQ.length) : Wq (i + 1) = Wq i ++ nxt (QQ.getD i []) := by
  unfold Wq
  rw [List.take_add_one, List.flatMap_append, List.getD_eq_getElem?_getD, List.getElem?_eq_getElem h]
  simp
theorem Wq_end {i : Nat} (h : ¬ i < (Wq i).length) : ∀ x, free x = true → letW 3 x → x.length ≤ 11 → ∃ j, j < i ∧ j < QQ.length ∧ QQ.getD j [] = x := by
  have hmem : ∀ n, n ≤ 11 → ∀ x, x ∈ exts 3 n [] → x ∈ QQ.take i := fun n => by
    have hW : ∀ y ∈ Wq i, y ∈ QQ.take i := fun y hy => by
      obtain ⟨t, ht⟩ := Wq_pre i
      rw [← ht, List.take_append, List.mem_append]
      exact .inl (by rw [List.take_of_length_le (by omega)]; exact hy)
    induction n with
    | zero =>
      intro _ x hx
      have : x = [] := by simpa [exts] using hx
      rw [this]
      exact hW [] (by unfold Wq; exact List.mem_cons_self)
    | succ n ih =>
      intro hn x hx
      rw [exts_out] at hx
      obtain ⟨y, hy, hx⟩ := List.mem_flatMap.1 hx
      have h1 := ih (by omega) y hy
      obtain ⟨h2, -, -⟩ := exts_all hy
      refine hW x ?_
      unfold Wq
      refine List.mem_cons_of_mem _ (List.mem_flatMap.2 ⟨y, h1, ?_⟩)
      unfold nxt
      rw [if_neg (by omega)]
      exact hx
  intro x hf hx hl
  obtain ⟨j, hj, e⟩ := List.getElem_of_mem (hmem x.length hl x (exts_in hf hx))
  rw [List.length_take] at hj
  rw [List.getElem_take] at e
  exact ⟨j, by omega, by omega, by rw [List.getD_eq_getElem?_getD, List.getElem?_eq_getElem (by omega)]; exact e⟩
theorem kpF_find {ms : List (List Nat)} : ∀ r n, kpF ms r n = ((List.range r).flatMap fun j => exts 3 (n + j) []).find? (brk ms)
  | 0, n => rfl
  | r + 1, n => by
    rw [range_cons, List.find?_append, Nat.add_zero]
    have e : kpF ms (r + 1) n = match (exts 3 n []).find? (brk ms) with | some x => some x | none => kpF ms r (n + 1) := rfl
    rw [e, kpF_find r (n + 1)]
    have e2 : (fun i => exts 3 (n + (i + 1)) []) = fun j => exts 3 (n + 1 + j) [] := funext (fun i => by rw [show n + (i + 1) = n + 1 + i by omega])
    rw [e2]
    cases (exts 3 n []).find? (brk ms) <;> rfl
theorem keeps_end {ms : List (List Nat)} {i : Nat} (h : ¬ i < (Wq i).length) (hb : ∀ j, j < i → brk ms (QQ.getD j []) = false) : kpX ms = none := by
  cases hk : kpX ms with
  | none => rfl
  | some y =>
    obtain ⟨h1, h2, h3, h4, -⟩ := kp_some hk
    obtain ⟨j, j1, -, j3⟩ := Wq_end h y h2 h1 (by omega)
    have := hb j j1
    rw [j3] at this
    unfold brk at this
    rw [h3] at this
    cases this
theorem keeps_hit {ms : List (List Nat)} (hm : IsMp ms) {i : Nat} (hi : i < QQ.length) (hb : ∀ j, j < i → brk ms (QQ.getD j []) = false) (h : brk ms (QQ.getD i []) = true) : kpX ms = some (QQ.getD i []) := by
  have hg : ∀ j (hj : j < QQ.length), QQ.getD j [] = QQ[j] := fun j hj => by rw [List.getD_eq_getElem?_getD, List.getElem?_eq_getElem hj]; rfl
  have hf : QQ.find? (brk ms) = some (QQ.getD i []) := by
    have e : QQ = QQ.take i ++ QQ.getD i [] :: QQ.drop (i + 1) := by
      conv => lhs; rw [← List.take_append_drop i QQ]
      rw [List.drop_eq_getElem_cons hi, hg i hi]
    have h1 : (QQ.take i).find? (brk ms) = none := by
      rw [List.find?_eq_none]
      intro x hx
      obtain ⟨j, hj, e2⟩ := List.getElem_of_mem hx
      rw [List.length_take] at hj
      rw [List.getElem_take] at e2
      have := hb j (by omega)
      rw [hg j (by omega), e2] at this
      rw [this]; exact Bool.false_ne_true
    conv => lhs; arg 2; rw [e]
    rw [List.find?_append, h1]
    show List.find? (brk ms) (QQ.getD i [] :: QQ.drop (i + 1)) = _
    rw [List.find?_cons, h]
  cases hk : kpX ms with
  | none =>
    exfalso
    obtain ⟨h1, h2, -⟩ := QQ_mem (x := QQ.getD i []) (by rw [hg i hi]; exact List.getElem_mem hi)
    have := kp_all hm hk h1 h2
    unfold brk at h
    rw [this] at h
    cases h
  | some y =>
    have e : QQ = ((List.range 11).flatMap fun n => exts 3 n []) ++ exts 3 11 [] := by
      unfold QQ
      rw [List.range_succ, List.flatMap_append, List.flatMap_singleton]
    have e2 : ((List.range 11).flatMap fun n => exts 3 n []).find? (brk ms) = some y := by
      have := kpF_find (ms := ms) 11 0
      rw [show kpF ms 11 0 = some y from hk] at this
      rw [this]
      congr 2
      exact funext (fun j => by rw [Nat.zero_add])
    rw [e, List.find?_append, e2] at hf
    exact hf
end Go.Proofs.Ytoklnpiehbnalaa
