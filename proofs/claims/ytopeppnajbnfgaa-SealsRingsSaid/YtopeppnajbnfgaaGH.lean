/- Chains in groups: the fewest cuts. -/
import Derived.Test.YtopeppnajbnfgaaGG
namespace Go.Proofs.Ytopeppnajbnfgaa
open Go.RowKit
set_option maxHeartbeats 1000000
set_option maxRecDepth 100000
theorem grp_size (nn : Nat → Nat) : (bs (grp nn 4)).size = pos nn 4 := by rw [bs_size, grp_len]
theorem fair_grp {nn : Nat → Nat} {m : Nat} {x : List Int} {a b d e : Nat} (hm : m ≤ 4) (h : Pad (pos nn 4) m x a b d e) : fairV (bs (grp nn 4)) x = true ↔ ∀ c, c < 4 → Fr4 (pos nn c) (nn c) a b d e := by
  have hz := grp_size nn
  have hp := h
  rw [← hz] at hp
  obtain ⟨h1, h2, h3, h4, -⟩ := h
  rw [fair_pad hm hp]
  refine forall_congr' fun c => forall_congr' fun hc => ?_
  rw [hz, cnt_grp nn hc b (by omega), cnt_grp nn hc a (by omega), cnt_grp nn hc e (by omega), cnt_grp nn hc d (by omega), cnt_grp nn hc (pos nn 4) (Nat.le_refl _)]
  have h5 := pos_mono nn (show c + 1 ≤ 4 by omega)
  have h6 : pos nn (c + 1) = pos nn c + 2 * nn c := rfl
  have h7 : min (pos nn 4 - pos nn c) (2 * nn c) = 2 * nn c := by omega
  rw [h7]
  unfold Fr4
  show (C (pos nn c) (nn c) b : Int) - (C (pos nn c) (nn c) a : Int) + ((C (pos nn c) (nn c) e : Int) - (C (pos nn c) (nn c) d : Int)) = _ ↔ _
  generalize C (pos nn c) (nn c) = f
  omega
theorem none_fair {nn : Nat → Nat} {m : Nat} (hm : m ≤ 4) (h : ∀ x a b d e, Pad (pos nn 4) m x a b d e → (∀ c, c < 4 → Fr4 (pos nn c) (nn c) a b d e) → False) : ∀ x ∈ exts (bs (grp nn 4)).size m [] 1, fairV (bs (grp nn 4)) x = false := fun x hx => by
  rw [grp_size] at hx
  obtain ⟨a, b, d, e, hp⟩ := pad_of hm (mem_exts0.1 hx)
  cases hf : fairV (bs (grp nn 4)) x
  · rfl
  · exact (h x a b d e hp ((fair_grp hm hp).1 hf)).elim
theorem one_fair {nn : Nat → Nat} {m r : Nat} {x : List Int} {a b d e : Nat} (hm : m ≤ 4) (hp : Pad (pos nn 4) m x a b d e) (hx : AscL (pos nn 4) m 1 x) (hf : ∀ c, c < 4 → Fr4 (pos nn c) (nn c) a b d e)
    (h : ∀ y a' b' d' e', Pad (pos nn 4) m y a' b' d' e' → (∀ c, c < 4 → Fr4 (pos nn c) (nn c) a' b' d' e') → y = x) : fewL (bs (grp nn 4)) 1 1 (r + 1) m = some x := by
  refine fewL_only (by omega) ?_ ((fair_grp hm hp).2 hf) fun y hy hyf => ?_
  · rw [grp_size]; exact mem_exts0.2 hx
  · rw [grp_size] at hy
    obtain ⟨a', b', d', e', hp'⟩ := pad_of hm (mem_exts0.1 hy)
    exact h y a' b' d' e' hp' ((fair_grp hm hp').1 hyf)
theorem asc_cons {n k f x : Nat} {y : List Int} (h1 : f ≤ x) (h2 : x < n) (h : AscL n k (x + 1) y) : AscL n (k + 1) f ((x : Int) :: y) := by
  obtain ⟨i, rfl⟩ := Nat.exists_eq_add_of_le h1
  exact ⟨i, y, h2, rfl, h⟩
theorem fr_zero (p a b d e : Nat) : Fr4 p 0 a b d e := by unfold Fr4 C; simp
theorem fewK0 {nn : Nat → Nat}    (hz : ∀ c, c < 4 → nn c = 0) : fewV (bs (grp nn 4)) 1 1 = some [] := by
  have o := one_fair (nn := nn) (m := 0) (r := 5) (x := []) (a := (pos nn 4)) (b := (pos nn 4)) (d := (pos nn 4)) (e := (pos nn 4)) (by omega)
    ⟨by omega, by omega, by omega, by omega, rfl, by omega, by omega, by omega, by omega⟩
    rfl
    (fun c hc => by
      have h := hz c hc
      rw [h]; exact fr_zero _ _ _ _ _)
    (fun y a b d e hp F => by
      obtain ⟨h1, h2, h3, h4, rfl, q0, q1, q2, q3⟩ := hp
      rfl)
  exact o
theorem fewK1 {nn : Nat → Nat} {c1 : Nat} (l1 : c1 < 4) (z1 : 0 < nn c1) (s1 : pos nn c1 + 2 * nn c1 ≤ pos nn 4) (hz : ∀ c, c < 4 → nn c = 0 ∨ c = c1) : fewV (bs (grp nn 4)) 1 1 = some [((pos nn c1 + nn c1 : Nat) : Int)] := by
  have u0 := none_fair (nn := nn) (m := 0) (by omega) (fun x a b d e hp F => by
    obtain ⟨h1, h2, h3, h4, -, q0, q1, q2, q3⟩ := hp
    have := miss1 z1 s1 h1 h2 h3 h4 (F _ l1)
    have := q0 (by omega)
    omega)
  have o := one_fair (nn := nn) (m := 1) (r := 4) (x := [((pos nn c1 + nn c1 : Nat) : Int)]) (a := (pos nn c1 + nn c1)) (b := (pos nn 4)) (d := (pos nn 4)) (e := (pos nn 4)) (by omega)
    ⟨by omega, by omega, by omega, by omega, rfl, by omega, by omega, by omega, by omega⟩
    (asc_cons (by omega) (by omega) rfl)
    (fun c hc => by
      rcases hz c hc with h | rfl
      · rw [h]; exact fr_zero _ _ _ _ _
      · unfold Fr4 C; omega)
    (fun y a b d e hp F => by
      obtain ⟨h1, h2, h3, h4, rfl, q0, q1, q2, q3⟩ := hp
      have e1 := only1 z1 s1 h1 h2 h3 h4 (q1 (by omega)) (q2 (by omega)) (q3 (by omega)) (F _ l1)
      rw [e1]
      rfl)
  exact ((fewL_next (r := 5) (m := 0) (by omega) u0).trans o)
theorem fewK2 {nn : Nat → Nat} {c1 c2 : Nat} (l1 : c1 < 4) (l2 : c2 < 4) (z1 : 0 < nn c1) (z2 : 0 < nn c2) (s1 : pos nn c1 + 2 * nn c1 ≤ pos nn c2) (s2 : pos nn c2 + 2 * nn c2 ≤ pos nn 4) (hz : ∀ c, c < 4 → nn c = 0 ∨ c = c1 ∨ c = c2) : fewV (bs (grp nn 4)) 1 1 = some [((pos nn c1 + nn c1 : Nat) : Int), ((pos nn c2 + nn c2 : Nat) : Int)] := by
  have u0 := none_fair (nn := nn) (m := 0) (by omega) (fun x a b d e hp F => by
    obtain ⟨h1, h2, h3, h4, -, q0, q1, q2, q3⟩ := hp
    have := miss2 z1 z2 s1 s2 h1 h2 h3 h4 (F _ l1) (F _ l2)
    have := q1 (by omega)
    omega)
  have u1 := none_fair (nn := nn) (m := 1) (by omega) (fun x a b d e hp F => by
    obtain ⟨h1, h2, h3, h4, -, q0, q1, q2, q3⟩ := hp
    have := miss2 z1 z2 s1 s2 h1 h2 h3 h4 (F _ l1) (F _ l2)
    have := q1 (by omega)
    omega)
  have o := one_fair (nn := nn) (m := 2) (r := 3) (x := [((pos nn c1 + nn c1 : Nat) : Int), ((pos nn c2 + nn c2 : Nat) : Int)]) (a := (pos nn c1 + nn c1)) (b := (pos nn c2 + nn c2)) (d := (pos nn 4)) (e := (pos nn 4)) (by omega)
    ⟨by omega, by omega, by omega, by omega, rfl, by omega, by omega, by omega, by omega⟩
    (asc_cons (by omega) (by omega) (asc_cons (by omega) (by omega) rfl))
    (fun c hc => by
      rcases hz c hc with h | rfl | rfl
      · rw [h]; exact fr_zero _ _ _ _ _
      · unfold Fr4 C; omega
      · unfold Fr4 C; omega)
    (fun y a b d e hp F => by
      obtain ⟨h1, h2, h3, h4, rfl, q0, q1, q2, q3⟩ := hp
      obtain ⟨e1, e2⟩ := only2 z1 z2 s1 s2 h1 h2 h3 h4 (q2 (by omega)) (q3 (by omega)) (F _ l1) (F _ l2)
      rw [e1, e2]
      rfl)
  exact ((fewL_next (r := 5) (m := 0) (by omega) u0).trans ((fewL_next (r := 4) (m := 1) (by omega) u1).trans o))
theorem fewK3 {nn : Nat → Nat} {c1 c2 c3 : Nat} (l1 : c1 < 4) (l2 : c2 < 4) (l3 : c3 < 4) (z1 : 0 < nn c1) (z2 : 0 < nn c2) (z3 : 0 < nn c3) (s1 : pos nn c1 + 2 * nn c1 ≤ pos nn c2) (s2 : pos nn c2 + 2 * nn c2 ≤ pos nn c3) (s3 : pos nn c3 + 2 * nn c3 ≤ pos nn 4) (hz : ∀ c, c < 4 → nn c = 0 ∨ c = c1 ∨ c = c2 ∨ c = c3) : fewV (bs (grp nn 4)) 1 1 = some [((pos nn c1 + nn c1 : Nat) : Int), ((pos nn c2 + nn c2 : Nat) : Int), ((pos nn c3 + nn c3 : Nat) : Int)] := by
  have u0 := none_fair (nn := nn) (m := 0) (by omega) (fun x a b d e hp F => by
    obtain ⟨h1, h2, h3, h4, -, q0, q1, q2, q3⟩ := hp
    have := miss3 z1 z2 z3 s1 s2 s3 h1 h2 h3 h4 (F _ l1) (F _ l2) (F _ l3)
    have := q2 (by omega)
    omega)
  have u1 := none_fair (nn := nn) (m := 1) (by omega) (fun x a b d e hp F => by
    obtain ⟨h1, h2, h3, h4, -, q0, q1, q2, q3⟩ := hp
    have := miss3 z1 z2 z3 s1 s2 s3 h1 h2 h3 h4 (F _ l1) (F _ l2) (F _ l3)
    have := q2 (by omega)
    omega)
  have u2 := none_fair (nn := nn) (m := 2) (by omega) (fun x a b d e hp F => by
    obtain ⟨h1, h2, h3, h4, -, q0, q1, q2, q3⟩ := hp
    have := miss3 z1 z2 z3 s1 s2 s3 h1 h2 h3 h4 (F _ l1) (F _ l2) (F _ l3)
    have := q2 (by omega)
    omega)
  have o := one_fair (nn := nn) (m := 3) (r := 2) (x := [((pos nn c1 + nn c1 : Nat) : Int), ((pos nn c2 + nn c2 : Nat) : Int), ((pos nn c3 + nn c3 : Nat) : Int)]) (a := (pos nn c1 + nn c1)) (b := (pos nn c2 + nn c2)) (d := (pos nn c3 + nn c3)) (e := (pos nn 4)) (by omega)
    ⟨by omega, by omega, by omega, by omega, rfl, by omega, by omega, by omega, by omega⟩
    (asc_cons (by omega) (by omega) (asc_cons (by omega) (by omega) (asc_cons (by omega) (by omega) rfl)))
    (fun c hc => by
      rcases hz c hc with h | rfl | rfl | rfl
      · rw [h]; exact fr_zero _ _ _ _ _
      · unfold Fr4 C; omega
      · unfold Fr4 C; omega
      · unfold Fr4 C; omega)
    (fun y a b d e hp F => by
      obtain ⟨h1, h2, h3, h4, rfl, q0, q1, q2, q3⟩ := hp
      obtain ⟨e1, e2, e3⟩ := only3 z1 z2 z3 s1 s2 s3 h1 h2 h3 h4 (q3 (by omega)) (F _ l1) (F _ l2) (F _ l3)
      rw [e1, e2, e3]
      rfl)
  exact ((fewL_next (r := 5) (m := 0) (by omega) u0).trans ((fewL_next (r := 4) (m := 1) (by omega) u1).trans ((fewL_next (r := 3) (m := 2) (by omega) u2).trans o)))
theorem fewK4 {nn : Nat → Nat} {c1 c2 c3 c4 : Nat} (l1 : c1 < 4) (l2 : c2 < 4) (l3 : c3 < 4) (l4 : c4 < 4) (z1 : 0 < nn c1) (z2 : 0 < nn c2) (z3 : 0 < nn c3) (z4 : 0 < nn c4) (s1 : pos nn c1 + 2 * nn c1 ≤ pos nn c2) (s2 : pos nn c2 + 2 * nn c2 ≤ pos nn c3) (s3 : pos nn c3 + 2 * nn c3 ≤ pos nn c4) (s4 : pos nn c4 + 2 * nn c4 ≤ pos nn 4) (hz : ∀ c, c < 4 → nn c = 0 ∨ c = c1 ∨ c = c2 ∨ c = c3 ∨ c = c4) : fewV (bs (grp nn 4)) 1 1 = some [((pos nn c1 + nn c1 : Nat) : Int), ((pos nn c2 + nn c2 : Nat) : Int), ((pos nn c3 + nn c3 : Nat) : Int), ((pos nn c4 + nn c4 : Nat) : Int)] := by
  have u0 := none_fair (nn := nn) (m := 0) (by omega) (fun x a b d e hp F => by
    obtain ⟨h1, h2, h3, h4, -, q0, q1, q2, q3⟩ := hp
    have := miss4 z1 z2 z3 z4 s1 s2 s3 s4 h1 h2 h3 h4 (F _ l1) (F _ l2) (F _ l3) (F _ l4)
    have := q3 (by omega)
    omega)
  have u1 := none_fair (nn := nn) (m := 1) (by omega) (fun x a b d e hp F => by
    obtain ⟨h1, h2, h3, h4, -, q0, q1, q2, q3⟩ := hp
    have := miss4 z1 z2 z3 z4 s1 s2 s3 s4 h1 h2 h3 h4 (F _ l1) (F _ l2) (F _ l3) (F _ l4)
    have := q3 (by omega)
    omega)
  have u2 := none_fair (nn := nn) (m := 2) (by omega) (fun x a b d e hp F => by
    obtain ⟨h1, h2, h3, h4, -, q0, q1, q2, q3⟩ := hp
    have := miss4 z1 z2 z3 z4 s1 s2 s3 s4 h1 h2 h3 h4 (F _ l1) (F _ l2) (F _ l3) (F _ l4)
    have := q3 (by omega)
    omega)
  have u3 := none_fair (nn := nn) (m := 3) (by omega) (fun x a b d e hp F => by
    obtain ⟨h1, h2, h3, h4, -, q0, q1, q2, q3⟩ := hp
    have := miss4 z1 z2 z3 z4 s1 s2 s3 s4 h1 h2 h3 h4 (F _ l1) (F _ l2) (F _ l3) (F _ l4)
    have := q3 (by omega)
    omega)
  have o := one_fair (nn := nn) (m := 4) (r := 1) (x := [((pos nn c1 + nn c1 : Nat) : Int), ((pos nn c2 + nn c2 : Nat) : Int), ((pos nn c3 + nn c3 : Nat) : Int), ((pos nn c4 + nn c4 : Nat) : Int)]) (a := (pos nn c1 + nn c1)) (b := (pos nn c2 + nn c2)) (d := (pos nn c3 + nn c3)) (e := (pos nn c4 + nn c4)) (by omega)
    ⟨by omega, by omega, by omega, by omega, rfl, by omega, by omega, by omega, by omega⟩
    (asc_cons (by omega) (by omega) (asc_cons (by omega) (by omega) (asc_cons (by omega) (by omega) (asc_cons (by omega) (by omega) rfl))))
    (fun c hc => by
      rcases hz c hc with h | rfl | rfl | rfl | rfl
      · rw [h]; exact fr_zero _ _ _ _ _
      · unfold Fr4 C; omega
      · unfold Fr4 C; omega
      · unfold Fr4 C; omega
      · unfold Fr4 C; omega)
    (fun y a b d e hp F => by
      obtain ⟨h1, h2, h3, h4, rfl, q0, q1, q2, q3⟩ := hp
      obtain ⟨e1, e2, e3, e4⟩ := only4 z1 z2 z3 z4 s1 s2 s3 s4 h1 h2 h3 h4  (F _ l1) (F _ l2) (F _ l3) (F _ l4)
      rw [e1, e2, e3, e4]
      rfl)
  exact ((fewL_next (r := 5) (m := 0) (by omega) u0).trans ((fewL_next (r := 4) (m := 1) (by omega) u1).trans ((fewL_next (r := 3) (m := 2) (by omega) u2).trans ((fewL_next (r := 2) (m := 3) (by omega) u3).trans o))))
theorem few_grp (nn : Nat → Nat) : fewV (bs (grp nn 4)) 1 1 = some (wnt nn 4) := by
  have p1 : pos nn 1 = pos nn 0 + 2 * nn 0 := rfl
  have p2 : pos nn 2 = pos nn 1 + 2 * nn 1 := rfl
  have p3 : pos nn 3 = pos nn 2 + 2 * nn 2 := rfl
  have p4 : pos nn 4 = pos nn 3 + 2 * nn 3 := rfl
  rcases Nat.eq_zero_or_pos (nn 0) with h0 | h0
  · rcases Nat.eq_zero_or_pos (nn 1) with h1 | h1
    · rcases Nat.eq_zero_or_pos (nn 2) with h2 | h2
      · rcases Nat.eq_zero_or_pos (nn 3) with h3 | h3
        · have hw : wnt nn 4 = [] := by simp [wnt, h0, h1, h2, h3]
          rw [hw]
          exact fewK0   (fun c hc => by
            rcases c with _ | _ | _ | _ | c
            · exact h0
            · exact h1
            · exact h2
            · exact h3
            · omega)
        · have hw : wnt nn 4 = [((pos nn 3 + nn 3 : Nat) : Int)] := by simp [wnt, h0, h1, h2, Nat.ne_of_gt h3]
          rw [hw]
          exact fewK1 (c1 := 3) (by omega) h3 (by omega) (fun c hc => by
            rcases c with _ | _ | _ | _ | c
            · exact .inl h0
            · exact .inl h1
            · exact .inl h2
            · exact .inr rfl
            · omega)
      · rcases Nat.eq_zero_or_pos (nn 3) with h3 | h3
        · have hw : wnt nn 4 = [((pos nn 2 + nn 2 : Nat) : Int)] := by simp [wnt, h0, h1, Nat.ne_of_gt h2, h3]
          rw [hw]
          exact fewK1 (c1 := 2) (by omega) h2 (by omega) (fun c hc => by
            rcases c with _ | _ | _ | _ | c
            · exact .inl h0
            · exact .inl h1
            · exact .inr rfl
            · exact .inl h3
            · omega)
        · have hw : wnt nn 4 = [((pos nn 2 + nn 2 : Nat) : Int), ((pos nn 3 + nn 3 : Nat) : Int)] := by simp [wnt, h0, h1, Nat.ne_of_gt h2, Nat.ne_of_gt h3]
          rw [hw]
          exact fewK2 (c1 := 2) (c2 := 3) (by omega) (by omega) h2 h3 (by omega) (by omega) (fun c hc => by
            rcases c with _ | _ | _ | _ | c
            · exact .inl h0
            · exact .inl h1
            · exact .inr (.inl rfl)
            · exact .inr (.inr rfl)
            · omega)
    · rcases Nat.eq_zero_or_pos (nn 2) with h2 | h2
      · rcases Nat.eq_zero_or_pos (nn 3) with h3 | h3
        · have hw : wnt nn 4 = [((pos nn 1 + nn 1 : Nat) : Int)] := by simp [wnt, h0, Nat.ne_of_gt h1, h2, h3]
          rw [hw]
          exact fewK1 (c1 := 1) (by omega) h1 (by omega) (fun c hc => by
            rcases c with _ | _ | _ | _ | c
            · exact .inl h0
            · exact .inr rfl
            · exact .inl h2
            · exact .inl h3
            · omega)
        · have hw : wnt nn 4 = [((pos nn 1 + nn 1 : Nat) : Int), ((pos nn 3 + nn 3 : Nat) : Int)] := by simp [wnt, h0, Nat.ne_of_gt h1, h2, Nat.ne_of_gt h3]
          rw [hw]
          exact fewK2 (c1 := 1) (c2 := 3) (by omega) (by omega) h1 h3 (by omega) (by omega) (fun c hc => by
            rcases c with _ | _ | _ | _ | c
            · exact .inl h0
            · exact .inr (.inl rfl)
            · exact .inl h2
            · exact .inr (.inr rfl)
            · omega)
      · rcases Nat.eq_zero_or_pos (nn 3) with h3 | h3
        · have hw : wnt nn 4 = [((pos nn 1 + nn 1 : Nat) : Int), ((pos nn 2 + nn 2 : Nat) : Int)] := by simp [wnt, h0, Nat.ne_of_gt h1, Nat.ne_of_gt h2, h3]
          rw [hw]
          exact fewK2 (c1 := 1) (c2 := 2) (by omega) (by omega) h1 h2 (by omega) (by omega) (fun c hc => by
            rcases c with _ | _ | _ | _ | c
            · exact .inl h0
            · exact .inr (.inl rfl)
            · exact .inr (.inr rfl)
            · exact .inl h3
            · omega)
        · have hw : wnt nn 4 = [((pos nn 1 + nn 1 : Nat) : Int), ((pos nn 2 + nn 2 : Nat) : Int), ((pos nn 3 + nn 3 : Nat) : Int)] := by simp [wnt, h0, Nat.ne_of_gt h1, Nat.ne_of_gt h2, Nat.ne_of_gt h3]
          rw [hw]
          exact fewK3 (c1 := 1) (c2 := 2) (c3 := 3) (by omega) (by omega) (by omega) h1 h2 h3 (by omega) (by omega) (by omega) (fun c hc => by
            rcases c with _ | _ | _ | _ | c
            · exact .inl h0
            · exact .inr (.inl rfl)
            · exact .inr (.inr (.inl rfl))
            · exact .inr (.inr (.inr rfl))
            · omega)
  · rcases Nat.eq_zero_or_pos (nn 1) with h1 | h1
    · rcases Nat.eq_zero_or_pos (nn 2) with h2 | h2
      · rcases Nat.eq_zero_or_pos (nn 3) with h3 | h3
        · have hw : wnt nn 4 = [((pos nn 0 + nn 0 : Nat) : Int)] := by simp [wnt, Nat.ne_of_gt h0, h1, h2, h3]
          rw [hw]
          exact fewK1 (c1 := 0) (by omega) h0 (by omega) (fun c hc => by
            rcases c with _ | _ | _ | _ | c
            · exact .inr rfl
            · exact .inl h1
            · exact .inl h2
            · exact .inl h3
            · omega)
        · have hw : wnt nn 4 = [((pos nn 0 + nn 0 : Nat) : Int), ((pos nn 3 + nn 3 : Nat) : Int)] := by simp [wnt, Nat.ne_of_gt h0, h1, h2, Nat.ne_of_gt h3]
          rw [hw]
          exact fewK2 (c1 := 0) (c2 := 3) (by omega) (by omega) h0 h3 (by omega) (by omega) (fun c hc => by
            rcases c with _ | _ | _ | _ | c
            · exact .inr (.inl rfl)
            · exact .inl h1
            · exact .inl h2
            · exact .inr (.inr rfl)
            · omega)
      · rcases Nat.eq_zero_or_pos (nn 3) with h3 | h3
        · have hw : wnt nn 4 = [((pos nn 0 + nn 0 : Nat) : Int), ((pos nn 2 + nn 2 : Nat) : Int)] := by simp [wnt, Nat.ne_of_gt h0, h1, Nat.ne_of_gt h2, h3]
          rw [hw]
          exact fewK2 (c1 := 0) (c2 := 2) (by omega) (by omega) h0 h2 (by omega) (by omega) (fun c hc => by
            rcases c with _ | _ | _ | _ | c
            · exact .inr (.inl rfl)
            · exact .inl h1
            · exact .inr (.inr rfl)
            · exact .inl h3
            · omega)
        · have hw : wnt nn 4 = [((pos nn 0 + nn 0 : Nat) : Int), ((pos nn 2 + nn 2 : Nat) : Int), ((pos nn 3 + nn 3 : Nat) : Int)] := by simp [wnt, Nat.ne_of_gt h0, h1, Nat.ne_of_gt h2, Nat.ne_of_gt h3]
          rw [hw]
          exact fewK3 (c1 := 0) (c2 := 2) (c3 := 3) (by omega) (by omega) (by omega) h0 h2 h3 (by omega) (by omega) (by omega) (fun c hc => by
            rcases c with _ | _ | _ | _ | c
            · exact .inr (.inl rfl)
            · exact .inl h1
            · exact .inr (.inr (.inl rfl))
            · exact .inr (.inr (.inr rfl))
            · omega)
    · rcases Nat.eq_zero_or_pos (nn 2) with h2 | h2
      · rcases Nat.eq_zero_or_pos (nn 3) with h3 | h3
        · have hw : wnt nn 4 = [((pos nn 0 + nn 0 : Nat) : Int), ((pos nn 1 + nn 1 : Nat) : Int)] := by simp [wnt, Nat.ne_of_gt h0, Nat.ne_of_gt h1, h2, h3]
          rw [hw]
          exact fewK2 (c1 := 0) (c2 := 1) (by omega) (by omega) h0 h1 (by omega) (by omega) (fun c hc => by
            rcases c with _ | _ | _ | _ | c
            · exact .inr (.inl rfl)
            · exact .inr (.inr rfl)
            · exact .inl h2
            · exact .inl h3
            · omega)
        · have hw : wnt nn 4 = [((pos nn 0 + nn 0 : Nat) : Int), ((pos nn 1 + nn 1 : Nat) : Int), ((pos nn 3 + nn 3 : Nat) : Int)] := by simp [wnt, Nat.ne_of_gt h0, Nat.ne_of_gt h1, h2, Nat.ne_of_gt h3]
          rw [hw]
          exact fewK3 (c1 := 0) (c2 := 1) (c3 := 3) (by omega) (by omega) (by omega) h0 h1 h3 (by omega) (by omega) (by omega) (fun c hc => by
            rcases c with _ | _ | _ | _ | c
            · exact .inr (.inl rfl)
            · exact .inr (.inr (.inl rfl))
            · exact .inl h2
            · exact .inr (.inr (.inr rfl))
            · omega)
      · rcases Nat.eq_zero_or_pos (nn 3) with h3 | h3
        · have hw : wnt nn 4 = [((pos nn 0 + nn 0 : Nat) : Int), ((pos nn 1 + nn 1 : Nat) : Int), ((pos nn 2 + nn 2 : Nat) : Int)] := by simp [wnt, Nat.ne_of_gt h0, Nat.ne_of_gt h1, Nat.ne_of_gt h2, h3]
          rw [hw]
          exact fewK3 (c1 := 0) (c2 := 1) (c3 := 2) (by omega) (by omega) (by omega) h0 h1 h2 (by omega) (by omega) (by omega) (fun c hc => by
            rcases c with _ | _ | _ | _ | c
            · exact .inr (.inl rfl)
            · exact .inr (.inr (.inl rfl))
            · exact .inr (.inr (.inr rfl))
            · exact .inl h3
            · omega)
        · have hw : wnt nn 4 = [((pos nn 0 + nn 0 : Nat) : Int), ((pos nn 1 + nn 1 : Nat) : Int), ((pos nn 2 + nn 2 : Nat) : Int), ((pos nn 3 + nn 3 : Nat) : Int)] := by simp [wnt, Nat.ne_of_gt h0, Nat.ne_of_gt h1, Nat.ne_of_gt h2, Nat.ne_of_gt h3]
          rw [hw]
          exact fewK4 (c1 := 0) (c2 := 1) (c3 := 2) (c4 := 3) (by omega) (by omega) (by omega) (by omega) h0 h1 h2 h3 (by omega) (by omega) (by omega) (by omega) (fun c hc => by
            rcases c with _ | _ | _ | _ | c
            · exact .inr (.inl rfl)
            · exact .inr (.inr (.inl rfl))
            · exact .inr (.inr (.inr (.inl rfl)))
            · exact .inr (.inr (.inr (.inr rfl)))
            · omega)
end Go.Proofs.Ytopeppnajbnfgaa
