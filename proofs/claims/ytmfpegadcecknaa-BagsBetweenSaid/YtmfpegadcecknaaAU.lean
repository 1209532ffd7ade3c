/- Copies of lists. -/
import Derived.Maps.AppendAt
import Derived.Laws.AppendOwnNone
import Derived.Test.YtmfpegadcecknaaAT
namespace Go.Proofs.Ytmfpegadcecknaa
open Go.RowKit
set_option maxHeartbeats 1000000
set_option maxRecDepth 100000
def pv (ps : List (Int × Int)) : List Value := ps.flatMap fun p => [.int .i64 p.1, .int .i64 p.2]
def iv (xs : List Int) : List Value := xs.map (Value.int .i64)
theorem iv_len (xs : List Int) : (iv xs).length = xs.length := List.length_map _
theorem pv_len (ps : List (Int × Int)) : (pv ps).length = ps.length * 2 := by
  induction ps with
  | nil => rfl
  | cons p ps ih => unfold pv at *; simp [ih]; omega
theorem pv_at : ∀ (ps : List (Int × Int)) (i : Nat), i < ps.length → (pv ps)[i * 2]? = some (.int .i64 (pA ps i)) ∧ (pv ps)[i * 2 + 1]? = some (.int .i64 (pB ps i))
  | [], _, h => absurd h (by simp)
  | p :: ps, 0, _ => ⟨rfl, rfl⟩
  | p :: ps, i + 1, h => by
    obtain ⟨h1, h2⟩ := pv_at ps i (by simpa using h)
    have e : pv (p :: ps) = .int .i64 p.1 :: .int .i64 p.2 :: pv ps := rfl
    have e1 : pA (p :: ps) (i + 1) = pA ps i := rfl
    have e2 : pB (p :: ps) (i + 1) = pB ps i := rfl
    rw [e, e1, e2]
    refine ⟨?_, ?_⟩
    · rw [show (i + 1) * 2 = i * 2 + 1 + 1 by omega]; simpa using h1
    · rw [show (i + 1) * 2 + 1 = i * 2 + 1 + 1 + 1 by omega]; simpa using h2
theorem pv_one (ps : List (Int × Int)) : ∀ u ∈ pv ps, u.oneCell' = true := by
  intro u hu
  unfold pv at hu
  simp only [List.mem_flatMap, List.mem_cons, List.not_mem_nil, or_false] at hu
  obtain ⟨p, _, rfl | rfl⟩ := hu <;> rfl
theorem iv_one (xs : List Int) : ∀ u ∈ iv xs, u.oneCell' = true := by
  intro u hu
  unfold iv at hu
  obtain ⟨x, _, rfl⟩ := List.mem_map.1 hu
  rfl
theorem pA_take (es : List (Int × Int)) (k i : Nat) (h : i < k) : pA (es.take k) i = pA es i ∧ pB (es.take k) i = pB es i := by
  unfold pA pB; simp [h]
theorem geti_take (xs : List Int) (k i : Nat) (h : i < k) : geti (xs.take k) i = geti xs i := by
  unfold geti; simp [h]
/-- The first pairs lie where the pairs lie. -/
theorem PairsAt.news {w : World} {ad : Addr} {es : List (Int × Int)} (h : PairsAt w (some ad) es) (k : Nat) : ∀ j u, (pv (es.take k))[j]? = some u → w.cell? (ad.add j) = some u := by
  intro j u hj
  have hjl := (List.getElem?_eq_some_iff.1 hj).1
  rw [pv_len] at hjl
  have hl : (es.take k).length ≤ es.length := by rw [List.length_take]; omega
  have hk : (es.take k).length ≤ k := by rw [List.length_take]; omega
  obtain ⟨b, o, e, hb, hc⟩ := h (by omega)
  injection e with e
  subst e
  rw [WideShapes.add_plain]
  obtain ⟨c1, c2⟩ := hc (j / 2) (by omega)
  obtain ⟨q1, q2⟩ := pv_at (es.take k) (j / 2) (by omega)
  obtain ⟨t1, t2⟩ := pA_take es k (j / 2) (by omega)
  rcases Nat.mod_two_eq_zero_or_one j with hm | hm
  · have ej : j = j / 2 * 2 := by omega
    rw [← ej] at q1 c1
    rw [q1] at hj
    rw [c1, ← hj, t1]
  · have ej : j = j / 2 * 2 + 1 := by omega
    rw [Nat.add_assoc] at c2
    rw [← ej] at q2 c2
    rw [q2] at hj
    rw [c2, ← hj, t2]
theorem IntsAt.news {w : World} {ad : Addr} {xs : List Int} (h : IntsAt w (some ad) xs) (k : Nat) : ∀ j u, (iv (xs.take k))[j]? = some u → w.cell? (ad.add j) = some u := by
  intro j u hj
  have hjl := (List.getElem?_eq_some_iff.1 hj).1
  rw [iv_len, List.length_take] at hjl
  unfold iv at hj
  obtain ⟨b, o, e, hb, hc⟩ := h (by omega)
  injection e with e
  subst e
  rw [WideShapes.add_plain, hc j (by omega), ← hj, List.getElem?_map, List.getElem?_eq_getElem (by rw [List.length_take]; omega), geti_eq (by omega)]
  simp
theorem own_pairs {w : World} {b n : Nat} {t : TypeId} {v : Value} {ps : List (Int × Int)} (h : w.ownsRow b t 2 v n (pv ps)) : ∃ A c, v = .slice A ps.length c ∧ n = ps.length ∧ ps.length ≤ c ∧ PairsAt w A ps := by
  have hl : ps.length = n := by have := h.1; rw [pv_len] at this; omega
  subst hl
  rcases h.2 with ⟨rfl, h0⟩ | ⟨g, cap, cur, rfl, hb, hg, hc, _, hs, ht⟩
  · exact ⟨none, 0, by rw [h0], rfl, by omega, fun hp => by omega⟩
  · refine ⟨_, cap, rfl, rfl, hc, fun hp => ⟨g, 0, rfl, (Array.getElem?_eq_some_iff.1 hg).1, fun i hi => ?_⟩⟩
    obtain ⟨q1, q2⟩ := pv_at ps i hi
    have hc0 : ∀ j u, (pv ps)[j]? = some u → w.cell? ⟨g, j, none⟩ = some u := fun j u hj => by
      have := h.cells (g := g) rfl j u hj
      rwa [WideShapes.add_plain, Nat.zero_add] at this
    exact ⟨by rw [Nat.zero_add]; exact hc0 _ _ q1, by rw [Nat.zero_add]; exact hc0 _ _ q2⟩
theorem own_intsI {w : World} {b n : Nat} {t : TypeId} {v : Value} {xs : List Int} (h : w.ownsRow b t 1 v n (iv xs)) : ∃ A c, v = .slice A xs.length c ∧ n = xs.length ∧ xs.length ≤ c ∧ IntsAt w A xs := by
  have hl : xs.length = n := by have := h.1; rw [iv_len] at this; omega
  subst hl
  rcases h.2 with ⟨rfl, h0⟩ | ⟨g, cap, cur, rfl, hb, hg, hc, _, hs, ht⟩
  · exact ⟨none, 0, by rw [h0], rfl, by omega, fun hp => by omega⟩
  · refine ⟨_, cap, rfl, rfl, hc, fun hp => ⟨g, 0, rfl, (Array.getElem?_eq_some_iff.1 hg).1, fun i hi => ?_⟩⟩
    have := h.cells (g := g) rfl i (.int .i64 (geti xs i)) (by unfold iv; rw [List.getElem?_map, List.getElem?_eq_getElem hi, geti_eq hi]; rfl)
    rw [WideShapes.add_plain] at this
    exact this
theorem info67k : ((Try.prog.info? 67).map fun i => (i.zero, i.size, i.bytes)) = some (some (.agg #[.int .i64 0, .int .i64 0]), 2, 16) := by kernel_rfl
theorem take_min {α : Type} (xs : List α) (h : xs.length ≤ 130) : xs.take 130 = xs := List.take_of_length_le h
theorem nil_pairs {w : World} {es : List (Int × Int)} (ha : PairsAt w none es) : es = [] := List.eq_nil_of_length_eq_zero (by
  rcases Nat.eq_zero_or_pos es.length with h | h
  · exact h
  · obtain ⟨b, o, e, _⟩ := ha h; cases e)
theorem nil_ints {w : World} {xs : List Int} (ha : IntsAt w none xs) : xs = [] := List.eq_nil_of_length_eq_zero (by
  rcases Nat.eq_zero_or_pos xs.length with h | h
  · exact h
  · obtain ⟨b, o, e, _⟩ := ha h; cases e)
/-- A copy in new memory. -/
def Copied (t z : Nat) (xs : List Value) (w : World) (e : Ending) (w' : World) : Prop := ∃ v n, e = .returned v ∧ w'.ownsRow w.heap.size t z v n xs ∧ Below w.heap.size w w'
theorem edges_any (A : Option Addr) (c : Nat) (es : List (Int × Int)) (w : World) (hx : es.length ≤ c) (hc : c ≤ maxLen) (ha : PairsAt w A es) :
    Calls Try.prog 14 #[.slice A es.length c] w (Copied 67 2 (pv (es.take 130)) w) := by
  obtain ⟨i0, hi, hz0, hz1, hz2⟩ := info_parts info67k
  unfold maxLen at hc
  cases A with
  | none =>
    obtain rfl := nil_pairs ha
    go_enter Try.func14, Try.ntmps14
    go_wp2
    go_ret
    exact ⟨_, 0, rfl, ⟨rfl, .inl ⟨rfl, rfl⟩⟩, Below.refl _ _⟩
  | some ad =>
    have hnew := Lib.hid (ha.news 130)
    have hone := Lib.hid (pv_one (es.take 130))
    by_cases hle : es.length ≤ 130
    · have g1 : decide (130 < (es.length : Int)) = false := decide_eq_false (by omega)
      have hl := Lib.hid (show (es.take 130).length = es.length by rw [List.length_take]; omega)
      go_enter Try.func14, Try.ntmps14
      go_wp2_with (at_builtin; refine wpList_append_own_at _ rfl (.tmp 4) (.tmp 9) 22 rfl w.heap.size 67 i0 _ 2 16 Try.underlying22 hi hz0 hz1 hz2 rfl (by omega) (.slice none 0 0) 0 [] rfl ⟨by simp, .inl ⟨rfl, rfl⟩⟩ ad es.length c (pv (es.take 130)) rfl (by rw [pv_len, hl.out]; try omega) hnew.out hone.out (by unfold maxLen; omega) (by omega) (Nat.le_refl _) ?_; intro v1 w1 hown hg _ _)
      go_ret
      exact ⟨_, _, rfl, hown, (Below.refl _ _).grown hg (Nat.le_refl _) (by simp [Value.ownBlock])⟩
    · have g1 : decide (130 < (es.length : Int)) = true := decide_eq_true (by omega)
      have hl := Lib.hid (show (es.take 130).length = 130 by rw [List.length_take]; omega)
      have hle2 : 130 ≤ c := by omega
      go_enter Try.func14, Try.ntmps14
      go_wp2_with (at_builtin; refine wpList_append_own_at _ rfl (.tmp 4) (.tmp 9) 22 rfl w.heap.size 67 i0 _ 2 16 Try.underlying22 hi hz0 hz1 hz2 rfl (by omega) (.slice none 0 0) 0 [] rfl ⟨by simp, .inl ⟨rfl, rfl⟩⟩ ad 130 c (pv (es.take 130)) rfl (by rw [pv_len, hl.out]; try omega) hnew.out hone.out (by unfold maxLen; omega) (by omega) (Nat.le_refl _) ?_; intro v1 w1 hown hg _ _)
      go_ret
      exact ⟨_, _, rfl, hown, (Below.refl _ _).grown hg (Nat.le_refl _) (by simp [Value.ownBlock])⟩
theorem list_copy_any (A : Option Addr) (c : Nat) (es : List Int) (w : World) (hx : es.length ≤ c) (hc : c ≤ maxLen) (ha : IntsAt w A es) :
    Calls Try.prog 23 #[.slice A es.length c] w (Copied 3 1 (iv (es.take 130)) w) := by
  obtain ⟨i0, hi, hz0, hz1, hz2⟩ := info_parts info3
  unfold maxLen at hc
  cases A with
  | none =>
    obtain rfl := nil_ints ha
    go_enter Try.func23, Try.ntmps23
    go_wp2
    go_ret
    exact ⟨_, 0, rfl, ⟨rfl, .inl ⟨rfl, rfl⟩⟩, Below.refl _ _⟩
  | some ad =>
    have hnew := Lib.hid (ha.news 130)
    have hone := Lib.hid (iv_one (es.take 130))
    by_cases hle : es.length ≤ 130
    · have g1 : decide (130 < (es.length : Int)) = false := decide_eq_false (by omega)
      have hl := Lib.hid (show (es.take 130).length = es.length by rw [List.length_take]; omega)
      go_enter Try.func23, Try.ntmps23
      go_wp2_with (at_builtin; refine wpList_append_own_at _ rfl (.tmp 4) (.tmp 9) 24 rfl w.heap.size 3 i0 _ 1 8 Try.underlying24 hi hz0 hz1 hz2 rfl (by omega) (.slice none 0 0) 0 [] rfl ⟨by simp, .inl ⟨rfl, rfl⟩⟩ ad es.length c (iv (es.take 130)) rfl (by rw [iv_len, hl.out]; try omega) hnew.out hone.out (by unfold maxLen; omega) (by omega) (Nat.le_refl _) ?_; intro v1 w1 hown hg _ _)
      go_ret
      exact ⟨_, _, rfl, hown, (Below.refl _ _).grown hg (Nat.le_refl _) (by simp [Value.ownBlock])⟩
    · have g1 : decide (130 < (es.length : Int)) = true := decide_eq_true (by omega)
      have hl := Lib.hid (show (es.take 130).length = 130 by rw [List.length_take]; omega)
      have hle2 : 130 ≤ c := by omega
      go_enter Try.func23, Try.ntmps23
      go_wp2_with (at_builtin; refine wpList_append_own_at _ rfl (.tmp 4) (.tmp 9) 24 rfl w.heap.size 3 i0 _ 1 8 Try.underlying24 hi hz0 hz1 hz2 rfl (by omega) (.slice none 0 0) 0 [] rfl ⟨by simp, .inl ⟨rfl, rfl⟩⟩ ad 130 c (iv (es.take 130)) rfl (by rw [iv_len, hl.out]; try omega) hnew.out hone.out (by unfold maxLen; omega) (by omega) (Nat.le_refl _) ?_; intro v1 w1 hown hg _ _)
      go_ret
      exact ⟨_, _, rfl, hown, (Below.refl _ _).grown hg (Nat.le_refl _) (by simp [Value.ownBlock])⟩
theorem shares_any (A : Option Addr) (c : Nat) (es : List (Int × Int)) (w : World) (hx : es.length ≤ c) (hc : c ≤ maxLen) (ha : PairsAt w A es) :
    Calls Try.prog 24 #[.slice A es.length c] w (Copied 65 2 (pv (es.take 130)) w) := by
  obtain ⟨i0, hi, hz0, hz1, hz2⟩ := info_parts info65k
  unfold maxLen at hc
  cases A with
  | none =>
    obtain rfl := nil_pairs ha
    go_enter Try.func24, Try.ntmps24
    go_wp2
    go_ret
    exact ⟨_, 0, rfl, ⟨rfl, .inl ⟨rfl, rfl⟩⟩, Below.refl _ _⟩
  | some ad =>
    have hnew := Lib.hid (ha.news 130)
    have hone := Lib.hid (pv_one (es.take 130))
    by_cases hle : es.length ≤ 130
    · have g1 : decide (130 < (es.length : Int)) = false := decide_eq_false (by omega)
      have hl := Lib.hid (show (es.take 130).length = es.length by rw [List.length_take]; omega)
      go_enter Try.func24, Try.ntmps24
      go_wp2_with (at_builtin; refine wpList_append_own_at _ rfl (.tmp 4) (.tmp 9) 27 rfl w.heap.size 65 i0 _ 2 16 Try.underlying27 hi hz0 hz1 hz2 rfl (by omega) (.slice none 0 0) 0 [] rfl ⟨by simp, .inl ⟨rfl, rfl⟩⟩ ad es.length c (pv (es.take 130)) rfl (by rw [pv_len, hl.out]; try omega) hnew.out hone.out (by unfold maxLen; omega) (by omega) (Nat.le_refl _) ?_; intro v1 w1 hown hg _ _)
      go_ret
      exact ⟨_, _, rfl, hown, (Below.refl _ _).grown hg (Nat.le_refl _) (by simp [Value.ownBlock])⟩
    · have g1 : decide (130 < (es.length : Int)) = true := decide_eq_true (by omega)
      have hl := Lib.hid (show (es.take 130).length = 130 by rw [List.length_take]; omega)
      have hle2 : 130 ≤ c := by omega
      go_enter Try.func24, Try.ntmps24
      go_wp2_with (at_builtin; refine wpList_append_own_at _ rfl (.tmp 4) (.tmp 9) 27 rfl w.heap.size 65 i0 _ 2 16 Try.underlying27 hi hz0 hz1 hz2 rfl (by omega) (.slice none 0 0) 0 [] rfl ⟨by simp, .inl ⟨rfl, rfl⟩⟩ ad 130 c (pv (es.take 130)) rfl (by rw [pv_len, hl.out]; try omega) hnew.out hone.out (by unfold maxLen; omega) (by omega) (Nat.le_refl _) ?_; intro v1 w1 hown hg _ _)
      go_ret
      exact ⟨_, _, rfl, hown, (Below.refl _ _).grown hg (Nat.le_refl _) (by simp [Value.ownBlock])⟩
end Go.Proofs.Ytmfpegadcecknaa
