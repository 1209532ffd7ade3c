/- Copies; the reference's fairness. -/
import Derived.Test.YtopeppnajbnfgaaFX
namespace Go.Proofs.Ytopeppnajbnfgaa
open Go.RowKit
set_option maxHeartbeats 1000000
set_option maxRecDepth 100000
theorem IntsAt.news {w : World} {ad : Addr} {xs : List Int} (h : IntsAt w (some ad) xs) (k : Nat) : ∀ j u, (iv (xs.take k))[j]? = some u → w.cell? (ad.add j) = some u := by
  intro j u hj
  have hjl := (List.getElem?_eq_some_iff.1 hj).1
  rw [iv_len, List.length_take] at hjl
  unfold iv at hj
  obtain ⟨b, o, e, hb, hc⟩ := h (by omega)
  injection e with e
  subst e
  rw [WideShapes.add_plain, hc j (by omega), ← hj, List.getElem?_map, List.getElem?_eq_getElem (by rw [List.length_take]; omega), geti_eq (by omega)]
  simp
theorem nil_ints {w : World} {xs : List Int} (ha : IntsAt w none xs) : xs = [] := List.eq_nil_of_length_eq_zero (by
  rcases Nat.eq_zero_or_pos xs.length with h | h
  · exact h
  · obtain ⟨b, o, e, _⟩ := ha h; cases e)
theorem list_copy_any (A : Option Addr) (c : Nat) (es : List Int) (w : World) (hx : es.length ≤ c) (hc : c ≤ maxLen) (ha : IntsAt w A es) :
    Calls Try.prog 26 #[.slice A es.length c] w (Copied 3 1 (iv (es.take 30)) w) := by
  obtain ⟨i0, hi, hz0, hz1, hz2⟩ := info_parts info3
  unfold maxLen at hc
  cases A with
  | none =>
    obtain rfl := nil_ints ha
    go_enter Try.func26, Try.ntmps26
    go_wp2
    go_ret
    exact ⟨_, 0, rfl, ⟨rfl, .inl ⟨rfl, rfl⟩⟩, Below.refl _ _⟩
  | some ad =>
    have hnew := Lib.hid (ha.news 30)
    have hone := Lib.hid (iv_one (es.take 30))
    by_cases hle : es.length ≤ 30
    · have g1 : decide (30 < (es.length : Int)) = false := decide_eq_false (by omega)
      have hl := Lib.hid (show (es.take 30).length = es.length by rw [List.length_take]; omega)
      go_enter Try.func26, Try.ntmps26
      go_wp2_with (at_builtin; refine wpList_append_own_at _ rfl (.tmp 4) (.tmp 9) 23 rfl w.heap.size 3 i0 _ 1 8 Try.underlying23 hi hz0 hz1 hz2 rfl (by omega) (.slice none 0 0) 0 [] rfl ⟨by simp, .inl ⟨rfl, rfl⟩⟩ ad es.length c (iv (es.take 30)) rfl (by rw [iv_len, hl.out]; try omega) hnew.out hone.out (by unfold maxLen; omega) (by omega) (Nat.le_refl _) ?_; intro v1 w1 hown hg _ _)
      go_ret
      exact ⟨_, _, rfl, hown, (Below.refl _ _).grown hg (Nat.le_refl _) (by simp [Value.ownBlock])⟩
    · have g1 : decide (30 < (es.length : Int)) = true := decide_eq_true (by omega)
      have hl := Lib.hid (show (es.take 30).length = 30 by rw [List.length_take]; omega)
      have hle2 : 30 ≤ c := by omega
      go_enter Try.func26, Try.ntmps26
      go_wp2_with (at_builtin; refine wpList_append_own_at _ rfl (.tmp 4) (.tmp 9) 23 rfl w.heap.size 3 i0 _ 1 8 Try.underlying23 hi hz0 hz1 hz2 rfl (by omega) (.slice none 0 0) 0 [] rfl ⟨by simp, .inl ⟨rfl, rfl⟩⟩ ad 30 c (iv (es.take 30)) rfl (by rw [iv_len, hl.out]; try omega) hnew.out hone.out (by unfold maxLen; omega) (by omega) (Nat.le_refl _) ?_; intro v1 w1 hown hg _ _)
      go_ret
      exact ⟨_, _, rfl, hown, (Below.refl _ _).grown hg (Nat.le_refl _) (by simp [Value.ownBlock])⟩
/-- A list of the call's own, as it is passed on. -/
theorem own_sl {w : World} {b n : Nat} {v : Value} {xs : List Int} (h : w.ownsRow b 3 1 v n (iv xs)) : ∃ A c, v = .slice A xs.length c ∧ xs.length ≤ c ∧ IntsAt w A xs ∧ SlAt A c xs := by
  have hl : xs.length = n := by have := h.1; rw [iv_len] at this; omega
  subst hl
  rcases h.2 with ⟨rfl, h0⟩ | ⟨g, cap, cur, rfl, hb, hg, hc, hrest⟩
  · have h00 : xs = [] := List.eq_nil_of_length_eq_zero h0
    subst h00
    exact ⟨none, 0, rfl, by simp, fun hp => absurd hp (by simp), .inr ⟨rfl, rfl, rfl⟩⟩
  · obtain ⟨A, c, e, -, hc2, hi⟩ := own_intsI h
    injection e with e1 e2 e3
    subst e1 e3
    exact ⟨_, cap, rfl, hc2, hi, .inl ⟨g, 0, rfl⟩⟩
def shortS (s : ByteArray) : ByteArray := s.extract 0 (min s.size 25)
theorem shortS_size (s : ByteArray) : (shortS s).size ≤ 25 := by unfold shortS; rw [ByteArray.size_extract]; omega
theorem short_any (s : ByteArray) (w : World) (hs : s.size ≤ maxLen) : Calls Try.prog 14 #[.string s] w fun e w' => e = .returned (.string (shortS s)) ∧ w = w' := by
  unfold maxLen at hs
  by_cases h : s.size ≤ 25
  · have g1 : decide ((25 : Int) < s.size) = false := decide_eq_false (by omega)
    have g2 : ¬ ((25 : Int) < s.size) := by omega
    have HS := Lib.hid (show shortS s = s.extract 0 s.size by unfold shortS; rw [Nat.min_eq_left h])
    have HZ := Lib.hid (show s.extract 0 s.size = s by simp)
    go_enter Try.func14, Try.ntmps14
    go_wp2
    go_ret
    exact ⟨by rw [HS.out, HZ.out]; rfl, rfl⟩
  · have g1 : decide ((25 : Int) < s.size) = true := decide_eq_true (by omega)
    have g2 : ((25 : Int) < s.size) := by omega
    have HS := Lib.hid (show shortS s = s.extract 0 25 by unfold shortS; rw [Nat.min_eq_right (by omega)])
    have g3 : 25 ≤ s.size := by omega
    go_enter Try.func14, Try.ntmps14
    go_wp2
    go_ret
    exact ⟨by rw [HS.out]; rfl, rfl⟩
theorem RefFair_any (s : ByteArray) (A : Option Addr) (c : Nat) (xs : List Int) (w : World) (hs : s.size ≤ 24) (ho : ∀ i, i < s.size → okC s i) (hcut : cutV 1 s.size xs = true) (hx : IntsAt w A xs) :
    Calls Try.prog 22 #[.string s, .slice A xs.length c] w fun e w' => e = .returned (.bool (refFair s xs)) ∧ Below w.heap.size w w' := by
  have HS := Lib.hid (fun w' (h : IntsAt w' A xs) => RefShares_any s A c xs w' hs hcut h)
  have z0 : (shareV s xs 0).size ≤ 1000000 := by
    have := shr_size s (xs ++ [(s.size : Int)]) 0 (xs.length + 1)
    have h2 : s.size * (xs.length + 1) ≤ 24 * 25 := Nat.mul_le_mul hs (by have := cutV_len (first := 1) (by omega) hcut; omega)
    unfold shareV; omega
  have z1 : (shareV s xs 1).size ≤ 1000000 := by
    have := shr_size s (xs ++ [(s.size : Int)]) 1 (xs.length + 1)
    have h2 : s.size * (xs.length + 1) ≤ 24 * 25 := Nat.mul_le_mul hs (by have := cutV_len (first := 1) (by omega) hcut; omega)
    unfold shareV; omega
  have L0 := Lib.hid (fun w => Letters_any (shareV s xs 0) w z0 (okC_share ho hcut 0))
  have L1 := Lib.hid (fun w => Letters_any (shareV s xs 1) w z1 (okC_share ho hcut 1))
  have E46 := eq46 (x := sumL (shareV s xs 0) (shareV s xs 0).size) (y := sumL (shareV s xs 1) (shareV s xs 1).size) rfl rfl
  go_enter Try.func22, Try.ntmps22
  go_wp2_with (first
    | (go_at_call 28; with_reducible refine (HS.out _ hx).mono ?_; rintro e w1 ⟨rfl, b1⟩)
    | (go_at_call 41; with_reducible refine (L0.out _).mono ?_; rintro e w2 ⟨rfl, b2⟩)
    | (go_at_call 41; with_reducible refine (L1.out _).mono ?_; rintro e w3 ⟨rfl, b3⟩))
  go_ret
  exact ⟨ret_bool rfl, b1.trans ((b2.mono b1.size).trans (b3.mono (by have := b1.size; have := b2.size; omega)))⟩
end Go.Proofs.Ytopeppnajbnfgaa
