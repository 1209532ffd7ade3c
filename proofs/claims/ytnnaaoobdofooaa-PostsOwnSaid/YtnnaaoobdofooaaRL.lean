/- Copies of rows. -/
import Derived.Test.YtnnaaoobdofooaaRK
namespace Go.Proofs.Ytnnaaoobdofooaa
open Go.ChangeShapes Go.WideShapes Go.ChangeAt Go.RowKit
set_option maxHeartbeats 1000000
set_option maxRecDepth 100000
theorem IntsAt.news {w : World} {ad : Addr} {xs : List Int} (h : IntsAt w (some ad) xs) (k : Nat) : ∀ j u, (iv (xs.take k))[j]? = some u → w.cell? (ad.add j) = some u := by
  intro j u hj
  have hjl := (List.getElem?_eq_some_iff.1 hj).1
  rw [iv_len, List.length_take] at hjl
  unfold iv at hj
  obtain ⟨b, o, e, hb, hc⟩ := h (by omega)
  injection e with e
  subst e
  rw [WideShapes.add_plain, hc j (by omega), ← hj, List.getElem?_map, List.getElem?_eq_getElem (by rw [List.length_take]; omega), geti_eq (by omega)]
  simp
theorem nil_ints {w : World} {xs : List Int} (ha : IntsAt w none xs) : xs = [] := List.eq_nil_of_length_eq_zero (by
  rcases Nat.eq_zero_or_pos xs.length with h | h
  · exact h
  · obtain ⟨b, o, e, _⟩ := ha h; cases e)
theorem list_copy_any (A : Option Addr) (c : Nat) (es : List Int) (w : World) (hx : es.length ≤ c) (hc : c ≤ maxLen) (ha : IntsAt w A es) :
    Calls Try.prog 34 #[.slice A es.length c] w (Copied 3 1 (iv (es.take 12)) w) := by
  obtain ⟨i0, hi, hz0, hz1, hz2⟩ := info_parts info3
  unfold maxLen at hc
  cases A with
  | none =>
    obtain rfl := nil_ints ha
    go_enter Try.func34, Try.ntmps34
    go_wp2
    go_ret
    exact ⟨_, 0, rfl, ⟨rfl, .inl ⟨rfl, rfl⟩⟩, Below.refl _ _⟩
  | some ad =>
    have hnew := Lib.hid (ha.news 12)
    have hone := Lib.hid (iv_one (es.take 12))
    by_cases hle : es.length ≤ 12
    · have g1 : min (es.length : Int) 12 = es.length := by omega
      have hl := Lib.hid (show (es.take 12).length = es.length by rw [List.length_take]; omega)
      go_enter Try.func34, Try.ntmps34
      go_wp2_with (at_builtin; refine wpList_append_own_at _ rfl (.tmp 4) (.tmp 9) 27 rfl w.heap.size 3 i0 _ 1 8 Try.underlying27 hi hz0 hz1 hz2 rfl (by omega) (.slice none 0 0) 0 [] rfl ⟨by simp, .inl ⟨rfl, rfl⟩⟩ ad es.length c (iv (es.take 12)) rfl (by rw [iv_len, hl.out]; try omega) hnew.out hone.out (by unfold maxLen; omega) (by omega) (Nat.le_refl _) ?_; intro v1 w1 hown hg _ _)
      go_ret
      exact ⟨_, _, rfl, hown, (Below.refl _ _).grown hg (Nat.le_refl _) (by simp [Value.ownBlock])⟩
    · have g1 : min (es.length : Int) 12 = 12 := by omega
      have hl := Lib.hid (show (es.take 12).length = 12 by rw [List.length_take]; omega)
      have hle2 : 12 ≤ c := by omega
      go_enter Try.func34, Try.ntmps34
      go_wp2_with (at_builtin; refine wpList_append_own_at _ rfl (.tmp 4) (.tmp 9) 27 rfl w.heap.size 3 i0 _ 1 8 Try.underlying27 hi hz0 hz1 hz2 rfl (by omega) (.slice none 0 0) 0 [] rfl ⟨by simp, .inl ⟨rfl, rfl⟩⟩ ad 12 c (iv (es.take 12)) rfl (by rw [iv_len, hl.out]; try omega) hnew.out hone.out (by unfold maxLen; omega) (by omega) (Nat.le_refl _) ?_; intro v1 w1 hown hg _ _)
      go_ret
      exact ⟨_, _, rfl, hown, (Below.refl _ _).grown hg (Nat.le_refl _) (by simp [Value.ownBlock])⟩
end Go.Proofs.Ytnnaaoobdofooaa
