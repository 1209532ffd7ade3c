/- slices.Grow and slices.Concat. -/
import Derived.Test.YtokjdadgdfmffaaKG
import Derived.Lib.AppendZeros
namespace Go.Proofs.Ytokjdadgdfmffaa
open Go.RowKit
set_option maxHeartbeats 1000000
set_option maxRecDepth 100000
theorem Grow_nil (w : World) (n : Nat) (hn : n ≤ 10000000) : Calls Try.prog 78 #[.slice none 0 0, .int .i64 n] w fun e w' => ∃ v, e = .returned v ∧ w'.ownsRow w.heap.size 3 1 v 0 [] ∧ Below w.heap.size w w' := by
  obtain ⟨j0, ji, jz0, jz1, jz2⟩ := info_parts info3
  rcases Nat.eq_zero_or_pos n with rfl | h0
  · go_enter Try.func78, Try.ntmps78
    go_wp2
    go_ret
    exact ⟨_, rfl, ⟨rfl, .inl ⟨rfl, rfl⟩⟩, Below.refl _ _⟩
  · have hr := Lib.run_append_nil_zeros (P := Try.prog) w 22 3 22 3 j0 (.int .i64 0) .i64 .i64 Try.underlying22 Try.underlying3 ji jz0 n h0 (by rw [jz1]; omega) (by omega) (by rw [jz2]; omega)
    go_enter Try.func78, Try.ntmps78
    go_wp2_with (at_builtin; refine Lib.wpList_append_run _ rfl _ _ _ _ rfl _ _ rfl rfl _ _ hr ?_)
    have hc := grownCap_le_maxLen w n 0 3 (by unfold maxLen; omega)
    have hg := grownCap_ge w n 0 3
    go_ret
    refine ⟨_, rfl, ⟨rfl, .inr ⟨w.heap.size, grownCap w n 0 3, _, rfl, Nat.le_refl _, heap_alloc_new _ _, by omega, hc, ?_, by simp⟩⟩, ((Below.refl _ w).alloc (Nat.le_refl _) _).drew⟩
    rw [Array.size_append, size_zeroCells, size_zeroCells]
    simp
    omega
theorem news_ints {w : World} {b o : Nat} {xs : List Int} (h : IntsAt w (some ⟨b, o, none⟩) xs) : ∀ j u, (iv xs)[j]? = some u → w.cell? ((⟨b, o, none⟩ : Addr).add j) = some u := by
  intro j u hj
  have hlt : j < xs.length := by
    have := (List.getElem?_eq_some_iff.1 hj).1
    rw [iv_len] at this; exact this
  obtain ⟨b', o', e, -, hc⟩ := h (by omega)
  injection e with e
  injection e with e1 e2
  subst e1 e2
  rw [WideShapes.add_plain, hc j hlt]
  unfold iv at hj
  rw [List.getElem?_map, List.getElem?_eq_getElem hlt] at hj
  rw [geti_eq hlt]
  exact hj
theorem Concat2_any (g b1 o1 c1 b2 o2 c2 : Nat) (xs ys : List Int) (w : World) (hx : xs.length ≤ 1000000) (hy : ys.length ≤ 1000000) (hr : Row w g 22 [.slice (some ⟨b1, o1, none⟩) xs.length c1, .slice (some ⟨b2, o2, none⟩) ys.length c2])
    (h1 : IntsAt w (some ⟨b1, o1, none⟩) xs) (h2 : IntsAt w (some ⟨b2, o2, none⟩) ys) :
    Calls Try.prog 67 #[.slice (some ⟨g, 0, none⟩) 2 2] w fun e w' => ∃ v, e = .returned v ∧ w'.ownsRow w.heap.size 3 1 v (xs ++ ys).length (iv (xs ++ ys)) ∧ Below w.heap.size w w' := by
  obtain ⟨j0, ji, jz0, jz1, jz2⟩ := info_parts info3
  obtain ⟨⟨k0, k1⟩, -⟩ := hr.cells2
  go_enter Try.func67, Try.ntmps67
  go_wp2
  go_loopw [3, 11] (fun s i wr => ∃ k n : Nat, ((k = 0 ∧ n = 0) ∨ (k = 1 ∧ n = xs.length) ∨ (k = 2 ∧ n = xs.length + ys.length)) ∧ i = .int .i64 k ∧ s = .int .i64 n ∧ w = wr) (fun _ i _ => 2 - (intOf i).toNat)
  case atStart => exact ⟨0, 0, .inl ⟨rfl, rfl⟩, rfl, rfl, rfl⟩
  case round =>
    obtain ⟨k, n, hk, rfl, rfl, rfl⟩ := hrel
    rcases hk with ⟨rfl, rfl⟩ | ⟨rfl, rfl⟩ | ⟨rfl, rfl⟩
    · go_wp2
      go_roundw
      case rel => exact ⟨1, xs.length, .inr (.inl ⟨rfl, rfl⟩), by go_num, by go_num, trivial⟩
      case measure => simp [intOf]
    · go_wp2
      go_roundw
      case rel => exact ⟨2, xs.length + ys.length, .inr (.inr ⟨rfl, rfl⟩), by go_num, by go_num, trivial⟩
      case measure => simp [intOf]
    · go_wp2_with (go_at_call 78; refine (Grow_nil _ (xs.length + ys.length) (by omega)).mono ?_; rintro e w2 ⟨v2, rfl, o2, b2⟩)
      have hb2 := b2.size
      go_loopw [6, 27] (fun v i wr => ∃ (k : Nat) (zs : List Int), ((k = 0 ∧ zs = []) ∨ (k = 1 ∧ zs = xs) ∨ (k = 2 ∧ zs = xs ++ ys)) ∧ i = .int .i64 k ∧ wr.ownsRow w.heap.size 3 1 v zs.length (iv zs) ∧ Below w.heap.size w wr) (fun _ i _ => 2 - (intOf i).toNat)
      case atStart => exact ⟨0, [], .inl ⟨rfl, rfl⟩, rfl, o2, b2⟩
      case round =>
        clear o2 b2 hb2
        obtain ⟨k, zs, hk, rfl, o2, b2⟩ := hrel
        obtain ⟨A2, c2, e2, -, -, -⟩ := own_intsI o2
        subst e2
        have hb2 := b2.size
        replace hr := hr.below b2
        replace h1 := h1.below b2
        replace h2 := h2.below b2
        obtain ⟨⟨k0, k1⟩, -⟩ := hr.cells2
        rcases hk with ⟨rfl, rfl⟩ | ⟨rfl, rfl⟩ | ⟨rfl, rfl⟩
        · go_wp2_with (at_builtin; refine wpList_append_own_at _ rfl (.tmp 31) (.tmp 32) 22 rfl w.heap.size 3 j0 (.int .i64 0) 1 8 Try.underlying22 ji jz0 jz1 jz2 rfl (by decide) _ _ _ rfl o2 ⟨b1, o1, none⟩ xs.length c1 (iv xs) rfl (by simp [iv]) (news_ints h1) (iv_one _) (by unfold maxLen; simp; omega) (by simp; omega) hb2 ?_; intro v3 w3 o3 hg3 _ _)
          have b3 := (Below.refl w.heap.size _).grown hg3 hb2 (fun g hg => (own_ge o2 hg).1)
          have o4 : w3.ownsRow w.heap.size 3 1 v3 xs.length (iv xs) := by simpa [iv] using o3
          go_roundw
          case rel => exact ⟨1, xs, .inr (.inl ⟨rfl, rfl⟩), by go_num, o4, b2.trans b3⟩
          case measure => simp [intOf]
        · go_wp2_with (at_builtin; refine wpList_append_own_at _ rfl (.tmp 31) (.tmp 32) 22 rfl w.heap.size 3 j0 (.int .i64 0) 1 8 Try.underlying22 ji jz0 jz1 jz2 rfl (by decide) _ _ _ rfl o2 _ ys.length _ (iv ys) rfl (by simp [iv]) (news_ints h2) (iv_one _) (by unfold maxLen; omega) (by omega) hb2 ?_; intro v3 w3 o3 hg3 _ _)
          have b3 := (Below.refl w.heap.size _).grown hg3 hb2 (fun g hg => (own_ge o2 hg).1)
          have o4 : w3.ownsRow w.heap.size 3 1 v3 (zs ++ ys).length (iv (zs ++ ys)) := by simpa [iv] using o3
          go_roundw
          case rel => exact ⟨2, zs ++ ys, .inr (.inr ⟨rfl, rfl⟩), by go_num, o4, b2.trans b3⟩
          case measure => simp [intOf]
        · go_wp2
          go_ret
          exact ⟨_, rfl, o2, b2⟩
end Go.Proofs.Ytokjdadgdfmffaa
