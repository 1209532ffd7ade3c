/- The program is awake. -/
import Derived.Test.YtopeppnajbnfgaaFR
namespace Go.Proofs.Ytopeppnajbnfgaa
open Go.RowKit
set_option maxHeartbeats 1000000
set_option maxRecDepth 100000
abbrev S1 : ByteArray := ⟨#[97, 97, 98, 98]⟩
abbrev S2 : ByteArray := ⟨#[97, 98, 97, 98]⟩
theorem ce1 : (chV S1 && evV S1) = true := by kernel_rfl
theorem ce2 : (chV S2 && evV S2) = true := by kernel_rfl
theorem few1 : fewV S1 1 1 = some [1, 3] := by kernel_rfl
theorem few2 : fewV S2 1 1 = some [2] := by kernel_rfl
theorem few3 : fewV S1 0 2 = some [1, 3] := by kernel_rfl
theorem shares1 : sharesV S1 [1, 3] = .tuple #[.string ⟨#[97, 98]⟩, .string ⟨#[97, 98]⟩, .int .i64 0] := by kernel_rfl
theorem cut_known {s : ByteArray} {f step : Nat} {x : List Int} (h : fewV s f step = some x) {w : World} {e : Ending} {w' : World} (k : CutRes s f step w e w') : ∃ A c, e = .returned (.tuple #[.slice A x.length c, .int .i64 0]) ∧ IntsAt w' A x ∧ Below w.heap.size w w' := by
  obtain ⟨v, rfl, b, hv⟩ := k
  rcases hv with ⟨y, h1, h2⟩ | ⟨h1, -⟩
  · rw [h] at h1
    injection h1 with h1
    subst h1
    obtain ⟨A, c, rfl, -, -, hi⟩ := own_intsI h2
    exact ⟨A, c, rfl, hi, b⟩
  · rw [h] at h1; cases h1
theorem awake_any (w : World) : Calls Try.prog 20 #[] w fun e w' => e = .returned (.bool true) ∧ Below w.heap.size w w' := by
  have H1 : Hid (∀ w, Calls Try.prog 16 #[.string ⟨#[97, 97, 98, 98]⟩] w fun e w' => ∃ A c, e = .returned (.tuple #[.slice A 2 c, .int .i64 0]) ∧ IntsAt w' A [1, 3] ∧ Below w.heap.size w w') := Lib.hid fun w => (Least_any S1 w ce1).mono fun e w' h => cut_known few1 h
  have H2 : Hid (∀ w, Calls Try.prog 16 #[.string ⟨#[97, 98, 97, 98]⟩] w fun e w' => ∃ A c, e = .returned (.tuple #[.slice A 1 c, .int .i64 0]) ∧ IntsAt w' A [2] ∧ Below w.heap.size w w') := Lib.hid fun w => (Least_any S2 w ce2).mono fun e w' h => cut_known few2 h
  have H3 : Hid (∀ w, Calls Try.prog 33 #[.string ⟨#[97, 97, 98, 98]⟩] w fun e w' => ∃ A c, e = .returned (.tuple #[.slice A 2 c, .int .i64 0]) ∧ IntsAt w' A [1, 3] ∧ Below w.heap.size w w') := Lib.hid fun w => (Ring_any S1 w ce1).mono fun e w' h => cut_known few3 h
  have H4 : Hid (∀ (g : Nat) (w : World), Row w g 3 (iv [1, 3]) → Calls Try.prog 27 #[.string ⟨#[97, 97, 98, 98]⟩, .slice (some ⟨g, 0, none⟩) 2 2] w fun e w' => e = .returned (.tuple #[.string ⟨#[97, 98]⟩, .string ⟨#[97, 98]⟩, .int .i64 0]) ∧ Below w.heap.size w w') :=
    Lib.hid fun g w hr => (Shares_any S1 (some ⟨g, 0, none⟩) 2 [1, 3] w (by simp) (by simp) (.inl ⟨_, _, rfl⟩) (iv_ints hr)).mono fun e w' h => ⟨by rw [h.1, shares1], h.2⟩
  have H5 : Hid (∀ (A B : Option Addr) (c d : Nat) (w : World), IntsAt w A [1, 3] → IntsAt w B [1, 3] → Calls Try.prog 24 #[.slice A 2 c, .slice B 2 d] w fun e w' => e = .returned (.bool true) ∧ ∃ n, w' = w.drewN n) := Lib.hid fun A B c d w h1 h2 => ints_yes A B c d [1, 3] 2 w rfl (by omega) h1 h2
  have H6 : Hid (∀ (A B : Option Addr) (c d : Nat) (w : World), IntsAt w A [2] → IntsAt w B [2] → Calls Try.prog 24 #[.slice A 1 c, .slice B 1 d] w fun e w' => e = .returned (.bool true) ∧ ∃ n, w' = w.drewN n) := Lib.hid fun A B c d w h1 h2 => ints_yes A B c d [2] 1 w rfl (by omega) h1 h2
  go_enter Try.func20, Try.ntmps20
  go_wp2_with (go_at_call 16; fail)
  refine (H1.out _).mono ?_
  rintro e w1 ⟨A1, c1, rfl, i1, b1⟩
  go_wp2_with (go_at_call 16; fail)
  refine (H2.out _).mono ?_
  rintro e w2 ⟨A2, c2, rfl, i2, b2⟩
  replace i1 := i1.below b2
  replace b1 := b1.trans (b2.mono b1.size)
  go_wp2_with (go_at_call 33; fail)
  refine (H3.out _).mono ?_
  rintro e w3 ⟨A3, c3, rfl, i3, b3⟩
  replace i1 := i1.below b3
  replace i2 := i2.below b3
  replace b1 := b1.trans (b3.mono b1.size)
  go_wp2_with (go_at_call 27; fail)
  refine (H4.out _ _ (row_new rfl)).mono ?_
  rintro e w4 ⟨rfl, b4⟩
  replace i1 := (i1.alloc _).below b4
  replace i2 := (i2.alloc _).below b4
  replace i3 := (i3.alloc _).below b4
  replace b1 := (b1.alloc b1.size _).trans (b4.mono (by have := b1.size; simp; omega))
  go_wp2_with (go_at_call 24; fail)
  have rw4 : Row (w4.alloc (.cells #[.int .i64 1, .int .i64 3] 3)) w4.heap.size 3 (iv [1, 3]) := row_new rfl
  have kw4 := H5.out A1 (some ⟨w4.heap.size, 0, none⟩) c1 2 (w4.alloc (.cells #[.int .i64 1, .int .i64 3] 3)) (i1.alloc _) (iv_ints rw4)
  refine kw4.mono ?_
  rintro e w5 ⟨rfl, n5, rfl⟩
  replace i2 := (i2.alloc (.cells #[.int .i64 1, .int .i64 3] 3)).drewN n5
  replace i3 := (i3.alloc (.cells #[.int .i64 1, .int .i64 3] 3)).drewN n5
  replace b1 := (b1.alloc b1.size (.cells #[.int .i64 1, .int .i64 3] 3)).trans (below_drewN n5)
  clear rw4 kw4
  generalize World.drewN _ n5 = w6 at *
  go_wp2_with (go_at_call 24; fail)
  have rw6 : Row (w6.alloc (.cells #[.int .i64 2] 3)) w6.heap.size 3 (iv [2]) := row_new rfl
  have kw6 := H6.out A2 (some ⟨w6.heap.size, 0, none⟩) c2 1 (w6.alloc (.cells #[.int .i64 2] 3)) (i2.alloc _) (iv_ints rw6)
  refine kw6.mono ?_
  rintro e w7 ⟨rfl, n7, rfl⟩
  replace i3 := (i3.alloc (.cells #[.int .i64 2] 3)).drewN n7
  replace b1 := (b1.alloc b1.size (.cells #[.int .i64 2] 3)).trans (below_drewN n7)
  clear rw6 kw6
  generalize World.drewN _ n7 = w8 at *
  go_wp2_with (go_at_call 24; fail)
  have rw8 : Row (w8.alloc (.cells #[.int .i64 1, .int .i64 3] 3)) w8.heap.size 3 (iv [1, 3]) := row_new rfl
  have kw8 := H5.out A3 (some ⟨w8.heap.size, 0, none⟩) c3 2 (w8.alloc (.cells #[.int .i64 1, .int .i64 3] 3)) (i3.alloc _) (iv_ints rw8)
  refine kw8.mono ?_
  rintro e w9 ⟨rfl, n9, rfl⟩
  go_wp2
  go_ret
  exact ⟨rfl, (b1.alloc b1.size _).trans (below_drewN n9)⟩
end Go.Proofs.Ytopeppnajbnfgaa
