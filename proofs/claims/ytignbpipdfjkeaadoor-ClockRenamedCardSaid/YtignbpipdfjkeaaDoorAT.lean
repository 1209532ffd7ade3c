/- The few simple results. -/
import Derived.Test.YtignbpipdfjkeaaDoorAS
namespace Go.Proofs.YtignbpipdfjkeaaDoor
open Go.RowKit
set_option maxHeartbeats 1000000
set_option maxRecDepth 100000
theorem intsAt_row {W : World} {g : Nat} {t : TypeId} {xs : List Int} (h : Row W g t (iv xs)) : IntsAt W (some ⟨g, 0, none⟩) xs := fun _ => ⟨g, 0, rfl, h.lt, fun i hi => by rw [Nat.zero_add]; exact ivR h hi⟩
theorem rows2 {W : World} {g a b c1 c2 : Nat} {xs ys : List Int} (h : Row W g 29 [.slice (some ⟨a, 0, none⟩) xs.length c1, .slice (some ⟨b, 0, none⟩) ys.length c2]) (h1 : Row W a 3 (iv xs)) (h2 : Row W b 3 (iv ys)) : RowsAt W (some ⟨g, 0, none⟩) [xs, ys] := fun _ =>
  ⟨g, 0, rfl, h.lt, fun i hi => match i, hi with
    | 0, _ => ⟨_, c1, by rw [Nat.zero_add]; exact h.cell 0, intsAt_row h1⟩
    | 1, _ => ⟨_, c2, by rw [Nat.zero_add]; exact h.cell 1, intsAt_row h2⟩⟩
theorem rows1 {W : World} {g a c1 : Nat} {xs : List Int} (h : Row W g 29 [.slice (some ⟨a, 0, none⟩) xs.length c1]) (h1 : Row W a 3 (iv xs)) : RowsAt W (some ⟨g, 0, none⟩) [xs] := fun _ =>
  ⟨g, 0, rfl, h.lt, fun i hi => match i, hi with
    | 0, _ => ⟨_, c1, by rw [Nat.zero_add]; exact h.cell 0, intsAt_row h1⟩⟩
theorem lit2 (w1 : World) (xs ys : List Int) : RowsAt (((w1.alloc (.cells (iv xs).toArray 3)).alloc (.cells (iv ys).toArray 3)).alloc (.cells #[.slice (some ⟨w1.heap.size, 0, none⟩) xs.length xs.length, .slice (some ⟨w1.heap.size + 1, 0, none⟩) ys.length ys.length] 29)) (some ⟨w1.heap.size + 1 + 1, 0, none⟩) [xs, ys] :=
  rows2 (c1 := xs.length) (c2 := ys.length) (row_new (by simp)) (((row_new rfl).alloc _).alloc _) ((row_new (by simp)).alloc _)
theorem lit1 (w1 : World) (xs : List Int) : RowsAt ((w1.alloc (.cells (iv xs).toArray 3)).alloc (.cells #[.slice (some ⟨w1.heap.size, 0, none⟩) xs.length xs.length] 29)) (some ⟨w1.heap.size + 1, 0, none⟩) [xs] :=
  rows1 (c1 := xs.length) (row_new (by simp)) ((row_new rfl).alloc _)
def awM : List (List Int) := [[1, 2, 0], [0, 1, 0]]
def awN : List (List Int) := [[1, 0]]
theorem awM_ok : IsMI awM := okM_iff.1 (by decide)
theorem awN_ok : IsMI awN := okM_iff.1 (by decide)
theorem awM_rs : rsX awM = some (1, [1, 0, 0, 1]) := by decide +kernel
theorem awN_ap : apX awN = [0, 1] := by decide +kernel
theorem awN_rk : rkX awN = (2, []) := by decide +kernel
theorem aw_word : wS [1, 0, 0, 1] = ⟨#[98, 97, 97, 98]⟩ := by decide +kernel
theorem awake_any (w : World) (ht : TabW w) : Calls Tryd.prog 22 #[] w fun e w' => e = .returned (.bool true) ∧ Below w.heap.size w w' := by
  have HSL : Hid (∀ V, Calls Tryd.prog 39 #[.int .i64 3] V (SlowR V 3)) := Lib.hid (fun V => Slow_yes 3 V (by omega) (by omega))
  have HRS : Hid (∀ (V : World) (g : Nat), Below w.heap.size w V → RowsAt V (some ⟨g, 0, none⟩) awM → Calls Tryd.prog 17 #[.slice (some ⟨g, 0, none⟩) 2 2] V fun e w' => e = .returned (.tuple #[.string ⟨#[98, 97, 97, 98]⟩, .int .i64 0, .int .i64 0]) ∧ Below V.heap.size V w') := Lib.hid (fun V g hV ha => by
    have h := Reset_yes (some ⟨g, 0, none⟩) 2 awM V awM_ok ha (ht.below hV ht.lt)
    rw [awM_rs] at h
    have e : tzS 1 = 0 := by decide
    refine h.mono (fun e w' ⟨he, hb⟩ => ⟨?_, hb⟩)
    rw [he]
    show Ending.returned (.tuple #[.string (wS [1, 0, 0, 1]), .int .i64 ((tzS 1 : Nat) : Int), .int .i64 0]) = _
    rw [aw_word]; rfl)
  have HAP : Hid (∀ (V : World) (g : Nat), Below w.heap.size w V → RowsAt V (some ⟨g, 0, none⟩) awN → Calls Tryd.prog 19 #[.slice (some ⟨g, 0, none⟩) 1 1] V (NewLE V [0, 1] 0)) := Lib.hid (fun V g hV ha => by
    have h := Apart_yes (some ⟨g, 0, none⟩) 1 awN V awN_ok ha (ht.below hV ht.lt)
    rwa [awN_ap] at h)
  have HRK : Hid (∀ (V : World) (g : Nat), Below w.heap.size w V → RowsAt V (some ⟨g, 0, none⟩) awN → Calls Tryd.prog 18 #[.slice (some ⟨g, 0, none⟩) 1 1] V fun e w' => e = .returned (.tuple #[.int .i64 2, .string ⟨#[]⟩, .int .i64 0]) ∧ Below V.heap.size V w') := Lib.hid (fun V g hV ha => by
    have h := Rank_yes (some ⟨g, 0, none⟩) 1 awN V awN_ok ha (ht.below hV ht.lt)
    rw [awN_rk] at h
    exact h)
  have HTB : Hid (∀ (V : World) (A B : Option Addr), RowsAt V A awM → RowsAt V B awM → Calls Tryd.prog 40 #[.slice A 2 2, .slice B 2 2] V fun e w' => e = .returned (.bool true) ∧ ∃ n, w' = V.drewN n) := Lib.hid (fun V A B h1 h2 => by
    have h := tables_any A B 2 2 awM awM V (by decide) (by decide) (by decide) h1 h2
    rwa [decide_eq_true rfl] at h)
  have HIN : Hid (∀ (V : World) (A B : Option Addr) (c d : Nat), IntsAt V A [0, 1] → IntsAt V B [0, 1] → Calls Tryd.prog 25 #[.slice A 2 c, .slice B 2 d] V fun e w' => e = .returned (.bool true) ∧ ∃ n, w' = V.drewN n) := Lib.hid (fun V A B c d h1 h2 => by
    have h := ints_any A B c d [0, 1] [0, 1] V (by decide) (by decide) h1 h2
    rwa [decide_eq_true rfl] at h)
  have b0 := Below.refl w.heap.size w
  clear ht
  go_enter Tryd.func22, Tryd.ntmps22
  go_wp2_with (go_at_call 39; refine (HSL.out _).mono ?_; rintro e w1 ⟨g1, a1, d1, rfl, s1, s2, s3, -, -, -, -, bb⟩; replace b0 := b0.trans (bb.mono b0.size))
  have R1 : RowsAt _ _ awM := lit2 w1 [1, 2, 0] [0, 1, 0]
  have b1 : Below w.heap.size w (((w1.alloc (.cells (iv [1, 2, 0]).toArray 3)).alloc (.cells (iv [0, 1, 0]).toArray 3)).alloc (.cells #[.slice (some ⟨w1.heap.size, 0, none⟩) 3 3, .slice (some ⟨w1.heap.size + 1, 0, none⟩) 3 3] 29)) := by have := b0.size; exact ((b0.alloc (by omega) _).alloc (by simp; omega) _).alloc (by simp; omega) _
  have s1' := ((s1.alloc (.cells (iv [1, 2, 0]).toArray 3)).alloc (.cells (iv [0, 1, 0]).toArray 3)).alloc (.cells #[.slice (some ⟨w1.heap.size, 0, none⟩) 3 3, .slice (some ⟨w1.heap.size + 1, 0, none⟩) 3 3] 29)
  have s2' := ((s2.alloc (.cells (iv [1, 2, 0]).toArray 3)).alloc (.cells (iv [0, 1, 0]).toArray 3)).alloc (.cells #[.slice (some ⟨w1.heap.size, 0, none⟩) 3 3, .slice (some ⟨w1.heap.size + 1, 0, none⟩) 3 3] 29)
  have s3' := ((s3.alloc (.cells (iv [1, 2, 0]).toArray 3)).alloc (.cells (iv [0, 1, 0]).toArray 3)).alloc (.cells #[.slice (some ⟨w1.heap.size, 0, none⟩) 3 3, .slice (some ⟨w1.heap.size + 1, 0, none⟩) 3 3] 29)
  refine (HRS.out _ _ b1 R1).mono ?_
  rintro e w2 ⟨rfl, b2⟩
  replace s1 := s1'.below b2
  replace s2 := s2'.below b2
  replace s3 := s3'.below b2
  replace b1 := b1.trans (b2.mono b1.size)
  clear s1' s2' s3' R1 b0 bb b2
  have R2 : RowsAt _ _ awN := lit1 w2 [1, 0]
  have b3 : Below w.heap.size w ((w2.alloc (.cells (iv [1, 0]).toArray 3)).alloc (.cells #[.slice (some ⟨w2.heap.size, 0, none⟩) 2 2] 29)) := by have := b1.size; exact (b1.alloc (by omega) _).alloc (by simp; omega) _
  have s1' := (s1.alloc (.cells (iv [1, 0]).toArray 3)).alloc (.cells #[.slice (some ⟨w2.heap.size, 0, none⟩) 2 2] 29)
  have s2' := (s2.alloc (.cells (iv [1, 0]).toArray 3)).alloc (.cells #[.slice (some ⟨w2.heap.size, 0, none⟩) 2 2] 29)
  have s3' := (s3.alloc (.cells (iv [1, 0]).toArray 3)).alloc (.cells #[.slice (some ⟨w2.heap.size, 0, none⟩) 2 2] 29)
  go_wp2_with (go_at_call 19; fail)
  refine (HAP.out _ _ b3 R2).mono ?_
  rintro e w3 ⟨v3, rfl, o3, b4⟩
  obtain ⟨A3, c3, rfl, -, hc3, i3⟩ := own_intsI o3
  replace s1 := s1'.below b4
  replace s2 := s2'.below b4
  replace s3 := s3'.below b4
  replace b3 := b3.trans (b4.mono b3.size)
  clear s1' s2' s3' R2 b1 b4
  replace i3 : IntsAt w3 A3 [0, 1] := i3
  clear o3 hc3
  have R3 : RowsAt _ _ awN := lit1 w3 [1, 0]
  have b5 : Below w.heap.size w ((w3.alloc (.cells (iv [1, 0]).toArray 3)).alloc (.cells #[.slice (some ⟨w3.heap.size, 0, none⟩) 2 2] 29)) := by have := b3.size; exact (b3.alloc (by omega) _).alloc (by simp; omega) _
  have s1' := (s1.alloc (.cells (iv [1, 0]).toArray 3)).alloc (.cells #[.slice (some ⟨w3.heap.size, 0, none⟩) 2 2] 29)
  have s2' := (s2.alloc (.cells (iv [1, 0]).toArray 3)).alloc (.cells #[.slice (some ⟨w3.heap.size, 0, none⟩) 2 2] 29)
  have s3' := (s3.alloc (.cells (iv [1, 0]).toArray 3)).alloc (.cells #[.slice (some ⟨w3.heap.size, 0, none⟩) 2 2] 29)
  have i3' := i3.below (((Below.refl _ w3).alloc (Nat.le_refl _) (.cells (iv [1, 0]).toArray 3)).alloc (by simp) (.cells #[.slice (some ⟨w3.heap.size, 0, none⟩) 2 2] 29))
  have e01 : [(0 : Int), 1].length = 2 := rfl
  rw [e01]
  clear e01
  go_wp2_with (go_at_call 18; fail)
  refine (HRK.out _ _ b5 R3).mono ?_
  rintro e w4 ⟨rfl, b6⟩
  replace s1 := s1'.below b6
  replace s2 := s2'.below b6
  replace s3 := s3'.below b6
  replace i3 := i3'.below b6
  replace b5 := b5.trans (b6.mono b5.size)
  clear s1' s2' s3' i3' R3 b3 b6
  have HT2 : Hid (∀ (W : World) (g : Nat), Below w4.heap.size w4 W → RowsAt W (some ⟨g, 0, none⟩) awM → Calls Tryd.prog 40 #[.slice (some ⟨g1, 0, none⟩) 2 2, .slice (some ⟨g, 0, none⟩) 2 2] W fun e w' => e = .returned (.bool true) ∧ ∃ n, w' = W.drewN n) := Lib.hid (fun W g hW h => HTB.out W _ _ (rows2 (c1 := 3) (c2 := 3) (s1.below hW) (show Row W a1 3 (iv [1, 2, 0]) from s2.below hW) (show Row W d1 3 (iv [0, 1, 0]) from s3.below hW)) h)
  have HI2 : Hid (∀ (W : World) (g d : Nat), Below w4.heap.size w4 W → Row W g 3 (iv [0, 1]) → Calls Tryd.prog 25 #[.slice A3 2 c3, .slice (some ⟨g, 0, none⟩) 2 d] W fun e w' => e = .returned (.bool true) ∧ ∃ n, w' = W.drewN n) := Lib.hid (fun W g d hW h => HIN.out W _ _ _ _ (i3.below hW) (intsAt_row h))
  clear s1 s2 s3 i3
  go_wp2_with (go_at_call 40; fail)
  have R4 : RowsAt _ _ awM := lit2 w4 [1, 2, 0] [0, 1, 0]
  have b7 : Below w4.heap.size w4 (((w4.alloc (.cells (iv [1, 2, 0]).toArray 3)).alloc (.cells (iv [0, 1, 0]).toArray 3)).alloc (.cells #[.slice (some ⟨w4.heap.size, 0, none⟩) 3 3, .slice (some ⟨w4.heap.size + 1, 0, none⟩) 3 3] 29)) := (((Below.refl _ w4).alloc (Nat.le_refl _) _).alloc (by simp) _).alloc (by simp; omega) _
  refine (HT2.out _ _ b7 R4).mono ?_
  rintro e w5 ⟨rfl, n5, rfl⟩
  clear R4
  replace b7 := b7.trans (below_drewN n5)
  have b8 : Below w.heap.size w _ := b5.trans (b7.mono b5.size)
  have hw4 := b7.size
  generalize World.drewN _ n5 = w5 at *
  go_wp2_with (go_at_call 25; fail)
  have b9 : Below w4.heap.size w4 (w5.alloc (.cells (iv [0, 1]).toArray 3)) := b7.alloc hw4 _
  refine (HI2.out _ _ _ b9 (row_new rfl)).mono ?_
  rintro e w6 ⟨rfl, n6, rfl⟩
  have b10 : Below w.heap.size w ((w5.alloc (.cells (iv [0, 1]).toArray 3)).drewN n6) := (b8.alloc b8.size _).trans (below_drewN _)
  clear b9
  generalize World.drewN _ n6 = w6 at *
  go_wp2
  go_ret
  exact ⟨rfl, b10⟩
end Go.Proofs.YtignbpipdfjkeaaDoor
