/- SumsParts walked where no part has the sum zero. -/
import Derived.Test.YtokjdadgdfmffaaML
namespace Go.Proofs.Ytokjdadgdfmffaa
open Go.RowKit
set_option maxHeartbeats 4000000
set_option maxRecDepth 100000
theorem sp_none_noel (A0 A1 A2 : Option Addr) (n0 n1 n2 c0 c1 c2 : Nat) (G X Z : List Int) (T : List (List Int)) (w : World)
    (H1 : Hid (∀ V, Below w.heap.size w V → Calls Try.prog 14 #[.slice A0 n0 c0] V (Copied 3 1 (iv G) V)))
    (H2 : Hid (∀ V, Below w.heap.size w V → Calls Try.prog 15 #[.slice A1 n1 c1] V fun e w' => ∃ A' c', e = .returned (.slice A' T.length c') ∧ RowsAt w' A' T ∧ Below V.heap.size V w'))
    (H3 : Hid (∀ V, Below w.heap.size w V → Calls Try.prog 14 #[.slice A2 n2 c2] V (Copied 3 1 (iv X) V)))
    (H4 : Hid (∀ V A c B d, IntsAt V A G → RowsAt V B T → Calls Try.prog 16 #[.slice A G.length c, .slice B T.length d] V (LRes V [] 6)))
    (H5 : Hid (∀ V A c B d C s, IntsAt V A G → RowsAt V B T → IntsAt V C X → Calls Try.prog 17 #[.slice A G.length c, .slice B T.length d, .slice C X.length s] V (LRes V [] 2)))
    (H6 : Hid (∀ V A c, IntsAt V A G → Calls Try.prog 18 #[.slice A G.length c] V fun e w' => e = .returned (.bool true) ∧ Below V.heap.size V w'))
    (H7 : Hid (∀ V A c B d, IntsAt V A G → RowsAt V B T → Calls Try.prog 19 #[.slice A G.length c, .slice B T.length d] V fun e w' => e = .returned (.bool true) ∧ Below V.heap.size V w'))
    (H8 : Hid (∀ V A c, Calls Try.prog 22 #[.slice A G.length c] V (ZRes V G.length Z)))
    (H9 : Hid (∀ V A c B d C s, IntsAt V A G → RowsAt V B T → IntsAt V C Z → Calls Try.prog 21 #[.slice A G.length c, .slice B T.length d, .slice C G.length s, .int .i64 1] V (FNon V)))
    (H10 : Hid (∀ V A c C s, IntsAt V A G → IntsAt V C X → Calls Try.prog 24 #[.slice A G.length c, .slice C X.length s] V fun e w' => e = .returned (.bool false) ∧ Below V.heap.size V w')) :
    Calls Try.prog 3 #[.slice A0 n0 c0, .slice A1 n1 c1, .slice A2 n2 c2] w fun e w' => e = .returned (.bool true) ∧ Below w.heap.size w w' := by
  have HAW := Lib.hid awake_any
  have b0 := Below.refl w.heap.size w
  go_enter Try.func3, Try.ntmps3
  go_wp2_with (go_at_call 14; fail)
  refine (H1.out _ b0).mono ?_
  rintro e w1 ⟨v1, m1, rfl, o1, b1⟩
  obtain ⟨Ag, cg, rfl, hn1, -, ig⟩ := own_intsI o1
  subst hn1
  replace ig := Lib.hid ig
  replace b0 := b0.trans (b1.mono b0.size)
  clear b1 o1 H1
  go_wp2_with (go_at_call 15; fail)
  refine (H2.out _ b0).mono ?_
  rintro e w2 ⟨At, ct, rfl, rt, b2⟩
  replace ig := Lib.hid (ig.out.below b2)
  replace rt := Lib.hid rt
  replace b0 := b0.trans (b2.mono b0.size)
  clear b2 H2
  go_wp2_with (go_at_call 14; fail)
  refine (H3.out _ b0).mono ?_
  rintro e w3 ⟨v3, m3, rfl, o3, b3⟩
  obtain ⟨Ax, cx, rfl, hn3, -, ix⟩ := own_intsI o3
  subst hn3
  replace ig := Lib.hid (ig.out.below b3)
  replace rt := Lib.hid (rt.out.below b3)
  replace ix := Lib.hid ix
  replace b0 := b0.trans (b3.mono b0.size)
  clear b3 o3 H3
  go_wp2_with (go_at_call 16; fail)
  refine (H4.out _ _ _ _ _ ig.out rt.out).mono ?_
  rintro e w4 ⟨Aa, ca, rfl, ia, b4⟩
  replace ig := Lib.hid (ig.out.below b4)
  replace rt := Lib.hid (rt.out.below b4)
  replace ix := Lib.hid (ix.out.below b4)
  replace ia := Lib.hid ia
  replace b0 := b0.trans (b4.mono b0.size)
  clear b4 H4
  go_wp2_with (go_at_call 17; fail)
  refine (H5.out _ _ _ _ _ _ _ ig.out rt.out ix.out).mono ?_
  rintro e w5 ⟨Ab, cb, rfl, ib, b5⟩
  replace ig := Lib.hid (ig.out.below b5)
  replace rt := Lib.hid (rt.out.below b5)
  replace ix := Lib.hid (ix.out.below b5)
  replace ia := Lib.hid (ia.out.below b5)
  replace ib := Lib.hid ib
  replace b0 := b0.trans (b5.mono b0.size)
  clear b5 H5
  go_wp2_with (go_at_call 18; fail)
  refine (H6.out _ _ _ ig.out).mono ?_
  rintro e w6 ⟨rfl, b6⟩
  replace ig := Lib.hid (ig.out.below b6)
  replace rt := Lib.hid (rt.out.below b6)
  replace ix := Lib.hid (ix.out.below b6)
  replace ia := Lib.hid (ia.out.below b6)
  replace ib := Lib.hid (ib.out.below b6)
  replace b0 := b0.trans (b6.mono b0.size)
  clear b6 H6
  go_wp2_with (go_at_call 19; fail)
  refine (H7.out _ _ _ _ _ ig.out rt.out).mono ?_
  rintro e w7 ⟨rfl, b7⟩
  replace ig := Lib.hid (ig.out.below b7)
  replace rt := Lib.hid (rt.out.below b7)
  replace ix := Lib.hid (ix.out.below b7)
  replace ia := Lib.hid (ia.out.below b7)
  replace ib := Lib.hid (ib.out.below b7)
  replace b0 := b0.trans (b7.mono b0.size)
  clear b7 H7
  go_wp2_with (go_at_call 22; fail)
  refine (H8.out _ _ _).mono ?_
  rintro e w8 ⟨Az, cz, rfl, iz, b8⟩
  replace ig := Lib.hid (ig.out.below b8)
  replace rt := Lib.hid (rt.out.below b8)
  replace ix := Lib.hid (ix.out.below b8)
  replace ia := Lib.hid (ia.out.below b8)
  replace ib := Lib.hid (ib.out.below b8)
  replace iz := Lib.hid iz
  replace b0 := b0.trans (b8.mono b0.size)
  clear b8 H8
  go_wp2_with (go_at_call 21; fail)
  refine (H9.out _ _ _ _ _ _ _ ig.out rt.out iz.out).mono ?_
  rintro e w9 ⟨rfl, b9⟩
  clear iz
  replace ig := Lib.hid (ig.out.below b9)
  replace rt := Lib.hid (rt.out.below b9)
  replace ix := Lib.hid (ix.out.below b9)
  replace ia := Lib.hid (ia.out.below b9)
  replace ib := Lib.hid (ib.out.below b9)
  replace b0 := b0.trans (b9.mono b0.size)
  clear b9 H9
  go_wp2_with (go_at_call 24; fail)
  refine (H10.out _ _ _ _ _ ig.out ix.out).mono ?_
  rintro e w11 ⟨rfl, b11⟩
  replace ig := Lib.hid (ig.out.below b11)
  replace rt := Lib.hid (rt.out.below b11)
  replace ix := Lib.hid (ix.out.below b11)
  replace ia := Lib.hid (ia.out.below b11)
  replace ib := Lib.hid (ib.out.below b11)
  replace b0 := b0.trans (b11.mono b0.size)
  clear b11 H10
  go_wp2_with (go_at_call 20; fail)
  refine (HAW.out _).mono ?_
  rintro e w20 ⟨rfl, b20⟩
  clear ig
  clear rt
  clear ix
  clear ia
  clear ib
  replace b0 := b0.trans (b20.mono b0.size)
  clear b20 HAW
  go_wp2
  go_ret
  exact ⟨rfl, b0⟩
theorem sp_none_none (A0 A1 A2 : Option Addr) (n0 n1 n2 c0 c1 c2 : Nat) (G X Z : List Int) (T : List (List Int)) (w : World)
    (H1 : Hid (∀ V, Below w.heap.size w V → Calls Try.prog 14 #[.slice A0 n0 c0] V (Copied 3 1 (iv G) V)))
    (H2 : Hid (∀ V, Below w.heap.size w V → Calls Try.prog 15 #[.slice A1 n1 c1] V fun e w' => ∃ A' c', e = .returned (.slice A' T.length c') ∧ RowsAt w' A' T ∧ Below V.heap.size V w'))
    (H3 : Hid (∀ V, Below w.heap.size w V → Calls Try.prog 14 #[.slice A2 n2 c2] V (Copied 3 1 (iv X) V)))
    (H4 : Hid (∀ V A c B d, IntsAt V A G → RowsAt V B T → Calls Try.prog 16 #[.slice A G.length c, .slice B T.length d] V (LRes V [] 6)))
    (H5 : Hid (∀ V A c B d C s, IntsAt V A G → RowsAt V B T → IntsAt V C X → Calls Try.prog 17 #[.slice A G.length c, .slice B T.length d, .slice C X.length s] V (LRes V [] 6)))
    (H6 : Hid (∀ V A c, IntsAt V A G → Calls Try.prog 18 #[.slice A G.length c] V fun e w' => e = .returned (.bool true) ∧ Below V.heap.size V w'))
    (H7 : Hid (∀ V A c B d, IntsAt V A G → RowsAt V B T → Calls Try.prog 19 #[.slice A G.length c, .slice B T.length d] V fun e w' => e = .returned (.bool true) ∧ Below V.heap.size V w'))
    (H8 : Hid (∀ V A c, Calls Try.prog 22 #[.slice A G.length c] V (ZRes V G.length Z)))
    (H9 : Hid (∀ V A c B d C s, IntsAt V A G → RowsAt V B T → IntsAt V C Z → Calls Try.prog 21 #[.slice A G.length c, .slice B T.length d, .slice C G.length s, .int .i64 1] V (FNon V)))
    (H10 : Hid (∀ V A c C s, IntsAt V A G → IntsAt V C X → Calls Try.prog 24 #[.slice A G.length c, .slice C X.length s] V fun e w' => e = .returned (.bool true) ∧ Below V.heap.size V w'))
    (H11 : Hid (∀ V A c B d C s, IntsAt V A G → RowsAt V B T → IntsAt V C X → Calls Try.prog 21 #[.slice A G.length c, .slice B T.length d, .slice C X.length s, .int .i64 0] V (FNon V))) :
    Calls Try.prog 3 #[.slice A0 n0 c0, .slice A1 n1 c1, .slice A2 n2 c2] w fun e w' => e = .returned (.bool true) ∧ Below w.heap.size w w' := by
  have HAW := Lib.hid awake_any
  have b0 := Below.refl w.heap.size w
  go_enter Try.func3, Try.ntmps3
  go_wp2_with (go_at_call 14; fail)
  refine (H1.out _ b0).mono ?_
  rintro e w1 ⟨v1, m1, rfl, o1, b1⟩
  obtain ⟨Ag, cg, rfl, hn1, -, ig⟩ := own_intsI o1
  subst hn1
  replace ig := Lib.hid ig
  replace b0 := b0.trans (b1.mono b0.size)
  clear b1 o1 H1
  go_wp2_with (go_at_call 15; fail)
  refine (H2.out _ b0).mono ?_
  rintro e w2 ⟨At, ct, rfl, rt, b2⟩
  replace ig := Lib.hid (ig.out.below b2)
  replace rt := Lib.hid rt
  replace b0 := b0.trans (b2.mono b0.size)
  clear b2 H2
  go_wp2_with (go_at_call 14; fail)
  refine (H3.out _ b0).mono ?_
  rintro e w3 ⟨v3, m3, rfl, o3, b3⟩
  obtain ⟨Ax, cx, rfl, hn3, -, ix⟩ := own_intsI o3
  subst hn3
  replace ig := Lib.hid (ig.out.below b3)
  replace rt := Lib.hid (rt.out.below b3)
  replace ix := Lib.hid ix
  replace b0 := b0.trans (b3.mono b0.size)
  clear b3 o3 H3
  go_wp2_with (go_at_call 16; fail)
  refine (H4.out _ _ _ _ _ ig.out rt.out).mono ?_
  rintro e w4 ⟨Aa, ca, rfl, ia, b4⟩
  replace ig := Lib.hid (ig.out.below b4)
  replace rt := Lib.hid (rt.out.below b4)
  replace ix := Lib.hid (ix.out.below b4)
  replace ia := Lib.hid ia
  replace b0 := b0.trans (b4.mono b0.size)
  clear b4 H4
  go_wp2_with (go_at_call 17; fail)
  refine (H5.out _ _ _ _ _ _ _ ig.out rt.out ix.out).mono ?_
  rintro e w5 ⟨Ab, cb, rfl, ib, b5⟩
  replace ig := Lib.hid (ig.out.below b5)
  replace rt := Lib.hid (rt.out.below b5)
  replace ix := Lib.hid (ix.out.below b5)
  replace ia := Lib.hid (ia.out.below b5)
  replace ib := Lib.hid ib
  replace b0 := b0.trans (b5.mono b0.size)
  clear b5 H5
  go_wp2_with (go_at_call 18; fail)
  refine (H6.out _ _ _ ig.out).mono ?_
  rintro e w6 ⟨rfl, b6⟩
  replace ig := Lib.hid (ig.out.below b6)
  replace rt := Lib.hid (rt.out.below b6)
  replace ix := Lib.hid (ix.out.below b6)
  replace ia := Lib.hid (ia.out.below b6)
  replace ib := Lib.hid (ib.out.below b6)
  replace b0 := b0.trans (b6.mono b0.size)
  clear b6 H6
  go_wp2_with (go_at_call 19; fail)
  refine (H7.out _ _ _ _ _ ig.out rt.out).mono ?_
  rintro e w7 ⟨rfl, b7⟩
  replace ig := Lib.hid (ig.out.below b7)
  replace rt := Lib.hid (rt.out.below b7)
  replace ix := Lib.hid (ix.out.below b7)
  replace ia := Lib.hid (ia.out.below b7)
  replace ib := Lib.hid (ib.out.below b7)
  replace b0 := b0.trans (b7.mono b0.size)
  clear b7 H7
  go_wp2_with (go_at_call 22; fail)
  refine (H8.out _ _ _).mono ?_
  rintro e w8 ⟨Az, cz, rfl, iz, b8⟩
  replace ig := Lib.hid (ig.out.below b8)
  replace rt := Lib.hid (rt.out.below b8)
  replace ix := Lib.hid (ix.out.below b8)
  replace ia := Lib.hid (ia.out.below b8)
  replace ib := Lib.hid (ib.out.below b8)
  replace iz := Lib.hid iz
  replace b0 := b0.trans (b8.mono b0.size)
  clear b8 H8
  go_wp2_with (go_at_call 21; fail)
  refine (H9.out _ _ _ _ _ _ _ ig.out rt.out iz.out).mono ?_
  rintro e w9 ⟨rfl, b9⟩
  clear iz
  replace ig := Lib.hid (ig.out.below b9)
  replace rt := Lib.hid (rt.out.below b9)
  replace ix := Lib.hid (ix.out.below b9)
  replace ia := Lib.hid (ia.out.below b9)
  replace ib := Lib.hid (ib.out.below b9)
  replace b0 := b0.trans (b9.mono b0.size)
  clear b9 H9
  go_wp2_with (go_at_call 24; fail)
  refine (H10.out _ _ _ _ _ ig.out ix.out).mono ?_
  rintro e w11 ⟨rfl, b11⟩
  replace ig := Lib.hid (ig.out.below b11)
  replace rt := Lib.hid (rt.out.below b11)
  replace ix := Lib.hid (ix.out.below b11)
  replace ia := Lib.hid (ia.out.below b11)
  replace ib := Lib.hid (ib.out.below b11)
  replace b0 := b0.trans (b11.mono b0.size)
  clear b11 H10
  go_wp2_with (go_at_call 21; fail)
  refine (H11.out _ _ _ _ _ _ _ ig.out rt.out ix.out).mono ?_
  rintro e w12 ⟨rfl, b12⟩
  clear ix
  replace ig := Lib.hid (ig.out.below b12)
  replace rt := Lib.hid (rt.out.below b12)
  replace ia := Lib.hid (ia.out.below b12)
  replace ib := Lib.hid (ib.out.below b12)
  replace b0 := b0.trans (b12.mono b0.size)
  clear b12 H11
  go_wp2_with (go_at_call 20; fail)
  refine (HAW.out _).mono ?_
  rintro e w20 ⟨rfl, b20⟩
  clear ig
  clear rt
  clear ia
  clear ib
  replace b0 := b0.trans (b20.mono b0.size)
  clear b20 HAW
  go_wp2
  go_ret
  exact ⟨rfl, b0⟩
theorem sp_none_some (A0 A1 A2 : Option Addr) (n0 n1 n2 c0 c1 c2 : Nat) (G X Z p : List Int) (T : List (List Int)) (w : World)
    (H1 : Hid (∀ V, Below w.heap.size w V → Calls Try.prog 14 #[.slice A0 n0 c0] V (Copied 3 1 (iv G) V)))
    (H2 : Hid (∀ V, Below w.heap.size w V → Calls Try.prog 15 #[.slice A1 n1 c1] V fun e w' => ∃ A' c', e = .returned (.slice A' T.length c') ∧ RowsAt w' A' T ∧ Below V.heap.size V w'))
    (H3 : Hid (∀ V, Below w.heap.size w V → Calls Try.prog 14 #[.slice A2 n2 c2] V (Copied 3 1 (iv X) V)))
    (H4 : Hid (∀ V A c B d, IntsAt V A G → RowsAt V B T → Calls Try.prog 16 #[.slice A G.length c, .slice B T.length d] V (LRes V [] 6)))
    (H5 : Hid (∀ V A c B d C s, IntsAt V A G → RowsAt V B T → IntsAt V C X → Calls Try.prog 17 #[.slice A G.length c, .slice B T.length d, .slice C X.length s] V (LRes V p 0)))
    (H6 : Hid (∀ V A c, IntsAt V A G → Calls Try.prog 18 #[.slice A G.length c] V fun e w' => e = .returned (.bool true) ∧ Below V.heap.size V w'))
    (H7 : Hid (∀ V A c B d, IntsAt V A G → RowsAt V B T → Calls Try.prog 19 #[.slice A G.length c, .slice B T.length d] V fun e w' => e = .returned (.bool true) ∧ Below V.heap.size V w'))
    (H8 : Hid (∀ V A c, Calls Try.prog 22 #[.slice A G.length c] V (ZRes V G.length Z)))
    (H9 : Hid (∀ V A c B d C s, IntsAt V A G → RowsAt V B T → IntsAt V C Z → Calls Try.prog 21 #[.slice A G.length c, .slice B T.length d, .slice C G.length s, .int .i64 1] V (FNon V)))
    (H10 : Hid (∀ V A c C s, IntsAt V A G → IntsAt V C X → Calls Try.prog 24 #[.slice A G.length c, .slice C X.length s] V fun e w' => e = .returned (.bool true) ∧ Below V.heap.size V w'))
    (H11 : Hid (∀ V A c B d C s, IntsAt V A G → RowsAt V B T → IntsAt V C X → Calls Try.prog 21 #[.slice A G.length c, .slice B T.length d, .slice C X.length s, .int .i64 0] V (FRes V p)))
    (HI2 : Hid (∀ V A B c d, IntsAt V A p → IntsAt V B p → Calls Try.prog 23 #[.slice A p.length c, .slice B p.length d] V fun e w' => e = .returned (.bool true) ∧ Below V.heap.size V w')) :
    Calls Try.prog 3 #[.slice A0 n0 c0, .slice A1 n1 c1, .slice A2 n2 c2] w fun e w' => e = .returned (.bool true) ∧ Below w.heap.size w w' := by
  have HAW := Lib.hid awake_any
  have b0 := Below.refl w.heap.size w
  go_enter Try.func3, Try.ntmps3
  go_wp2_with (go_at_call 14; fail)
  refine (H1.out _ b0).mono ?_
  rintro e w1 ⟨v1, m1, rfl, o1, b1⟩
  obtain ⟨Ag, cg, rfl, hn1, -, ig⟩ := own_intsI o1
  subst hn1
  replace ig := Lib.hid ig
  replace b0 := b0.trans (b1.mono b0.size)
  clear b1 o1 H1
  go_wp2_with (go_at_call 15; fail)
  refine (H2.out _ b0).mono ?_
  rintro e w2 ⟨At, ct, rfl, rt, b2⟩
  replace ig := Lib.hid (ig.out.below b2)
  replace rt := Lib.hid rt
  replace b0 := b0.trans (b2.mono b0.size)
  clear b2 H2
  go_wp2_with (go_at_call 14; fail)
  refine (H3.out _ b0).mono ?_
  rintro e w3 ⟨v3, m3, rfl, o3, b3⟩
  obtain ⟨Ax, cx, rfl, hn3, -, ix⟩ := own_intsI o3
  subst hn3
  replace ig := Lib.hid (ig.out.below b3)
  replace rt := Lib.hid (rt.out.below b3)
  replace ix := Lib.hid ix
  replace b0 := b0.trans (b3.mono b0.size)
  clear b3 o3 H3
  go_wp2_with (go_at_call 16; fail)
  refine (H4.out _ _ _ _ _ ig.out rt.out).mono ?_
  rintro e w4 ⟨Aa, ca, rfl, ia, b4⟩
  replace ig := Lib.hid (ig.out.below b4)
  replace rt := Lib.hid (rt.out.below b4)
  replace ix := Lib.hid (ix.out.below b4)
  replace ia := Lib.hid ia
  replace b0 := b0.trans (b4.mono b0.size)
  clear b4 H4
  go_wp2_with (go_at_call 17; fail)
  refine (H5.out _ _ _ _ _ _ _ ig.out rt.out ix.out).mono ?_
  rintro e w5 ⟨Ab, cb, rfl, ib, b5⟩
  replace ig := Lib.hid (ig.out.below b5)
  replace rt := Lib.hid (rt.out.below b5)
  replace ix := Lib.hid (ix.out.below b5)
  replace ia := Lib.hid (ia.out.below b5)
  replace ib := Lib.hid ib
  replace b0 := b0.trans (b5.mono b0.size)
  clear b5 H5
  go_wp2_with (go_at_call 18; fail)
  refine (H6.out _ _ _ ig.out).mono ?_
  rintro e w6 ⟨rfl, b6⟩
  replace ig := Lib.hid (ig.out.below b6)
  replace rt := Lib.hid (rt.out.below b6)
  replace ix := Lib.hid (ix.out.below b6)
  replace ia := Lib.hid (ia.out.below b6)
  replace ib := Lib.hid (ib.out.below b6)
  replace b0 := b0.trans (b6.mono b0.size)
  clear b6 H6
  go_wp2_with (go_at_call 19; fail)
  refine (H7.out _ _ _ _ _ ig.out rt.out).mono ?_
  rintro e w7 ⟨rfl, b7⟩
  replace ig := Lib.hid (ig.out.below b7)
  replace rt := Lib.hid (rt.out.below b7)
  replace ix := Lib.hid (ix.out.below b7)
  replace ia := Lib.hid (ia.out.below b7)
  replace ib := Lib.hid (ib.out.below b7)
  replace b0 := b0.trans (b7.mono b0.size)
  clear b7 H7
  go_wp2_with (go_at_call 22; fail)
  refine (H8.out _ _ _).mono ?_
  rintro e w8 ⟨Az, cz, rfl, iz, b8⟩
  replace ig := Lib.hid (ig.out.below b8)
  replace rt := Lib.hid (rt.out.below b8)
  replace ix := Lib.hid (ix.out.below b8)
  replace ia := Lib.hid (ia.out.below b8)
  replace ib := Lib.hid (ib.out.below b8)
  replace iz := Lib.hid iz
  replace b0 := b0.trans (b8.mono b0.size)
  clear b8 H8
  go_wp2_with (go_at_call 21; fail)
  refine (H9.out _ _ _ _ _ _ _ ig.out rt.out iz.out).mono ?_
  rintro e w9 ⟨rfl, b9⟩
  clear iz
  replace ig := Lib.hid (ig.out.below b9)
  replace rt := Lib.hid (rt.out.below b9)
  replace ix := Lib.hid (ix.out.below b9)
  replace ia := Lib.hid (ia.out.below b9)
  replace ib := Lib.hid (ib.out.below b9)
  replace b0 := b0.trans (b9.mono b0.size)
  clear b9 H9
  go_wp2_with (go_at_call 24; fail)
  refine (H10.out _ _ _ _ _ ig.out ix.out).mono ?_
  rintro e w11 ⟨rfl, b11⟩
  replace ig := Lib.hid (ig.out.below b11)
  replace rt := Lib.hid (rt.out.below b11)
  replace ix := Lib.hid (ix.out.below b11)
  replace ia := Lib.hid (ia.out.below b11)
  replace ib := Lib.hid (ib.out.below b11)
  replace b0 := b0.trans (b11.mono b0.size)
  clear b11 H10
  go_wp2_with (go_at_call 21; fail)
  refine (H11.out _ _ _ _ _ _ _ ig.out rt.out ix.out).mono ?_
  rintro e w12 ⟨Ap, cp, rfl, ip, b12⟩
  clear ix
  replace ig := Lib.hid (ig.out.below b12)
  replace rt := Lib.hid (rt.out.below b12)
  replace ia := Lib.hid (ia.out.below b12)
  replace ib := Lib.hid (ib.out.below b12)
  replace ip := Lib.hid ip
  replace b0 := b0.trans (b12.mono b0.size)
  clear b12 H11
  go_wp2_with (go_at_call 23; fail)
  refine (HI2.out _ _ _ _ _ ib.out ip.out).mono ?_
  rintro e w13 ⟨rfl, b13⟩
  clear ib
  clear ip
  clear ig
  clear rt
  replace ia := Lib.hid (ia.out.below b13)
  replace b0 := b0.trans (b13.mono b0.size)
  clear b13 HI2
  go_wp2_with (go_at_call 20; fail)
  refine (HAW.out _).mono ?_
  rintro e w20 ⟨rfl, b20⟩
  clear ia
  replace b0 := b0.trans (b20.mono b0.size)
  clear b20 HAW
  go_wp2
  go_ret
  exact ⟨rfl, b0⟩
end Go.Proofs.Ytokjdadgdfmffaa
