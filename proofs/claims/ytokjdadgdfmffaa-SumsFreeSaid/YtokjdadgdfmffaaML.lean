/- SumsParts walked. -/
import Derived.Test.YtokjdadgdfmffaaMJ
import Derived.Test.YtokjdadgdfmffaaMK
import Derived.Test.YtokjdadgdfmffaaKM
namespace Go.Proofs.Ytokjdadgdfmffaa
open Go.RowKit
set_option maxHeartbeats 4000000
set_option maxRecDepth 100000
def LRes (V : World) (l : List Int) (k : Int) (e : Ending) (w' : World) : Prop := ∃ A c, e = .returned (.tuple #[.slice A l.length c, .int .i64 k]) ∧ IntsAt w' A l ∧ Below V.heap.size V w'
def FRes (V : World) (l : List Int) (e : Ending) (w' : World) : Prop := ∃ A c, e = .returned (.tuple #[.slice A l.length c, .bool true]) ∧ IntsAt w' A l ∧ Below V.heap.size V w'
def FNon (V : World) (e : Ending) (w' : World) : Prop := e = .returned (.tuple #[.slice none 0 0, .bool false]) ∧ Below V.heap.size V w'
def ZRes (V : World) (n : Nat) (l : List Int) (e : Ending) (w' : World) : Prop := ∃ A c, e = .returned (.slice A n c) ∧ IntsAt w' A l ∧ Below V.heap.size V w'
theorem someR_l {V : World} {l : List Int} {e : Ending} {w' : World} (h : SomeR V l e w') : LRes V l 0 e w' := by
  obtain ⟨b, o, c, h1, h2, h3⟩ := h
  exact ⟨_, _, h1, h2, h3⟩
theorem noneR_l {V : World} {k : Int} {e : Ending} {w' : World} (h : NoneR V k e w') : LRes V [] k e w' := ⟨none, 0, h.1, fun hp => absurd hp (by simp), h.2⟩
theorem firR_some {best : Nat} {G : List Int} {w : World} {e : Ending} {w' : World} (h : FirR best G w e w') (hb : best < farN) : FRes w G e w' := by
  obtain ⟨v, h1, h2, h3⟩ := h.2 hb
  obtain ⟨A, c, rfl, -, -, hI⟩ := own_intsI h2
  exact ⟨A, c, h1, hI, h3⟩
theorem firR_none {best : Nat} {G : List Int} {w : World} {e : Ending} {w' : World} (h : FirR best G w e w') (hb : farN ≤ best) : FNon w e w' := h.1 hb
theorem RefZero_any (A : Option Addr) (c n : Nat) (w : World) (hn : n ≤ 1000) : Calls Try.prog 22 #[.slice A n c] w (ZRes w n (List.replicate n 0)) := by
  have hm := make_intI n (by omega) w
  have r0 : Row (w.alloc (.cells (iv (List.replicate n 0)).toArray 3)) w.heap.size 3 (iv (List.replicate n 0)) := row_new rfl
  have b0 : Below w.heap.size w (w.alloc (.cells (iv (List.replicate n 0)).toArray 3)) := (Below.refl _ w).alloc (Nat.le_refl _) _
  have hI := row_intsL r0
  go_enter Try.func22, Try.ntmps22
  go_wp2
  go_ret
  exact ⟨_, _, rfl, hI, b0⟩
theorem rlE_getD (m : Nat) (L : List (List Int)) {i : Nat} (hi : i < L.length) : (rlE m L).getD i (0, 0) = (elA m (getl L i), elB m (getl L i)) := by
  have hl : (rlE m L).length = L.length := by unfold rlE; rw [List.length_map]
  rw [List.getD_eq_getElem?_getD, List.getElem?_eq_getElem (by omega), rlE_at m L hi (by omega)]; rfl
theorem RefFirst_any (A B C : Option Addr) (cg cl cx m n ls : Nat) (g xs : List Int) (L : List (List Int)) (w : World) (hg : IsG g m n) (_hl2 : ∀ i, i < L.length → (getl L i).length ≤ 1000000) (ha : IntsAt w A g) (hb : RowsAt w B L) (hC : IntsAt w C xs) (hv : rlV m n L = true) (he : elV m n xs = true) (hls : ls ≤ 1) (best : Nat)
    (hbest : (ls = 0 → best = szN m n (rlE m L) (cdN n (elA m xs) (elB m xs))) ∧ (ls = 1 → best = nzN m n (rlE m L) (cdN n (elA m xs) (elB m xs)))) :
    Calls Try.prog 21 #[.slice A g.length cg, .slice B L.length cl, .slice C xs.length cx, .int .i64 ls] w (FirR best (gdN m n 0 (rlE m L) (cdN n (elA m xs) (elB m xs)) best) w) := by
  have hvv : L.length ≤ 60 ∧ ∀ i, i < L.length → elV m n (getl L i) = true := of_decide_eq_true hv
  have hm1 : 1 ≤ m := hg.1.1
  have hn1 : 1 ≤ n := hg.1.2.2.1
  have hel := cdN_ok (m := m) (elV_el hg.1 he)
  refine RefFirst_walk A B C cg cl cx (m * n) m n (cdN n (elA m xs) (elB m xs)) ls L.length xs.length g.length (rlE m L) best _ w hm1 hn1 hg.2.2.2.1 (Nat.mul_pos hm1 hn1) hel.1 (by unfold rlE; rw [List.length_map]) hvv.1 hls (Lib.hid hbest) (Lib.hid rfl)
    (Lib.hid (fun q i _ => (lsN_ok hm1 hn1 q _).1)) (Lib.hid (fun V hV => RefSize_any A cg m n g V hg (ha.below hV))) (Lib.hid (fun V hV => RefCode_any A C cg cx m n g xs V hg he (ha.below hV) (hC.below hV))) (Lib.hid (fun i hi => ?_))
  obtain ⟨b, o, hBe, hbb, hc⟩ := hb (by omega)
  obtain ⟨Bx, cx2, e1, hi2⟩ := hc i hi
  refine ⟨b, o, Bx, (getl L i).length, cx2, hBe, fun V hV => (hV.cell (p := ⟨b, o + i, none⟩) hbb).trans e1, fun V q hV hq => ?_⟩
  rw [rlE_getD m L hi]
  exact RefLess_any A Bx cg cx2 m n q g (getl L i) V hg hq (hvv.2 i hi) (ha.below hV) (hi2.below hV)
theorem sp_nogroup (A0 A1 A2 : Option Addr) (n0 n1 n2 c0 c1 c2 : Nat) (G X : List Int) (T : List (List Int)) (w : World)
    (H1 : Hid (∀ V, Below w.heap.size w V → Calls Try.prog 14 #[.slice A0 n0 c0] V (Copied 3 1 (iv G) V)))
    (H2 : Hid (∀ V, Below w.heap.size w V → Calls Try.prog 15 #[.slice A1 n1 c1] V fun e w' => ∃ A' c', e = .returned (.slice A' T.length c') ∧ RowsAt w' A' T ∧ Below V.heap.size V w'))
    (H3 : Hid (∀ V, Below w.heap.size w V → Calls Try.prog 14 #[.slice A2 n2 c2] V (Copied 3 1 (iv X) V)))
    (H4 : Hid (∀ V A c B d, IntsAt V A G → RowsAt V B T → Calls Try.prog 16 #[.slice A G.length c, .slice B T.length d] V (LRes V [] 2)))
    (H5 : Hid (∀ V A c B d C s, IntsAt V A G → RowsAt V B T → IntsAt V C X → Calls Try.prog 17 #[.slice A G.length c, .slice B T.length d, .slice C X.length s] V (LRes V [] 2)))
    (H6 : Hid (∀ V A c, IntsAt V A G → Calls Try.prog 18 #[.slice A G.length c] V fun e w' => e = .returned (.bool false) ∧ Below V.heap.size V w')) :
    Calls Try.prog 3 #[.slice A0 n0 c0, .slice A1 n1 c1, .slice A2 n2 c2] w fun e w' => e = .returned (.bool true) ∧ Below w.heap.size w w' := by
  have HAW := Lib.hid awake_any
  have b0 := Below.refl w.heap.size w
  go_enter Try.func3, Try.ntmps3
  go_wp2_with (go_at_call 14; fail)
  refine (H1.out _ b0).mono ?_
  rintro e w1 ⟨v1, m1, rfl, o1, b1⟩
  obtain ⟨Ag, cg, rfl, hn1, -, ig⟩ := own_intsI o1
  subst hn1
  replace ig := Lib.hid ig
  replace b0 := b0.trans (b1.mono b0.size)
  clear b1 o1 H1
  go_wp2_with (go_at_call 15; fail)
  refine (H2.out _ b0).mono ?_
  rintro e w2 ⟨At, ct, rfl, rt, b2⟩
  replace ig := Lib.hid (ig.out.below b2)
  replace rt := Lib.hid rt
  replace b0 := b0.trans (b2.mono b0.size)
  clear b2 H2
  go_wp2_with (go_at_call 14; fail)
  refine (H3.out _ b0).mono ?_
  rintro e w3 ⟨v3, m3, rfl, o3, b3⟩
  obtain ⟨Ax, cx, rfl, hn3, -, ix⟩ := own_intsI o3
  subst hn3
  replace ig := Lib.hid (ig.out.below b3)
  replace rt := Lib.hid (rt.out.below b3)
  replace ix := Lib.hid ix
  replace b0 := b0.trans (b3.mono b0.size)
  clear b3 o3 H3
  go_wp2_with (go_at_call 16; fail)
  refine (H4.out _ _ _ _ _ ig.out rt.out).mono ?_
  rintro e w4 ⟨Aa, ca, rfl, ia, b4⟩
  replace ig := Lib.hid (ig.out.below b4)
  replace rt := Lib.hid (rt.out.below b4)
  replace ix := Lib.hid (ix.out.below b4)
  replace ia := Lib.hid ia
  replace b0 := b0.trans (b4.mono b0.size)
  clear b4 H4
  go_wp2_with (go_at_call 17; fail)
  refine (H5.out _ _ _ _ _ _ _ ig.out rt.out ix.out).mono ?_
  rintro e w5 ⟨Ab, cb, rfl, ib, b5⟩
  replace ig := Lib.hid (ig.out.below b5)
  replace rt := Lib.hid (rt.out.below b5)
  replace ix := Lib.hid (ix.out.below b5)
  replace ia := Lib.hid (ia.out.below b5)
  replace ib := Lib.hid ib
  replace b0 := b0.trans (b5.mono b0.size)
  clear b5 H5
  go_wp2_with (go_at_call 18; fail)
  refine (H6.out _ _ _ ig.out).mono ?_
  rintro e w6 ⟨rfl, b6⟩
  replace ig := Lib.hid (ig.out.below b6)
  replace rt := Lib.hid (rt.out.below b6)
  replace ix := Lib.hid (ix.out.below b6)
  replace ia := Lib.hid (ia.out.below b6)
  replace ib := Lib.hid (ib.out.below b6)
  replace b0 := b0.trans (b6.mono b0.size)
  clear b6 H6
  go_wp2_with (go_at_call 20; fail)
  refine (HAW.out _).mono ?_
  rintro e w20 ⟨rfl, b20⟩
  clear ig
  clear rt
  clear ix
  clear ia
  clear ib
  replace b0 := b0.trans (b20.mono b0.size)
  clear b20 HAW
  go_wp2
  go_ret
  exact ⟨rfl, b0⟩
theorem sp_nolist (A0 A1 A2 : Option Addr) (n0 n1 n2 c0 c1 c2 : Nat) (G X : List Int) (T : List (List Int)) (w : World)
    (H1 : Hid (∀ V, Below w.heap.size w V → Calls Try.prog 14 #[.slice A0 n0 c0] V (Copied 3 1 (iv G) V)))
    (H2 : Hid (∀ V, Below w.heap.size w V → Calls Try.prog 15 #[.slice A1 n1 c1] V fun e w' => ∃ A' c', e = .returned (.slice A' T.length c') ∧ RowsAt w' A' T ∧ Below V.heap.size V w'))
    (H3 : Hid (∀ V, Below w.heap.size w V → Calls Try.prog 14 #[.slice A2 n2 c2] V (Copied 3 1 (iv X) V)))
    (H4 : Hid (∀ V A c B d, IntsAt V A G → RowsAt V B T → Calls Try.prog 16 #[.slice A G.length c, .slice B T.length d] V (LRes V [] 2)))
    (H5 : Hid (∀ V A c B d C s, IntsAt V A G → RowsAt V B T → IntsAt V C X → Calls Try.prog 17 #[.slice A G.length c, .slice B T.length d, .slice C X.length s] V (LRes V [] 2)))
    (H6 : Hid (∀ V A c, IntsAt V A G → Calls Try.prog 18 #[.slice A G.length c] V fun e w' => e = .returned (.bool true) ∧ Below V.heap.size V w'))
    (H7 : Hid (∀ V A c B d, IntsAt V A G → RowsAt V B T → Calls Try.prog 19 #[.slice A G.length c, .slice B T.length d] V fun e w' => e = .returned (.bool false) ∧ Below V.heap.size V w')) :
    Calls Try.prog 3 #[.slice A0 n0 c0, .slice A1 n1 c1, .slice A2 n2 c2] w fun e w' => e = .returned (.bool true) ∧ Below w.heap.size w w' := by
  have HAW := Lib.hid awake_any
  have b0 := Below.refl w.heap.size w
  go_enter Try.func3, Try.ntmps3
  go_wp2_with (go_at_call 14; fail)
  refine (H1.out _ b0).mono ?_
  rintro e w1 ⟨v1, m1, rfl, o1, b1⟩
  obtain ⟨Ag, cg, rfl, hn1, -, ig⟩ := own_intsI o1
  subst hn1
  replace ig := Lib.hid ig
  replace b0 := b0.trans (b1.mono b0.size)
  clear b1 o1 H1
  go_wp2_with (go_at_call 15; fail)
  refine (H2.out _ b0).mono ?_
  rintro e w2 ⟨At, ct, rfl, rt, b2⟩
  replace ig := Lib.hid (ig.out.below b2)
  replace rt := Lib.hid rt
  replace b0 := b0.trans (b2.mono b0.size)
  clear b2 H2
  go_wp2_with (go_at_call 14; fail)
  refine (H3.out _ b0).mono ?_
  rintro e w3 ⟨v3, m3, rfl, o3, b3⟩
  obtain ⟨Ax, cx, rfl, hn3, -, ix⟩ := own_intsI o3
  subst hn3
  replace ig := Lib.hid (ig.out.below b3)
  replace rt := Lib.hid (rt.out.below b3)
  replace ix := Lib.hid ix
  replace b0 := b0.trans (b3.mono b0.size)
  clear b3 o3 H3
  go_wp2_with (go_at_call 16; fail)
  refine (H4.out _ _ _ _ _ ig.out rt.out).mono ?_
  rintro e w4 ⟨Aa, ca, rfl, ia, b4⟩
  replace ig := Lib.hid (ig.out.below b4)
  replace rt := Lib.hid (rt.out.below b4)
  replace ix := Lib.hid (ix.out.below b4)
  replace ia := Lib.hid ia
  replace b0 := b0.trans (b4.mono b0.size)
  clear b4 H4
  go_wp2_with (go_at_call 17; fail)
  refine (H5.out _ _ _ _ _ _ _ ig.out rt.out ix.out).mono ?_
  rintro e w5 ⟨Ab, cb, rfl, ib, b5⟩
  replace ig := Lib.hid (ig.out.below b5)
  replace rt := Lib.hid (rt.out.below b5)
  replace ix := Lib.hid (ix.out.below b5)
  replace ia := Lib.hid (ia.out.below b5)
  replace ib := Lib.hid ib
  replace b0 := b0.trans (b5.mono b0.size)
  clear b5 H5
  go_wp2_with (go_at_call 18; fail)
  refine (H6.out _ _ _ ig.out).mono ?_
  rintro e w6 ⟨rfl, b6⟩
  replace ig := Lib.hid (ig.out.below b6)
  replace rt := Lib.hid (rt.out.below b6)
  replace ix := Lib.hid (ix.out.below b6)
  replace ia := Lib.hid (ia.out.below b6)
  replace ib := Lib.hid (ib.out.below b6)
  replace b0 := b0.trans (b6.mono b0.size)
  clear b6 H6
  go_wp2_with (go_at_call 19; fail)
  refine (H7.out _ _ _ _ _ ig.out rt.out).mono ?_
  rintro e w7 ⟨rfl, b7⟩
  replace ig := Lib.hid (ig.out.below b7)
  replace rt := Lib.hid (rt.out.below b7)
  replace ix := Lib.hid (ix.out.below b7)
  replace ia := Lib.hid (ia.out.below b7)
  replace ib := Lib.hid (ib.out.below b7)
  replace b0 := b0.trans (b7.mono b0.size)
  clear b7 H7
  go_wp2_with (go_at_call 20; fail)
  refine (HAW.out _).mono ?_
  rintro e w20 ⟨rfl, b20⟩
  clear ig
  clear rt
  clear ix
  clear ia
  clear ib
  replace b0 := b0.trans (b20.mono b0.size)
  clear b20 HAW
  go_wp2
  go_ret
  exact ⟨rfl, b0⟩
end Go.Proofs.Ytokjdadgdfmffaa
