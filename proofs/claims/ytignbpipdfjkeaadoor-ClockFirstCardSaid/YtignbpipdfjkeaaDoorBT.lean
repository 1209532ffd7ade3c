/- ClockLeads walked. -/
import Derived.Test.YtignbpipdfjkeaaDoorBS
namespace Go.Proofs.YtignbpipdfjkeaaDoor
open Go.RowKit Go.PlainAid
set_option maxHeartbeats 2000000
set_option maxRecDepth 100000
def LstN (w : World) (l : List Int) (n : Nat) (e : Ending) (w' : World) : Prop := ∃ A c, e = .returned (.slice A n c) ∧ IntsAt w' A l ∧ Below w.heap.size w w'
theorem setL_zero {n : Nat} {l : List Int} (h : okS n l = true) : setL l = 0 ↔ l.length = 0 := by
  constructor
  · intro e
    rcases Nat.eq_zero_or_pos l.length with h0 | h0
    · exact h0
    · exact absurd e ((setP_lt (n := n) (l := l) l.length (fun i hi => okS_at h hi)).2.2.2 h0)
  · intro e
    unfold setL
    rw [e]; rfl
theorem cl_no (A B C : Option Addr) (c d d2 n k1 k2 nl ml : Nat) (w : World) (M : List (List Int)) (l m : List Int)
    (HT : Hid (∀ V, Below w.heap.size w V → Calls Tryd.prog 16 #[.slice A n c] V (TabM V M)))
    (HL1 : Hid (∀ V, Below w.heap.size w V → Calls Tryd.prog 31 #[.slice B k1 d] V (LstN V l nl)))
    (HL2 : Hid (∀ V, Below w.heap.size w V → Calls Tryd.prog 31 #[.slice C k2 d2] V (LstN V m ml)))
    (HAW : Hid (∀ V, Below w.heap.size w V → Calls Tryd.prog 22 #[] V fun e w' => e = .returned (.bool true) ∧ Below V.heap.size V w'))
    (HRM : Hid (∀ V A c, RowsAt V A M → Calls Tryd.prog 21 #[.slice A M.length c] V fun e w' => e = .returned (.bool false) ∧ V = w'))
    (HI : Hid (∀ V A B C c d d2, Below w.heap.size w V → RowsAt V A M → IntsAt V B l → IntsAt V C m → Calls Tryd.prog 37 #[.slice A M.length c, .slice B nl d, .slice C ml d2] V fun e w' => e = .returned (.tuple #[.string ⟨#[]⟩, .int .i64 2]) ∧ Below V.heap.size V w')) :
    Calls Tryd.prog 6 #[.slice A n c, .slice B k1 d, .slice C k2 d2] w fun e w' => e = .returned (.bool true) ∧ Below w.heap.size w w' := by
  have b0 := Below.refl w.heap.size w
  go_enter Tryd.func6, Tryd.ntmps6
  go_wp2_with (first
    | (go_at_call 16; refine (HT.out _ b0).mono ?_; rintro e w1 ⟨A1, c1, rfl, ra, b1⟩; replace b0 := b0.trans (b1.mono b0.size))
    | (go_at_call 31; first | ((with_reducible refine (HL1.out _ b0).mono ?_); rintro e w2 ⟨A2, c2, rfl, ia, b2⟩; replace b0 := b0.trans (b2.mono b0.size); replace ra := ra.below b2) | ((with_reducible refine (HL2.out _ b0).mono ?_); rintro e w3 ⟨A3, c3, rfl, ib, b3⟩; replace b0 := b0.trans (b3.mono b0.size); replace ra := ra.below b3; replace ia := ia.below b3))
    | (go_at_call 37; refine (HI.out _ _ _ _ _ _ _ b0 ra ia ib).mono ?_; rintro e w4 ⟨rfl, b4⟩; replace b0 := b0.trans (b4.mono b0.size); replace ra := ra.below b4; replace ia := ia.below b4; replace ib := ib.below b4)
    | (go_at_call 21; refine (HRM.out _ _ _ ra).mono ?_; rintro e w5 ⟨rfl, rfl⟩)
    | (go_at_call 22; refine (HAW.out _ b0).mono ?_; rintro e w10 ⟨rfl, b10⟩; replace b0 := b0.trans (b10.mono b0.size)))
  go_ret
  exact ⟨rfl, b0⟩
theorem cl_s1 (A B C : Option Addr) (c d d2 n k1 k2 nl ml : Nat) (w : World) (M : List (List Int)) (l m : List Int)
    (HT : Hid (∀ V, Below w.heap.size w V → Calls Tryd.prog 16 #[.slice A n c] V (TabM V M)))
    (HL1 : Hid (∀ V, Below w.heap.size w V → Calls Tryd.prog 31 #[.slice B k1 d] V (LstN V l nl)))
    (HL2 : Hid (∀ V, Below w.heap.size w V → Calls Tryd.prog 31 #[.slice C k2 d2] V (LstN V m ml)))
    (HAW : Hid (∀ V, Below w.heap.size w V → Calls Tryd.prog 22 #[] V fun e w' => e = .returned (.bool true) ∧ Below V.heap.size V w'))
    (HRM : Hid (∀ V A c, RowsAt V A M → Calls Tryd.prog 21 #[.slice A M.length c] V fun e w' => e = .returned (.bool true) ∧ V = w'))
    (HI : Hid (∀ V A B C c d d2, Below w.heap.size w V → RowsAt V A M → IntsAt V B l → IntsAt V C m → Calls Tryd.prog 37 #[.slice A M.length c, .slice B nl d, .slice C ml d2] V fun e w' => e = .returned (.tuple #[.string ⟨#[]⟩, .int .i64 2]) ∧ Below V.heap.size V w'))
    (HE1 : Hid (∀ V A B c d, RowsAt V A M → IntsAt V B l → Calls Tryd.prog 33 #[.slice A M.length c, .slice B nl d] V fun e w' => e = .returned (.bool false) ∧ ∃ n, w' = V.drewN n)) :
    Calls Tryd.prog 6 #[.slice A n c, .slice B k1 d, .slice C k2 d2] w fun e w' => e = .returned (.bool true) ∧ Below w.heap.size w w' := by
  have b0 := Below.refl w.heap.size w
  go_enter Tryd.func6, Tryd.ntmps6
  go_wp2_with (first
    | (go_at_call 16; refine (HT.out _ b0).mono ?_; rintro e w1 ⟨A1, c1, rfl, ra, b1⟩; replace b0 := b0.trans (b1.mono b0.size))
    | (go_at_call 31; first | ((with_reducible refine (HL1.out _ b0).mono ?_); rintro e w2 ⟨A2, c2, rfl, ia, b2⟩; replace b0 := b0.trans (b2.mono b0.size); replace ra := ra.below b2) | ((with_reducible refine (HL2.out _ b0).mono ?_); rintro e w3 ⟨A3, c3, rfl, ib, b3⟩; replace b0 := b0.trans (b3.mono b0.size); replace ra := ra.below b3; replace ia := ia.below b3))
    | (go_at_call 37; refine (HI.out _ _ _ _ _ _ _ b0 ra ia ib).mono ?_; rintro e w4 ⟨rfl, b4⟩; replace b0 := b0.trans (b4.mono b0.size); replace ra := ra.below b4; replace ia := ia.below b4; replace ib := ib.below b4)
    | (go_at_call 21; refine (HRM.out _ _ _ ra).mono ?_; rintro e w5 ⟨rfl, rfl⟩)
    | (go_at_call 33; refine (HE1.out _ _ _ _ _ ra ia).mono ?_; rintro e w6 ⟨rfl, n6, rfl⟩; replace b0 := b0.trans (below_drewN n6); replace ra := ra.below (below_drewN n6); replace ia := ia.below (below_drewN n6); replace ib := ib.below (below_drewN n6); generalize World.drewN _ n6 = Vn6 at *)
    | (go_at_call 22; refine (HAW.out _ b0).mono ?_; rintro e w10 ⟨rfl, b10⟩; replace b0 := b0.trans (b10.mono b0.size)))
  go_ret
  exact ⟨rfl, b0⟩
theorem cl_s2 (A B C : Option Addr) (c d d2 n k1 k2 nl ml : Nat) (w : World) (M : List (List Int)) (l m : List Int)
    (HT : Hid (∀ V, Below w.heap.size w V → Calls Tryd.prog 16 #[.slice A n c] V (TabM V M)))
    (HL1 : Hid (∀ V, Below w.heap.size w V → Calls Tryd.prog 31 #[.slice B k1 d] V (LstN V l nl)))
    (HL2 : Hid (∀ V, Below w.heap.size w V → Calls Tryd.prog 31 #[.slice C k2 d2] V (LstN V m ml)))
    (HAW : Hid (∀ V, Below w.heap.size w V → Calls Tryd.prog 22 #[] V fun e w' => e = .returned (.bool true) ∧ Below V.heap.size V w'))
    (HRM : Hid (∀ V A c, RowsAt V A M → Calls Tryd.prog 21 #[.slice A M.length c] V fun e w' => e = .returned (.bool true) ∧ V = w'))
    (HI : Hid (∀ V A B C c d d2, Below w.heap.size w V → RowsAt V A M → IntsAt V B l → IntsAt V C m → Calls Tryd.prog 37 #[.slice A M.length c, .slice B nl d, .slice C ml d2] V fun e w' => e = .returned (.tuple #[.string ⟨#[]⟩, .int .i64 2]) ∧ Below V.heap.size V w'))
    (HE1 : Hid (∀ V A B c d, RowsAt V A M → IntsAt V B l → Calls Tryd.prog 33 #[.slice A M.length c, .slice B nl d] V fun e w' => e = .returned (.bool true) ∧ ∃ n, w' = V.drewN n))
    (HE2 : Hid (∀ V A B c d, RowsAt V A M → IntsAt V B m → Calls Tryd.prog 33 #[.slice A M.length c, .slice B ml d] V fun e w' => e = .returned (.bool false) ∧ ∃ n, w' = V.drewN n)) :
    Calls Tryd.prog 6 #[.slice A n c, .slice B k1 d, .slice C k2 d2] w fun e w' => e = .returned (.bool true) ∧ Below w.heap.size w w' := by
  have b0 := Below.refl w.heap.size w
  go_enter Tryd.func6, Tryd.ntmps6
  go_wp2_with (first
    | (go_at_call 16; refine (HT.out _ b0).mono ?_; rintro e w1 ⟨A1, c1, rfl, ra, b1⟩; replace b0 := b0.trans (b1.mono b0.size))
    | (go_at_call 31; first | ((with_reducible refine (HL1.out _ b0).mono ?_); rintro e w2 ⟨A2, c2, rfl, ia, b2⟩; replace b0 := b0.trans (b2.mono b0.size); replace ra := ra.below b2) | ((with_reducible refine (HL2.out _ b0).mono ?_); rintro e w3 ⟨A3, c3, rfl, ib, b3⟩; replace b0 := b0.trans (b3.mono b0.size); replace ra := ra.below b3; replace ia := ia.below b3))
    | (go_at_call 37; refine (HI.out _ _ _ _ _ _ _ b0 ra ia ib).mono ?_; rintro e w4 ⟨rfl, b4⟩; replace b0 := b0.trans (b4.mono b0.size); replace ra := ra.below b4; replace ia := ia.below b4; replace ib := ib.below b4)
    | (go_at_call 21; refine (HRM.out _ _ _ ra).mono ?_; rintro e w5 ⟨rfl, rfl⟩)
    | (go_at_call 33; first | ((with_reducible refine (HE1.out _ _ _ _ _ ra ia).mono ?_); rintro e w6 ⟨rfl, n6, rfl⟩; replace b0 := b0.trans (below_drewN n6); replace ra := ra.below (below_drewN n6); replace ia := ia.below (below_drewN n6); replace ib := ib.below (below_drewN n6); generalize World.drewN _ n6 = Vn6 at *) | ((with_reducible refine (HE2.out _ _ _ _ _ ra ib).mono ?_); rintro e w7 ⟨rfl, n7, rfl⟩; replace b0 := b0.trans (below_drewN n7); replace ra := ra.below (below_drewN n7); replace ia := ia.below (below_drewN n7); replace ib := ib.below (below_drewN n7); generalize World.drewN _ n7 = Vn7 at *))
    | (go_at_call 22; refine (HAW.out _ b0).mono ?_; rintro e w10 ⟨rfl, b10⟩; replace b0 := b0.trans (b10.mono b0.size)))
  go_ret
  exact ⟨rfl, b0⟩
theorem cl_l1 (A B C : Option Addr) (c d d2 n k1 k2 nl ml : Nat) (w : World) (M : List (List Int)) (l m : List Int)
    (HT : Hid (∀ V, Below w.heap.size w V → Calls Tryd.prog 16 #[.slice A n c] V (TabM V M)))
    (HL1 : Hid (∀ V, Below w.heap.size w V → Calls Tryd.prog 31 #[.slice B k1 d] V (LstN V l nl)))
    (HL2 : Hid (∀ V, Below w.heap.size w V → Calls Tryd.prog 31 #[.slice C k2 d2] V (LstN V m ml)))
    (HAW : Hid (∀ V, Below w.heap.size w V → Calls Tryd.prog 22 #[] V fun e w' => e = .returned (.bool true) ∧ Below V.heap.size V w'))
    (HRM : Hid (∀ V A c, RowsAt V A M → Calls Tryd.prog 21 #[.slice A M.length c] V fun e w' => e = .returned (.bool true) ∧ V = w'))
    (HI : Hid (∀ V A B C c d d2, Below w.heap.size w V → RowsAt V A M → IntsAt V B l → IntsAt V C m → Calls Tryd.prog 37 #[.slice A M.length c, .slice B nl d, .slice C ml d2] V fun e w' => e = .returned (.tuple #[.string ⟨#[]⟩, .int .i64 2]) ∧ Below V.heap.size V w'))
    (HE1 : Hid (∀ V A B c d, RowsAt V A M → IntsAt V B l → Calls Tryd.prog 33 #[.slice A M.length c, .slice B nl d] V fun e w' => e = .returned (.bool true) ∧ ∃ n, w' = V.drewN n))
    (HE2 : Hid (∀ V A B c d, RowsAt V A M → IntsAt V B m → Calls Tryd.prog 33 #[.slice A M.length c, .slice B ml d] V fun e w' => e = .returned (.bool true) ∧ ∃ n, w' = V.drewN n))
    (g1 : ((nl : Int) == 0) = true) :
    Calls Tryd.prog 6 #[.slice A n c, .slice B k1 d, .slice C k2 d2] w fun e w' => e = .returned (.bool true) ∧ Below w.heap.size w w' := by
  have b0 := Below.refl w.heap.size w
  go_enter Tryd.func6, Tryd.ntmps6
  go_wp2_with (first
    | (go_at_call 16; refine (HT.out _ b0).mono ?_; rintro e w1 ⟨A1, c1, rfl, ra, b1⟩; replace b0 := b0.trans (b1.mono b0.size))
    | (go_at_call 31; first | ((with_reducible refine (HL1.out _ b0).mono ?_); rintro e w2 ⟨A2, c2, rfl, ia, b2⟩; replace b0 := b0.trans (b2.mono b0.size); replace ra := ra.below b2) | ((with_reducible refine (HL2.out _ b0).mono ?_); rintro e w3 ⟨A3, c3, rfl, ib, b3⟩; replace b0 := b0.trans (b3.mono b0.size); replace ra := ra.below b3; replace ia := ia.below b3))
    | (go_at_call 37; refine (HI.out _ _ _ _ _ _ _ b0 ra ia ib).mono ?_; rintro e w4 ⟨rfl, b4⟩; replace b0 := b0.trans (b4.mono b0.size); replace ra := ra.below b4; replace ia := ia.below b4; replace ib := ib.below b4)
    | (go_at_call 21; refine (HRM.out _ _ _ ra).mono ?_; rintro e w5 ⟨rfl, rfl⟩)
    | (go_at_call 33; first | ((with_reducible refine (HE1.out _ _ _ _ _ ra ia).mono ?_); rintro e w6 ⟨rfl, n6, rfl⟩; replace b0 := b0.trans (below_drewN n6); replace ra := ra.below (below_drewN n6); replace ia := ia.below (below_drewN n6); replace ib := ib.below (below_drewN n6); generalize World.drewN _ n6 = Vn6 at *) | ((with_reducible refine (HE2.out _ _ _ _ _ ra ib).mono ?_); rintro e w7 ⟨rfl, n7, rfl⟩; replace b0 := b0.trans (below_drewN n7); replace ra := ra.below (below_drewN n7); replace ia := ia.below (below_drewN n7); replace ib := ib.below (below_drewN n7); generalize World.drewN _ n7 = Vn7 at *))
    | (go_at_call 22; refine (HAW.out _ b0).mono ?_; rintro e w10 ⟨rfl, b10⟩; replace b0 := b0.trans (b10.mono b0.size)))
  go_ret
  exact ⟨rfl, b0⟩
theorem cl_l2 (A B C : Option Addr) (c d d2 n k1 k2 nl ml : Nat) (w : World) (M : List (List Int)) (l m : List Int)
    (HT : Hid (∀ V, Below w.heap.size w V → Calls Tryd.prog 16 #[.slice A n c] V (TabM V M)))
    (HL1 : Hid (∀ V, Below w.heap.size w V → Calls Tryd.prog 31 #[.slice B k1 d] V (LstN V l nl)))
    (HL2 : Hid (∀ V, Below w.heap.size w V → Calls Tryd.prog 31 #[.slice C k2 d2] V (LstN V m ml)))
    (HAW : Hid (∀ V, Below w.heap.size w V → Calls Tryd.prog 22 #[] V fun e w' => e = .returned (.bool true) ∧ Below V.heap.size V w'))
    (HRM : Hid (∀ V A c, RowsAt V A M → Calls Tryd.prog 21 #[.slice A M.length c] V fun e w' => e = .returned (.bool true) ∧ V = w'))
    (HI : Hid (∀ V A B C c d d2, Below w.heap.size w V → RowsAt V A M → IntsAt V B l → IntsAt V C m → Calls Tryd.prog 37 #[.slice A M.length c, .slice B nl d, .slice C ml d2] V fun e w' => e = .returned (.tuple #[.string ⟨#[]⟩, .int .i64 2]) ∧ Below V.heap.size V w'))
    (HE1 : Hid (∀ V A B c d, RowsAt V A M → IntsAt V B l → Calls Tryd.prog 33 #[.slice A M.length c, .slice B nl d] V fun e w' => e = .returned (.bool true) ∧ ∃ n, w' = V.drewN n))
    (HE2 : Hid (∀ V A B c d, RowsAt V A M → IntsAt V B m → Calls Tryd.prog 33 #[.slice A M.length c, .slice B ml d] V fun e w' => e = .returned (.bool true) ∧ ∃ n, w' = V.drewN n))
    (g1 : ((nl : Int) == 0) = false)
    (g2 : ((ml : Int) == 0) = true) :
    Calls Tryd.prog 6 #[.slice A n c, .slice B k1 d, .slice C k2 d2] w fun e w' => e = .returned (.bool true) ∧ Below w.heap.size w w' := by
  have b0 := Below.refl w.heap.size w
  go_enter Tryd.func6, Tryd.ntmps6
  go_wp2_with (first
    | (go_at_call 16; refine (HT.out _ b0).mono ?_; rintro e w1 ⟨A1, c1, rfl, ra, b1⟩; replace b0 := b0.trans (b1.mono b0.size))
    | (go_at_call 31; first | ((with_reducible refine (HL1.out _ b0).mono ?_); rintro e w2 ⟨A2, c2, rfl, ia, b2⟩; replace b0 := b0.trans (b2.mono b0.size); replace ra := ra.below b2) | ((with_reducible refine (HL2.out _ b0).mono ?_); rintro e w3 ⟨A3, c3, rfl, ib, b3⟩; replace b0 := b0.trans (b3.mono b0.size); replace ra := ra.below b3; replace ia := ia.below b3))
    | (go_at_call 37; refine (HI.out _ _ _ _ _ _ _ b0 ra ia ib).mono ?_; rintro e w4 ⟨rfl, b4⟩; replace b0 := b0.trans (b4.mono b0.size); replace ra := ra.below b4; replace ia := ia.below b4; replace ib := ib.below b4)
    | (go_at_call 21; refine (HRM.out _ _ _ ra).mono ?_; rintro e w5 ⟨rfl, rfl⟩)
    | (go_at_call 33; first | ((with_reducible refine (HE1.out _ _ _ _ _ ra ia).mono ?_); rintro e w6 ⟨rfl, n6, rfl⟩; replace b0 := b0.trans (below_drewN n6); replace ra := ra.below (below_drewN n6); replace ia := ia.below (below_drewN n6); replace ib := ib.below (below_drewN n6); generalize World.drewN _ n6 = Vn6 at *) | ((with_reducible refine (HE2.out _ _ _ _ _ ra ib).mono ?_); rintro e w7 ⟨rfl, n7, rfl⟩; replace b0 := b0.trans (below_drewN n7); replace ra := ra.below (below_drewN n7); replace ia := ia.below (below_drewN n7); replace ib := ib.below (below_drewN n7); generalize World.drewN _ n7 = Vn7 at *))
    | (go_at_call 22; refine (HAW.out _ b0).mono ?_; rintro e w10 ⟨rfl, b10⟩; replace b0 := b0.trans (b10.mono b0.size)))
  go_ret
  exact ⟨rfl, b0⟩
theorem cl_none (A B C : Option Addr) (c d d2 n k1 k2 nl ml : Nat) (w : World) (M : List (List Int)) (l m : List Int) (S : ByteArray) (q t : Int)
    (HT : Hid (∀ V, Below w.heap.size w V → Calls Tryd.prog 16 #[.slice A n c] V (TabM V M)))
    (HL1 : Hid (∀ V, Below w.heap.size w V → Calls Tryd.prog 31 #[.slice B k1 d] V (LstN V l nl)))
    (HL2 : Hid (∀ V, Below w.heap.size w V → Calls Tryd.prog 31 #[.slice C k2 d2] V (LstN V m ml)))
    (HAW : Hid (∀ V, Below w.heap.size w V → Calls Tryd.prog 22 #[] V fun e w' => e = .returned (.bool true) ∧ Below V.heap.size V w'))
    (HRM : Hid (∀ V A c, RowsAt V A M → Calls Tryd.prog 21 #[.slice A M.length c] V fun e w' => e = .returned (.bool true) ∧ V = w'))
    (HI : Hid (∀ V A B C c d d2, Below w.heap.size w V → RowsAt V A M → IntsAt V B l → IntsAt V C m → Calls Tryd.prog 37 #[.slice A M.length c, .slice B nl d, .slice C ml d2] V fun e w' => e = .returned (.tuple #[.string ⟨#[]⟩, .int .i64 6]) ∧ Below V.heap.size V w'))
    (HE1 : Hid (∀ V A B c d, RowsAt V A M → IntsAt V B l → Calls Tryd.prog 33 #[.slice A M.length c, .slice B nl d] V fun e w' => e = .returned (.bool true) ∧ ∃ n, w' = V.drewN n))
    (HE2 : Hid (∀ V A B c d, RowsAt V A M → IntsAt V B m → Calls Tryd.prog 33 #[.slice A M.length c, .slice B ml d] V fun e w' => e = .returned (.bool true) ∧ ∃ n, w' = V.drewN n))
    (g1 : ((nl : Int) == 0) = false)
    (g2 : ((ml : Int) == 0) = false)
    (HN1 : Hid (∀ V B d, IntsAt V B l → Calls Tryd.prog 36 #[.slice B nl d] V fun e w' => e = .returned (.int .i64 q) ∧ V = w'))
    (HN2 : Hid (∀ V B d, IntsAt V B m → Calls Tryd.prog 36 #[.slice B ml d] V fun e w' => e = .returned (.int .i64 t) ∧ V = w'))
    (HRL : Hid (∀ V A c, RowsAt V A M → Calls Tryd.prog 38 #[.slice A M.length c, .int .i64 q, .int .i64 t] V fun e w' => e = .returned (.tuple #[.string S, .bool false]) ∧ Below V.heap.size V w')) :
    Calls Tryd.prog 6 #[.slice A n c, .slice B k1 d, .slice C k2 d2] w fun e w' => e = .returned (.bool true) ∧ Below w.heap.size w w' := by
  have b0 := Below.refl w.heap.size w
  go_enter Tryd.func6, Tryd.ntmps6
  go_wp2_with (first
    | (go_at_call 16; refine (HT.out _ b0).mono ?_; rintro e w1 ⟨A1, c1, rfl, ra, b1⟩; replace b0 := b0.trans (b1.mono b0.size))
    | (go_at_call 31; first | ((with_reducible refine (HL1.out _ b0).mono ?_); rintro e w2 ⟨A2, c2, rfl, ia, b2⟩; replace b0 := b0.trans (b2.mono b0.size); replace ra := ra.below b2) | ((with_reducible refine (HL2.out _ b0).mono ?_); rintro e w3 ⟨A3, c3, rfl, ib, b3⟩; replace b0 := b0.trans (b3.mono b0.size); replace ra := ra.below b3; replace ia := ia.below b3))
    | (go_at_call 37; refine (HI.out _ _ _ _ _ _ _ b0 ra ia ib).mono ?_; rintro e w4 ⟨rfl, b4⟩; replace b0 := b0.trans (b4.mono b0.size); replace ra := ra.below b4; replace ia := ia.below b4; replace ib := ib.below b4)
    | (go_at_call 21; refine (HRM.out _ _ _ ra).mono ?_; rintro e w5 ⟨rfl, rfl⟩)
    | (go_at_call 33; first | ((with_reducible refine (HE1.out _ _ _ _ _ ra ia).mono ?_); rintro e w6 ⟨rfl, n6, rfl⟩; replace b0 := b0.trans (below_drewN n6); replace ra := ra.below (below_drewN n6); replace ia := ia.below (below_drewN n6); replace ib := ib.below (below_drewN n6); generalize World.drewN _ n6 = Vn6 at *) | ((with_reducible refine (HE2.out _ _ _ _ _ ra ib).mono ?_); rintro e w7 ⟨rfl, n7, rfl⟩; replace b0 := b0.trans (below_drewN n7); replace ra := ra.below (below_drewN n7); replace ia := ia.below (below_drewN n7); replace ib := ib.below (below_drewN n7); generalize World.drewN _ n7 = Vn7 at *))
    | (go_at_call 36; first | ((with_reducible refine (HN1.out _ _ _ ia).mono ?_); rintro e w8 ⟨rfl, rfl⟩) | ((with_reducible refine (HN2.out _ _ _ ib).mono ?_); rintro e w8 ⟨rfl, rfl⟩))
    | (go_at_call 38; refine (HRL.out _ _ _ ra).mono ?_; rintro e w9 ⟨rfl, b9⟩; replace b0 := b0.trans (b9.mono b0.size))
    | (go_at_call 22; refine (HAW.out _ b0).mono ?_; rintro e w10 ⟨rfl, b10⟩; replace b0 := b0.trans (b10.mono b0.size)))
  go_ret
  exact ⟨rfl, b0⟩
theorem cl_some (A B C : Option Addr) (c d d2 n k1 k2 nl ml : Nat) (w : World) (M : List (List Int)) (l m : List Int) (S : ByteArray) (q t : Int)
    (HT : Hid (∀ V, Below w.heap.size w V → Calls Tryd.prog 16 #[.slice A n c] V (TabM V M)))
    (HL1 : Hid (∀ V, Below w.heap.size w V → Calls Tryd.prog 31 #[.slice B k1 d] V (LstN V l nl)))
    (HL2 : Hid (∀ V, Below w.heap.size w V → Calls Tryd.prog 31 #[.slice C k2 d2] V (LstN V m ml)))
    (HAW : Hid (∀ V, Below w.heap.size w V → Calls Tryd.prog 22 #[] V fun e w' => e = .returned (.bool true) ∧ Below V.heap.size V w'))
    (HRM : Hid (∀ V A c, RowsAt V A M → Calls Tryd.prog 21 #[.slice A M.length c] V fun e w' => e = .returned (.bool true) ∧ V = w'))
    (HI : Hid (∀ V A B C c d d2, Below w.heap.size w V → RowsAt V A M → IntsAt V B l → IntsAt V C m → Calls Tryd.prog 37 #[.slice A M.length c, .slice B nl d, .slice C ml d2] V fun e w' => e = .returned (.tuple #[.string S, .int .i64 0]) ∧ Below V.heap.size V w'))
    (HE1 : Hid (∀ V A B c d, RowsAt V A M → IntsAt V B l → Calls Tryd.prog 33 #[.slice A M.length c, .slice B nl d] V fun e w' => e = .returned (.bool true) ∧ ∃ n, w' = V.drewN n))
    (HE2 : Hid (∀ V A B c d, RowsAt V A M → IntsAt V B m → Calls Tryd.prog 33 #[.slice A M.length c, .slice B ml d] V fun e w' => e = .returned (.bool true) ∧ ∃ n, w' = V.drewN n))
    (g1 : ((nl : Int) == 0) = false)
    (g2 : ((ml : Int) == 0) = false)
    (HN1 : Hid (∀ V B d, IntsAt V B l → Calls Tryd.prog 36 #[.slice B nl d] V fun e w' => e = .returned (.int .i64 q) ∧ V = w'))
    (HN2 : Hid (∀ V B d, IntsAt V B m → Calls Tryd.prog 36 #[.slice B ml d] V fun e w' => e = .returned (.int .i64 t) ∧ V = w'))
    (HRL : Hid (∀ V A c, RowsAt V A M → Calls Tryd.prog 38 #[.slice A M.length c, .int .i64 q, .int .i64 t] V fun e w' => e = .returned (.tuple #[.string S, .bool true]) ∧ Below V.heap.size V w')) :
    Calls Tryd.prog 6 #[.slice A n c, .slice B k1 d, .slice C k2 d2] w fun e w' => e = .returned (.bool true) ∧ Below w.heap.size w w' := by
  have b0 := Below.refl w.heap.size w
  go_enter Tryd.func6, Tryd.ntmps6
  go_wp2_with (first
    | (go_at_call 16; refine (HT.out _ b0).mono ?_; rintro e w1 ⟨A1, c1, rfl, ra, b1⟩; replace b0 := b0.trans (b1.mono b0.size))
    | (go_at_call 31; first | ((with_reducible refine (HL1.out _ b0).mono ?_); rintro e w2 ⟨A2, c2, rfl, ia, b2⟩; replace b0 := b0.trans (b2.mono b0.size); replace ra := ra.below b2) | ((with_reducible refine (HL2.out _ b0).mono ?_); rintro e w3 ⟨A3, c3, rfl, ib, b3⟩; replace b0 := b0.trans (b3.mono b0.size); replace ra := ra.below b3; replace ia := ia.below b3))
    | (go_at_call 37; refine (HI.out _ _ _ _ _ _ _ b0 ra ia ib).mono ?_; rintro e w4 ⟨rfl, b4⟩; replace b0 := b0.trans (b4.mono b0.size); replace ra := ra.below b4; replace ia := ia.below b4; replace ib := ib.below b4)
    | (go_at_call 21; refine (HRM.out _ _ _ ra).mono ?_; rintro e w5 ⟨rfl, rfl⟩)
    | (go_at_call 33; first | ((with_reducible refine (HE1.out _ _ _ _ _ ra ia).mono ?_); rintro e w6 ⟨rfl, n6, rfl⟩; replace b0 := b0.trans (below_drewN n6); replace ra := ra.below (below_drewN n6); replace ia := ia.below (below_drewN n6); replace ib := ib.below (below_drewN n6); generalize World.drewN _ n6 = Vn6 at *) | ((with_reducible refine (HE2.out _ _ _ _ _ ra ib).mono ?_); rintro e w7 ⟨rfl, n7, rfl⟩; replace b0 := b0.trans (below_drewN n7); replace ra := ra.below (below_drewN n7); replace ia := ia.below (below_drewN n7); replace ib := ib.below (below_drewN n7); generalize World.drewN _ n7 = Vn7 at *))
    | (go_at_call 36; first | ((with_reducible refine (HN1.out _ _ _ ia).mono ?_); rintro e w8 ⟨rfl, rfl⟩) | ((with_reducible refine (HN2.out _ _ _ ib).mono ?_); rintro e w8 ⟨rfl, rfl⟩))
    | (go_at_call 38; refine (HRL.out _ _ _ ra).mono ?_; rintro e w9 ⟨rfl, b9⟩; replace b0 := b0.trans (b9.mono b0.size))
    | (go_at_call 22; refine (HAW.out _ b0).mono ?_; rintro e w10 ⟨rfl, b10⟩; replace b0 := b0.trans (b10.mono b0.size)))
  go_ret
  exact ⟨rfl, b0⟩
theorem clockLeads_any (A : Option Addr) (c : Nat) (L : List (List Int)) (B : Option Addr) (d : Nat) (es : List Int) (C : Option Addr) (d2 : Nat) (fs : List Int) (w : World) (ht : TabW w) (hx : L.length ≤ c) (hc : c ≤ maxLen) (ha : RowsIn w A L)
    (hy : es.length ≤ d) (hd : d ≤ maxLen) (hb : IntsAt w B es) (hz : fs.length ≤ d2) (hd2 : d2 ≤ maxLen) (hf : IntsAt w C fs) :
    Calls Tryd.prog 6 #[.slice A L.length c, .slice B es.length d, .slice C fs.length d2] w fun e w' => e = .returned (.bool true) ∧ Below w.heap.size w w' := by
  obtain ⟨M, hl, hT⟩ := tabM_any A c L w hx hc ha
  have HT := Lib.hid hT
  have HAW := Lib.hid (fun (V : World) (hV : Below w.heap.size w V) => awake_any V (ht.below hV ht.lt))
  have HL1 : Hid (∀ V, Below w.heap.size w V → Calls Tryd.prog 31 #[.slice B es.length d] V (LstN V (es.take 11) (es.take 11).length)) := Lib.hid (fun V hV => (list_copy_any B d es V hy hd (hb.below hV)).mono (fun e w' ⟨v, k, he, ho, hbl⟩ => by
    obtain ⟨A1, c1, rfl, -, -, i⟩ := own_intsI ho
    exact ⟨A1, c1, he, i, hbl⟩))
  have HL2 : Hid (∀ V, Below w.heap.size w V → Calls Tryd.prog 31 #[.slice C fs.length d2] V (LstN V (fs.take 11) (fs.take 11).length)) := Lib.hid (fun V hV => (list_copy_any C d2 fs V hz hd2 (hf.below hV)).mono (fun e w' ⟨v, k, he, ho, hbl⟩ => by
    obtain ⟨A1, c1, rfl, -, -, i⟩ := own_intsI ho
    exact ⟨A1, c1, he, i, hbl⟩))
  have h1l : (es.take 11).length ≤ 1000 := by rw [List.length_take]; omega
  have h2l : (fs.take 11).length ≤ 1000 := by rw [List.length_take]; omega
  generalize es.take 11 = l at *
  generalize fs.take 11 = m at *
  have HRM := Lib.hid (fun (V : World) A c ha => refMachine_any A c M V hl ha)
  cases hk : okM M
  · rw [hk] at HRM
    exact cl_no A B C c d d2 L.length es.length fs.length l.length m.length w M l m HT HL1 HL2 HAW HRM (Lib.hid (fun V A B C c d d2 _ ha _ _ => Lead_no A B C c d d2 _ _ M V hk ha))
  rw [hk] at HRM
  have h := okM_iff.1 hk
  have HE1 := Lib.hid (fun (V : World) A B c d ha hb => refSet_any A B c d M l V h ha hb h1l)
  have HE2 := Lib.hid (fun (V : World) A B c d ha hb => refSet_any A B c d M m V h ha hb h2l)
  have HS1 : ∀ (V : World) B d, IntsAt V B l → ∀ U, Below V.heap.size V U → Calls Tryd.prog 61 #[.agg (iv (mc M)).toArray, .slice B l.length d] U fun e w' => e = .returned (.tuple #[.int .u16 (setR (nS M) l : Nat), .bool (okS (nS M) l)]) ∧ Below U.heap.size U w' := fun V B d hb U hU => readSet_any M B d l U h h1l (hb.below hU)
  have HS2 : ∀ (V : World) B d, IntsAt V B m → ∀ U, Below V.heap.size V U → Calls Tryd.prog 61 #[.agg (iv (mc M)).toArray, .slice B m.length d] U fun e w' => e = .returned (.tuple #[.int .u16 (setR (nS M) m : Nat), .bool (okS (nS M) m)]) ∧ Below U.heap.size U w' := fun V B d hb U hU => readSet_any M B d m U h h2l (hb.below hU)
  cases ho : okS (nS M) l
  · rw [ho] at HE1 HS1
    exact cl_s1 A B C c d d2 L.length es.length fs.length l.length m.length w M l m HT HL1 HL2 HAW HRM (Lib.hid (fun V A B C c d d2 _ ha hb hf => lead_f A B C c d d2 M l m V (Lib.hid (rm_yes A c M V h ha)) _ _ _ (Lib.hid (HS1 V B d hb)) (Lib.hid (HS2 V C d2 hf)))) HE1
  rw [ho] at HE1 HS1
  cases hp : okS (nS M) m
  · rw [hp] at HE2 HS2
    exact cl_s2 A B C c d d2 L.length es.length fs.length l.length m.length w M l m HT HL1 HL2 HAW HRM (Lib.hid (fun V A B C c d d2 _ ha hb hf => lead_tf A B C c d d2 M l m V (Lib.hid (rm_yes A c M V h ha)) _ _ (Lib.hid (HS1 V B d hb)) (Lib.hid (HS2 V C d2 hf)))) HE1 HE2
  rw [hp] at HE2 HS2
  rw [setR_yes ho] at HS1
  rw [setR_yes hp] at HS2
  by_cases e1 : l.length = 0
  · have z1 := (setL_zero ho).2 e1
    exact cl_l1 A B C c d d2 L.length es.length fs.length l.length m.length w M l m HT HL1 HL2 HAW HRM (Lib.hid (fun V A B C c d d2 _ ha hb hf => lead_0 A B C c d d2 M l m V (Lib.hid (rm_yes A c M V h ha)) _ _ (Lib.hid (HS1 V B d hb)) (Lib.hid (HS2 V C d2 hf)) (by rw [z1]; rfl))) HE1 HE2 (by rw [e1]; rfl)
  have z1 : setL l ≠ 0 := fun e => e1 ((setL_zero ho).1 e)
  have b1 : ((setL l : Int) == 0) = false := by rw [beq_eq_false_iff_ne]; omega
  have l1 : ((l.length : Int) == 0) = false := by rw [beq_eq_false_iff_ne]; omega
  by_cases e2 : m.length = 0
  · have z2 := (setL_zero hp).2 e2
    exact cl_l2 A B C c d d2 L.length es.length fs.length l.length m.length w M l m HT HL1 HL2 HAW HRM (Lib.hid (fun V A B C c d d2 _ ha hb hf => lead_00 A B C c d d2 M l m V (Lib.hid (rm_yes A c M V h ha)) _ _ (Lib.hid (HS1 V B d hb)) (Lib.hid (HS2 V C d2 hf)) b1 (by rw [z2]; rfl))) HE1 HE2 l1 (by rw [e2]; rfl)
  have z2 : setL m ≠ 0 := fun e => e2 ((setL_zero hp).1 e)
  have b2 : ((setL m : Int) == 0) = false := by rw [beq_eq_false_iff_ne]; omega
  have l2 : ((m.length : Int) == 0) = false := by rw [beq_eq_false_iff_ne]; omega
  have s1 := setL_set ho
  have s2 := set512 h.n9 (setL_set hp)
  have HK : ∀ (V : World) P, Below w.heap.size w V → V.cell? ⟨P, 0, none⟩ = some (.int .u16 (setL m : Nat)) → Calls Tryd.prog 66 #[.agg (iv (mc M)).toArray, .int .u16 (setL l : Nat), .func (.func 67) #[] #[.pointer (some ⟨P, 0, none⟩)]] V fun e w' => e = .returned (seekV (ldX M (setL l) (setL m))) ∧ Below V.heap.size V w' := fun V P hV hc =>
    search67 M (setL l) P (fun t => decide (t = setL m)) V h s1 z1 (ht.below hV ht.lt) (fun t U ht5 hU => leadIs_any t (setL m) P U ht5 s2 ((hU.cell (p := ⟨P, 0, none⟩) (block_lt_of_cell hc)).trans hc))
  have HRL := fun (V : World) A c ha => refLead_any A c M (setL l) (setL m) V h ha s1 z1
  have HN1 := Lib.hid (fun (V : World) B d hb => refNumber_any (nS M) B d l V h.n9 ho hb h1l)
  have HN2 := Lib.hid (fun (V : World) B d hb => refNumber_any (nS M) B d m V h.n9 hp hb h2l)
  cases hX : ldX M (setL l) (setL m) with
  | none =>
    rw [hX] at HK HRL
    exact cl_none A B C c d d2 L.length es.length fs.length l.length m.length w M l m ⟨#[]⟩ _ _ HT HL1 HL2 HAW HRM (Lib.hid (fun V A B C c d d2 hV ha hb hf => lead_none A B C c d d2 M l m V (Lib.hid (rm_yes A c M V h ha)) _ _ (Lib.hid (HS1 V B d hb)) (Lib.hid (HS2 V C d2 hf)) b1 b2 (Lib.hid (fun U P hU hc => HK U P (hV.trans (hU.mono hV.size)) hc)))) HE1 HE2 l1 l2 HN1 HN2 (Lib.hid (fun V A c ha => HRL V A c ha))
  | some q =>
    obtain ⟨z, x⟩ := q
    rw [hX] at HK HRL
    exact cl_some A B C c d d2 L.length es.length fs.length l.length m.length w M l m (wS x) _ _ HT HL1 HL2 HAW HRM (Lib.hid (fun V A B C c d d2 hV ha hb hf => lead_some A B C c d d2 M l m V (Lib.hid (rm_yes A c M V h ha)) _ _ (Lib.hid (HS1 V B d hb)) (Lib.hid (HS2 V C d2 hf)) (wS x) z b1 b2 (Lib.hid (fun U P hU hc => HK U P (hV.trans (hU.mono hV.size)) hc)))) HE1 HE2 l1 l2 HN1 HN2 (Lib.hid (fun V A c ha => HRL V A c ha))
end Go.Proofs.YtignbpipdfjkeaaDoor
