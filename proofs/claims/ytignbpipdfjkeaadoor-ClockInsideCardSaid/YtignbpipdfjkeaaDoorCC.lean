/- ClockInside walked, for every input. -/
import Derived.Test.YtignbpipdfjkeaaDoorCA
import Derived.Test.YtignbpipdfjkeaaDoorBV
import Derived.Test.YtignbpipdfjkeaaDoorBQ
import Derived.Test.YtignbpipdfjkeaaDoorBY
import Derived.Test.YtignbpipdfjkeaaDoorBZ
/- ClockInside walked. -/
namespace Go.Proofs.YtignbpipdfjkeaaDoor
open Go.RowKit Go.PlainAid
set_option maxHeartbeats 2000000
set_option maxRecDepth 100000
theorem cin_none (A B : Option Addr) (m c n d : Nat) (s0 s1 x y RS : ByteArray) (RQ RE : Int) (w : World) (M : List (List Int)) (P U O : List Int) (hre : RE = 6)
    (HT : Hid (Calls Tryd.prog 44 #[.slice A m c] (w.alloc (.cells #[.string s0, .string s1] 65)) (TabM (w.alloc (.cells #[.string s0, .string s1] 65)) M)))
    (HAW : Hid (∀ V, Below w.heap.size w V → Calls Tryd.prog 22 #[] V fun e w' => e = .returned (.bool true) ∧ Below V.heap.size V w'))
    (H1 : Hid (∀ V A c, Calls Tryd.prog 46 #[.slice A M.length c, .string s0, .int .i64 60] V fun e w' => e = .returned (.string x) ∧ Below V.heap.size V w'))
    (H2 : Hid (∀ V A c, Calls Tryd.prog 46 #[.slice A M.length c, .string s1, .int .i64 60] V fun e w' => e = .returned (.string y) ∧ Below V.heap.size V w'))
    (HS : Hid (∀ V A c, Below w.heap.size w V → RowsAt V A M → Calls Tryd.prog 47 #[.slice A M.length c, .slice B n d] V (LstR V P)))
    (HR : Hid (∀ V A c, Below w.heap.size w V → RowsAt V A M → Calls Tryd.prog 17 #[.slice A M.length c] V fun e w' => e = .returned (.tuple #[.string RS, .int .i64 RQ, .int .i64 RE]) ∧ Below V.heap.size V w'))
    (HI1 : Hid (∀ V A c B d, Below w.heap.size w V → RowsAt V A M → IntsAt V B P → Calls Tryd.prog 32 #[.slice A M.length c, .slice B P.length d, .string x] V (LstER V U 0)))
    (HI2 : Hid (∀ V A c B d, Below w.heap.size w V → RowsAt V A M → IntsAt V B U → Calls Tryd.prog 32 #[.slice A M.length c, .slice B U.length d, .string y] V (LstER V O 0)))
    (HI3 : Hid (∀ V A c B d, Below w.heap.size w V → RowsAt V A M → IntsAt V B P → Calls Tryd.prog 32 #[.slice A M.length c, .slice B P.length d, .string (x ++ y)] V (LstER V O 0)))
    (hU : U.length ≤ P.length) (hU1 : 1 ≤ U.length) (hO : O.length ≤ U.length) (hP : P.length ≤ 9) (hx : x.size ≤ 60) (hy : y.size ≤ 60) :
    Calls Tryd.prog 10 #[.slice A m c, .agg #[.string s0, .string s1], .slice B n d] w fun e w' => e = .returned (.bool true) ∧ Below w.heap.size w w' := by
  subst hre
  have b0 := Below.refl w.heap.size w
  have r0 : Row (w.alloc (.cells #[.string s0, .string s1] 65)) w.heap.size 65 [.string s0, .string s1] := row_new rfl
  replace b0 := b0.alloc (Nat.le_refl _) (.cells #[.string s0, .string s1] 65)
  have q1 : decide (P.length < U.length) = false := decide_eq_false (by omega)
  have q2 : decide (U.length < 1) = false := decide_eq_false (by omega)
  have q2' : decide ((U.length : Int) < 1) = false := decide_eq_false (by omega)
  have q3 : decide (U.length < O.length) = false := decide_eq_false (by omega)
  have hll : O.length ≤ 9 := by omega
  have HIN : Hid (∀ V A B c d, IntsAt V A O → IntsAt V B O → Calls Tryd.prog 25 #[.slice A O.length c, .slice B O.length d] V fun e w' => e = .returned (.bool true) ∧ ∃ n, w' = V.drewN n) := Lib.hid (fun V A B c d ha hb => by
    have := ints_any A B c d O O V (by omega) (by omega) ha hb
    rwa [decide_eq_true rfl] at this)
  have hx1 : x.size + y.size ≤ 1000 := by omega
  clear hU hU1 hO hP hx hy hll
  go_enter Tryd.func10, Tryd.ntmps10
  go_wp2_with (go_at_call 44; refine HT.out.mono ?_; rintro e w1 ⟨A1, c1, rfl, ra, b1⟩; replace b0 := b0.trans (b1.mono b0.size); replace r0 := r0.below b1)
  have k0 : ∀ u : After w1, u.v.cell? ⟨w.heap.size, 0, none⟩ = some (.string s0) := fun u => After.cell (r0.cell 0) u
  have k1 : ∀ u : After w1, u.v.cell? ⟨w.heap.size, 1, none⟩ = some (.string s1) := fun u => After.cell (r0.cell 1) u
  clear r0 b1
  refine wp_region_class_tail (C := fun w' => ∃ u : After _, w' = u.v) 8 (by kernel_rfl) (by kernel_rfl) (isAfter_start _) ?_
  simp only [List.take_succ_cons, List.take_zero, List.drop_succ_cons, List.drop_zero]
  try simp only [Act.put]
  repeat (go_big_quiet_step ((first | (with_reducible refine (H1.out _ _ _).mono ?_; rintro e w8 ⟨rfl, b8⟩; exact ⟨rfl, After.done _ b8⟩) | (with_reducible refine (H2.out _ _ _).mono ?_; rintro e w8 ⟨rfl, b8⟩; exact ⟨rfl, After.done _ b8⟩))))
  refine wpQuiet_nil ?_
  rintro _ ⟨ua, rfl⟩
  have st3 := ra.below ua.h
  have b03 := b0.trans (ua.h.mono b0.size)
  clear k0 k1 ra b0 H1 H2 HT
  generalize ua.v = W3 at *
  go_wp2_with (first
    | (go_at_call 47; ((with_reducible refine (HS.out _ _ _ b03 st3).mono ?_); rintro e w4 ⟨A4, c4, rfl, i4, b4⟩); replace st3 := st3.below b4; replace b03 := b03.trans (b4.mono b03.size))
    | (go_at_call 17; ((with_reducible refine (HR.out _ _ _ b03 st3).mono ?_); rintro e w5 ⟨rfl, b5⟩); replace st3 := st3.below b5; replace i4 := i4.below b5; replace b03 := b03.trans (b5.mono b03.size))
    | (go_at_call 32; first
      | ((with_reducible refine (HI1.out _ _ _ _ _ b03 st3 i4).mono ?_); rintro e w6 ⟨A6, c6, rfl, i6, b6⟩; replace st3 := st3.below b6; replace i4 := i4.below b6; replace b03 := b03.trans (b6.mono b03.size))
      | ((with_reducible refine (HI2.out _ _ _ _ _ b03 st3 i6).mono ?_); rintro e w7 ⟨A7, c7, rfl, i7, b7⟩; replace st3 := st3.below b7; replace i4 := i4.below b7; replace i6 := i6.below b7; replace b03 := b03.trans (b7.mono b03.size))
      | ((with_reducible refine (HI3.out _ _ _ _ _ b03 st3 i4).mono ?_); rintro e w8 ⟨A8, c8, rfl, i8, b8⟩; replace st3 := st3.below b8; replace i7 := i7.below b8; replace b03 := b03.trans (b8.mono b03.size)))
    | (go_at_call 25; ((with_reducible refine (HIN.out _ _ _ _ _ i7 i8).mono ?_); rintro e _ ⟨rfl, nq, rfl⟩); replace st3 := st3.below (below_drewN nq); replace b03 := b03.trans (below_drewN nq); generalize World.drewN _ nq = w9 at *)
    | (go_at_call 22; ((with_reducible refine (HAW.out _ b03).mono ?_); rintro e w13 ⟨rfl, b13⟩); replace b03 := b03.trans (b13.mono b03.size)))
  go_ret
  exact ⟨rfl, b03⟩
theorem cin_some (A B : Option Addr) (m c n d : Nat) (s0 s1 x y RS : ByteArray) (RQ RE : Int) (w : World) (M : List (List Int)) (P U O G Z : List Int) (F : Nat) (hre : RE = 0)
    (HT : Hid (Calls Tryd.prog 44 #[.slice A m c] (w.alloc (.cells #[.string s0, .string s1] 65)) (TabM (w.alloc (.cells #[.string s0, .string s1] 65)) M)))
    (HAW : Hid (∀ V, Below w.heap.size w V → Calls Tryd.prog 22 #[] V fun e w' => e = .returned (.bool true) ∧ Below V.heap.size V w'))
    (H1 : Hid (∀ V A c, Calls Tryd.prog 46 #[.slice A M.length c, .string s0, .int .i64 60] V fun e w' => e = .returned (.string x) ∧ Below V.heap.size V w'))
    (H2 : Hid (∀ V A c, Calls Tryd.prog 46 #[.slice A M.length c, .string s1, .int .i64 60] V fun e w' => e = .returned (.string y) ∧ Below V.heap.size V w'))
    (HS : Hid (∀ V A c, Below w.heap.size w V → RowsAt V A M → Calls Tryd.prog 47 #[.slice A M.length c, .slice B n d] V (LstR V P)))
    (HR : Hid (∀ V A c, Below w.heap.size w V → RowsAt V A M → Calls Tryd.prog 17 #[.slice A M.length c] V fun e w' => e = .returned (.tuple #[.string RS, .int .i64 RQ, .int .i64 RE]) ∧ Below V.heap.size V w'))
    (HI1 : Hid (∀ V A c B d, Below w.heap.size w V → RowsAt V A M → IntsAt V B P → Calls Tryd.prog 32 #[.slice A M.length c, .slice B P.length d, .string x] V (LstER V U 0)))
    (HI2 : Hid (∀ V A c B d, Below w.heap.size w V → RowsAt V A M → IntsAt V B U → Calls Tryd.prog 32 #[.slice A M.length c, .slice B U.length d, .string y] V (LstER V O 0)))
    (HI3 : Hid (∀ V A c B d, Below w.heap.size w V → RowsAt V A M → IntsAt V B P → Calls Tryd.prog 32 #[.slice A M.length c, .slice B P.length d, .string (x ++ y)] V (LstER V O 0)))
    (hU : U.length ≤ P.length) (hU1 : 1 ≤ U.length) (hO : O.length ≤ U.length) (hP : P.length ≤ 9) (hx : x.size ≤ 60) (hy : y.size ≤ 60)
    (hrs : RS.size ≤ 288)
    (HW : Hid (∀ V A c, Calls Tryd.prog 34 #[.slice A M.length c, .string RS] V fun e w' => e = .returned (.bool true) ∧ V = w'))
    (HA : Hid (∀ V A c, RowsAt V A M → Calls Tryd.prog 24 #[.slice A M.length c] V fun e w' => e = .returned (.int .i64 (F : Nat)) ∧ V = w'))
    (HL : Hid (∀ V, Calls Tryd.prog 27 #[.int .i64 (F : Nat)] V (LstR V G)))
    (HI4 : Hid (∀ V A c B d, Below w.heap.size w V → RowsAt V A M → IntsAt V B G → Calls Tryd.prog 32 #[.slice A M.length c, .slice B G.length d, .string (x ++ RS ++ y)] V (LstER V Z 0))) (_hG : G.length ≤ 9) (hZ : Z.length = 1) :
    Calls Tryd.prog 10 #[.slice A m c, .agg #[.string s0, .string s1], .slice B n d] w fun e w' => e = .returned (.bool true) ∧ Below w.heap.size w w' := by
  subst hre
  have b0 := Below.refl w.heap.size w
  have r0 : Row (w.alloc (.cells #[.string s0, .string s1] 65)) w.heap.size 65 [.string s0, .string s1] := row_new rfl
  replace b0 := b0.alloc (Nat.le_refl _) (.cells #[.string s0, .string s1] 65)
  have q1 : decide (P.length < U.length) = false := decide_eq_false (by omega)
  have q2 : decide (U.length < 1) = false := decide_eq_false (by omega)
  have q2' : decide ((U.length : Int) < 1) = false := decide_eq_false (by omega)
  have q3 : decide (U.length < O.length) = false := decide_eq_false (by omega)
  have hll : O.length ≤ 9 := by omega
  have HIN : Hid (∀ V A B c d, IntsAt V A O → IntsAt V B O → Calls Tryd.prog 25 #[.slice A O.length c, .slice B O.length d] V fun e w' => e = .returned (.bool true) ∧ ∃ n, w' = V.drewN n) := Lib.hid (fun V A B c d ha hb => by
    have := ints_any A B c d O O V (by omega) (by omega) ha hb
    rwa [decide_eq_true rfl] at this)
  have hzl : ((Z.length : Int) == 1) = true := by rw [hZ]; rfl
  have q5 : decide ((500 : Int) < (RS.size : Int)) = false := decide_eq_false (by omega)
  have q5' : decide (500 < RS.size) = false := decide_eq_false (by omega)
  have HZ := Lib.hid hZ
  have hx2 : x.size + RS.size ≤ 1000 := by omega
  have hx3 : x.size + RS.size + y.size ≤ 1000 := by omega
  have hx4 : (x ++ RS).size + y.size ≤ 1000 := by rw [ByteArray.size_append]; omega
  clear hZ hrs
  have hx1 : x.size + y.size ≤ 1000 := by omega
  clear hU hU1 hO hP hx hy hll
  go_enter Tryd.func10, Tryd.ntmps10
  go_wp2_with (go_at_call 44; refine HT.out.mono ?_; rintro e w1 ⟨A1, c1, rfl, ra, b1⟩; replace b0 := b0.trans (b1.mono b0.size); replace r0 := r0.below b1)
  have k0 : ∀ u : After w1, u.v.cell? ⟨w.heap.size, 0, none⟩ = some (.string s0) := fun u => After.cell (r0.cell 0) u
  have k1 : ∀ u : After w1, u.v.cell? ⟨w.heap.size, 1, none⟩ = some (.string s1) := fun u => After.cell (r0.cell 1) u
  clear r0 b1
  refine wp_region_class_tail (C := fun w' => ∃ u : After _, w' = u.v) 8 (by kernel_rfl) (by kernel_rfl) (isAfter_start _) ?_
  simp only [List.take_succ_cons, List.take_zero, List.drop_succ_cons, List.drop_zero]
  try simp only [Act.put]
  repeat (go_big_quiet_step ((first | (with_reducible refine (H1.out _ _ _).mono ?_; rintro e w8 ⟨rfl, b8⟩; exact ⟨rfl, After.done _ b8⟩) | (with_reducible refine (H2.out _ _ _).mono ?_; rintro e w8 ⟨rfl, b8⟩; exact ⟨rfl, After.done _ b8⟩))))
  refine wpQuiet_nil ?_
  rintro _ ⟨ua, rfl⟩
  have st3 := ra.below ua.h
  have b03 := b0.trans (ua.h.mono b0.size)
  clear k0 k1 ra b0 H1 H2 HT
  generalize ua.v = W3 at *
  go_wp2_with (first
    | (go_at_call 47; ((with_reducible refine (HS.out _ _ _ b03 st3).mono ?_); rintro e w4 ⟨A4, c4, rfl, i4, b4⟩); replace st3 := st3.below b4; replace b03 := b03.trans (b4.mono b03.size))
    | (go_at_call 17; ((with_reducible refine (HR.out _ _ _ b03 st3).mono ?_); rintro e w5 ⟨rfl, b5⟩); replace st3 := st3.below b5; replace i4 := i4.below b5; replace b03 := b03.trans (b5.mono b03.size))
    | (go_at_call 32; first
      | ((with_reducible refine (HI1.out _ _ _ _ _ b03 st3 i4).mono ?_); rintro e w6 ⟨A6, c6, rfl, i6, b6⟩; replace st3 := st3.below b6; replace i4 := i4.below b6; replace b03 := b03.trans (b6.mono b03.size))
      | ((with_reducible refine (HI2.out _ _ _ _ _ b03 st3 i6).mono ?_); rintro e w7 ⟨A7, c7, rfl, i7, b7⟩; replace st3 := st3.below b7; replace i4 := i4.below b7; replace i6 := i6.below b7; replace b03 := b03.trans (b7.mono b03.size))
      | ((with_reducible refine (HI3.out _ _ _ _ _ b03 st3 i4).mono ?_); rintro e w8 ⟨A8, c8, rfl, i8, b8⟩; replace st3 := st3.below b8; replace i7 := i7.below b8; replace b03 := b03.trans (b8.mono b03.size))
      | ((with_reducible refine (HI4.out _ _ _ _ _ b03 st3 i9).mono ?_); rintro e w10 ⟨A10, c10, rfl, i10, b10⟩; replace b03 := b03.trans (b10.mono b03.size); clear i10))
    | (go_at_call 25; ((with_reducible refine (HIN.out _ _ _ _ _ i7 i8).mono ?_); rintro e _ ⟨rfl, nq, rfl⟩); replace st3 := st3.below (below_drewN nq); replace b03 := b03.trans (below_drewN nq); generalize World.drewN _ nq = w9 at *)
    | (go_at_call 34; ((with_reducible refine (HW.out _ _ _).mono ?_); rintro e w11 ⟨rfl, rfl⟩))
    | (go_at_call 24; ((with_reducible refine (HA.out _ _ _ st3).mono ?_); rintro e w11 ⟨rfl, rfl⟩))
    | (go_at_call 27; ((with_reducible refine (HL.out _).mono ?_); rintro e w12 ⟨A9, c9, rfl, i9, b9⟩); replace st3 := st3.below b9; replace b03 := b03.trans (b9.mono b03.size))
    | (go_at_call 22; ((with_reducible refine (HAW.out _ b03).mono ?_); rintro e w13 ⟨rfl, b13⟩); replace b03 := b03.trans (b13.mono b03.size)))
  go_ret
  exact ⟨rfl, b03⟩
end Go.Proofs.YtignbpipdfjkeaaDoor
/- ClockInside: the walk for every input. -/
namespace Go.Proofs.YtignbpipdfjkeaaDoor
open Go.RowKit Go.PlainAid
set_option maxHeartbeats 2000000
set_option maxRecDepth 100000
section
variable {H : Type} {enc : TypeId × Value → H} {W : World}
theorem open_arr2s {r : Reach} {b0 : Nat} {v : Value} {d : DataW H} {p : List MemPlace} (hv : Value.okWide Tryd.prog W r b0 65 v) (h : DataW.Trod enc Tryd.prog W 0 (fun _ => true) true 65 v d p) :
    ∃ x y : ByteArray, v = .agg #[.string x, .string y] ∧ x.size ≤ maxLen ∧ y.size ≤ maxLen := by
  have hc : Tryd.prog.cellsOf 65 = 2 := by kernel_rfl
  have hc9 : Tryd.prog.cellsOf 9 = 1 := by kernel_rfl
  obtain ⟨cs, rfl, hs⟩ : ∃ cs, v = .agg cs ∧ cs.size = 2 := by
    simp only [Value.okWide, Tryd.underlying65] at hv
    obtain ⟨cs, h1, h2, _⟩ := hv
    exact ⟨cs, h1, by rw [h2, hc]⟩
  obtain ⟨fuel, hf⟩ := h
  obtain ⟨xs, k, _, _, _, hxl, hat⟩ := DataW.trod_array Tryd.underlying65 hf
  obtain ⟨l⟩ := cs
  match l, hs with
  | [c0, c1], _ =>
    have h0 := hat 0 (by omega)
    have h1 := hat 1 (by omega)
    rw [hc9, List.getElem?_eq_getElem (by omega)] at h0 h1
    obtain ⟨y0, e0, _, z0⟩ := DataW.trod_string Tryd.underlying9 h0
    obtain ⟨y1, e1, _, z1⟩ := DataW.trod_string Tryd.underlying9 h1
    simp [Value.cells] at e0 e1
    exact ⟨y0, y1, by rw [e0, e1], z0, z1⟩
end
/-- The word that word makes. -/
def wdM (k most : Nat) (s : ByteArray) : List Nat := wdP k s (min s.size most)
theorem wdM_ok {k : Nat} (hk : 1 ≤ k) (most : Nat) (s : ByteArray) : okW k (wdM k most s) := wdP_ok hk s _
theorem wdM_len (k most : Nat) (s : ByteArray) : (wdM k most s).length ≤ most := by unfold wdM; rw [wdP_len]; omega
theorem Image_set (A B : Option Addr) (c d : Nat) (M : List (List Int)) (S : Nat) (X : List Nat) (w : World) (h : IsMI M) (ha : RowsAt w A M) (hS : IsS (nS M) S) (hb : IntsAt w B (lsI S)) (hX : okW M.length X) (hl : X.length ≤ 1000) (ht : TabW w) :
    Calls Tryd.prog 32 #[.slice A M.length c, .slice B (lsI S).length d, .string (wS X)] w (LstER w (lsI (img (tabN M) S X)) 0) := by
  have h1 := set512 h.n9 hS
  have hk := h.k4
  have h9 := sz_le S
  have := Image_yes A B c d M (lsI S) (wS X) w h (by rw [lsI_len]; omega) ha hb (okS_ls h.n9 hS) (okB_wS hk hX hl) (by rw [wS_len]; omega) ht
  rw [setL_ls h1, imP_all (tabN M) S (fun b hb => by have := hX b hb; omega)] at this
  exact this.mono fun _ _ h => h.lst
theorem clockInside_any (A : Option Addr) (c : Nat) (L : List (List Int)) (s0 s1 : ByteArray) (B : Option Addr) (d : Nat) (l : List Int) (w : World) (ht : TabW w) (hx : L.length ≤ c) (hc : c ≤ maxLen) (ha : RowsIn w A L) (hs0 : s0.size ≤ maxLen) (hs1 : s1.size ≤ maxLen) (hl : l.length ≤ d) (hd : d ≤ maxLen) (hb : IntsAt w B l) :
    Calls Tryd.prog 10 #[.slice A L.length c, .agg #[.string s0, .string s1], .slice B l.length d] w fun e w' => e = .returned (.bool true) ∧ Below w.heap.size w w' := by
  unfold maxLen at hs0 hs1 hd
  obtain ⟨M, h, hT⟩ := tame_any A c L w hx hc ha
  have hn9 := h.n9
  have hk4 := h.k4
  have HAW := Lib.hid (fun (V : World) (hV : Below w.heap.size w V) => awake_any V (ht.below hV ht.lt))
  obtain ⟨X, hX⟩ : ∃ X, wdM M.length 60 s0 = X := ⟨_, rfl⟩
  obtain ⟨Y, hY⟩ : ∃ Y, wdM M.length 60 s1 = Y := ⟨_, rfl⟩
  have oX : okW M.length X := hX ▸ wdM_ok h.k1 60 s0
  have oY : okW M.length Y := hY ▸ wdM_ok h.k1 60 s1
  have lX : X.length ≤ 60 := hX ▸ wdM_len M.length 60 s0
  have lY : Y.length ≤ 60 := hY ▸ wdM_len M.length 60 s1
  obtain ⟨S, hS⟩ : ∃ S, stN l (nS M) = S := ⟨_, rfl⟩
  have iS : IsS (nS M) S := hS ▸ stN_set l (nS M)
  have nS0 : S ≠ 0 := hS ▸ stN_ne l h.n1
  have iU := img_set h.isM iS oX
  have H1 : Hid (∀ V A c, Calls Tryd.prog 46 #[.slice A M.length c, .string s0, .int .i64 60] V fun e w' => e = .returned (.string (wS X)) ∧ Below V.heap.size V w') := Lib.hid (fun V A c => by
    rw [← hX]; exact word_any A c M.length 60 s0 V h.k1 hk4 (by omega) (by decide))
  have H2 : Hid (∀ V A c, Calls Tryd.prog 46 #[.slice A M.length c, .string s1, .int .i64 60] V fun e w' => e = .returned (.string (wS Y)) ∧ Below V.heap.size V w') := Lib.hid (fun V A c => by
    rw [← hY]; exact word_any A c M.length 60 s1 V h.k1 hk4 (by omega) (by decide))
  have HS : Hid (∀ V A c, Below w.heap.size w V → RowsAt V A M → Calls Tryd.prog 47 #[.slice A M.length c, .slice B l.length d] V (LstR V (lsI S))) := Lib.hid (fun V A c hV ha => by
    rw [← hS]; exact (states_any A B c d M l V h ha (hb.below hV) (by omega)).mono fun _ _ h => h.lst)
  have HI1 : Hid (∀ V A c B d, Below w.heap.size w V → RowsAt V A M → IntsAt V B (lsI S) → Calls Tryd.prog 32 #[.slice A M.length c, .slice B (lsI S).length d, .string (wS X)] V (LstER V (lsI (img (tabN M) S X)) 0)) :=
    Lib.hid (fun V A c B d hV ha hb => Image_set A B c d M S X V h ha iS hb oX (by omega) (ht.below hV ht.lt))
  have HI2 : Hid (∀ V A c B d, Below w.heap.size w V → RowsAt V A M → IntsAt V B (lsI (img (tabN M) S X)) → Calls Tryd.prog 32 #[.slice A M.length c, .slice B (lsI (img (tabN M) S X)).length d, .string (wS Y)] V (LstER V (lsI (img (tabN M) S (X ++ Y))) 0)) :=
    Lib.hid (fun V A c B d hV ha hb => by rw [img_app]; exact Image_set A B c d M _ Y V h ha iU hb oY (by omega) (ht.below hV ht.lt))
  have HI3 : Hid (∀ V A c B d, Below w.heap.size w V → RowsAt V A M → IntsAt V B (lsI S) → Calls Tryd.prog 32 #[.slice A M.length c, .slice B (lsI S).length d, .string (wS X ++ wS Y)] V (LstER V (lsI (img (tabN M) S (X ++ Y))) 0)) :=
    Lib.hid (fun V A c B d hV ha hb => by rw [wS_app]; exact Image_set A B c d M S (X ++ Y) V h ha iS hb (okW_app.2 ⟨oX, oY⟩) (by rw [List.length_append]; omega) (ht.below hV ht.lt))
  have u1 := img_sz h.isM iS oX
  have u2 := sz_pos hn9 iU (img_ne h.isM iS nS0 oX)
  have u3 := img_sz h.isM iU oY
  rw [← img_app] at u3
  have u4 := sz_le S
  have HRS := fun (V : World) A c (hV : Below w.heap.size w V) ha => Reset_yes A c M V h ha (ht.below hV ht.lt)
  have hw0 : Below w.heap.size w (w.alloc (.cells #[.string s0, .string s1] 65)) := (Below.refl _ w).alloc (Nat.le_refl _) _
  have HT := Lib.hid (hT _ hw0)
  cases hR : rsX M with
  | none =>
    rw [hR] at HRS
    exact cin_none A B L.length c l.length d s0 s1 (wS X) (wS Y) ⟨#[]⟩ 0 6 w M _ _ _ rfl HT HAW H1 H2 HS (Lib.hid HRS) HI1 HI2 HI3 (by rw [lsI_len, lsI_len]; exact u1) (by rw [lsI_len]; exact u2) (by rw [lsI_len, lsI_len]; exact u3) (by rw [lsI_len]; exact u4) (by rw [wS_len]; exact lX) (by rw [wS_len]; exact lY)
  | some r =>
    obtain ⟨t, x⟩ := r
    rw [hR] at HRS
    have hF := full_set (n := nS M) h.n1
    obtain ⟨ox, ix, gx, -⟩ := seek_some h.isM hF hR
    have lx := seek_short h.isM hR
    have hz := reset_inside h.isM oX ox oY (by rw [ix]; exact of_decide_eq_true gx)
    have HW : Hid (∀ V A c, Calls Tryd.prog 34 #[.slice A M.length c, .string (wS x)] V fun e w' => e = .returned (.bool true) ∧ V = w') := Lib.hid (fun V A c => by
      have := refWord_any A c M.length (wS x) V (by rw [wS_len]; omega) (by omega)
      rwa [okB_wS hk4 ox (by omega)] at this)
    have HA : Hid (∀ V A c, RowsAt V A M → Calls Tryd.prog 24 #[.slice A M.length c] V fun e w' => e = .returned (.int .i64 ((2 ^ nS M - 1 : Nat) : Nat)) ∧ V = w') := Lib.hid (fun V A c ha => refAll_any A c M V h ha)
    have HL : Hid (∀ V, Calls Tryd.prog 27 #[.int .i64 ((2 ^ nS M - 1 : Nat) : Nat)] V (LstR V (lsI (2 ^ nS M - 1)))) := Lib.hid (fun V => (refList_any _ V (set512 hn9 hF)).mono fun _ _ h => h.lst)
    have HI4 : Hid (∀ V A c B d, Below w.heap.size w V → RowsAt V A M → IntsAt V B (lsI (2 ^ nS M - 1)) → Calls Tryd.prog 32 #[.slice A M.length c, .slice B (lsI (2 ^ nS M - 1)).length d, .string (wS X ++ wS x ++ wS Y)] V (LstER V (lsI (img (tabN M) (2 ^ nS M - 1) (X ++ (x ++ Y)))) 0)) :=
      Lib.hid (fun V A c B d hV ha hb => by
        rw [wS_app, wS_app, List.append_assoc]
        exact Image_set A B c d M _ _ V h ha hF hb (okW_app.2 ⟨oX, okW_app.2 ⟨ox, oY⟩⟩) (by rw [List.length_append, List.length_append]; omega) (ht.below hV ht.lt))
    exact cin_some A B L.length c l.length d s0 s1 (wS X) (wS Y) (wS x) (tzS t) 0 w M _ _ _ _ _ (2 ^ nS M - 1) rfl HT HAW H1 H2 HS (Lib.hid HRS) HI1 HI2 HI3 (by rw [lsI_len, lsI_len]; exact u1) (by rw [lsI_len]; exact u2) (by rw [lsI_len, lsI_len]; exact u3) (by rw [lsI_len]; exact u4) (by rw [wS_len]; exact lX) (by rw [wS_len]; exact lY) (by rw [wS_len]; exact lx) HW HA HL HI4 (by rw [lsI_len]; exact sz_le _) (by rw [lsI_len]; exact hz)
end Go.Proofs.YtignbpipdfjkeaaDoor
