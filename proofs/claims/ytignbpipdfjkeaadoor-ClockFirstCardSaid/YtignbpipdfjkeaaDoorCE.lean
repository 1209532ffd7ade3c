/- ClockFirst: which words come first; its walk. -/
import Derived.Test.YtignbpipdfjkeaaDoorCC
import Derived.Test.YtignbpipdfjkeaaDoorBT
import Derived.Test.YtignbpipdfjkeaaDoorBE
namespace Go.Proofs.YtignbpipdfjkeaaDoor
open Go.RowKit Go.PlainAid
set_option maxHeartbeats 2000000
set_option maxRecDepth 100000
theorem wS_list (x : List Nat) : (wS x).toList = x.map fun b => UInt8.ofNat (97 + b) := by
  rw [ByteArray.toList_eq]
  unfold wS wI
  rw [strOfNums_data, List.map_map]
  refine List.map_congr_left (fun b _ => ?_)
  show UInt8.ofNat (97 + (b : Int)).toNat = _
  congr 1
theorem vw_fold : ∀ (x : List Nat) (a : Nat), x.foldl (fun a b => 4 * a + b + 1) a = a * 4 ^ x.length + vw x
  | [], a => by simp [vw]
  | b :: x, a => by
    have e1 : vw (b :: x) = x.foldl (fun a b => 4 * a + b + 1) (4 * 0 + b + 1) := rfl
    rw [e1, List.foldl_cons, vw_fold x, vw_fold x, List.length_cons, Nat.pow_succ]
    generalize 4 ^ x.length = E
    have h1 : (4 * a + b + 1) * E = a * (E * 4) + (4 * 0 + b + 1) * E := by
      rw [show 4 * a + b + 1 = a * 4 + (b + 1) by omega, show 4 * 0 + b + 1 = b + 1 by omega, Nat.add_mul, Nat.mul_assoc, Nat.mul_comm 4 E]
    omega
theorem vw_cons (b : Nat) (x : List Nat) : vw (b :: x) = (b + 1) * 4 ^ x.length + vw x := by
  have h := vw_fold x (4 * 0 + b + 1)
  have e1 : vw (b :: x) = x.foldl (fun a b => 4 * a + b + 1) (4 * 0 + b + 1) := rfl
  rw [e1, h, show 4 * 0 + b + 1 = b + 1 by omega]
theorem okW_cons {k b : Nat} {x : List Nat} (h : okW k (b :: x)) : b < k ∧ okW k x := ⟨h b (by simp), fun c hc => h c (by simp [hc])⟩
/-- A word that comes before in the order of words comes before in the order of strings. -/
theorem less_vw : ∀ (x y : List Nat), okW 4 x → okW 4 y → x.length = y.length → Op.bytesLess (x.map fun b => UInt8.ofNat (97 + b)) (y.map fun b => UInt8.ofNat (97 + b)) = true → vw x < vw y
  | [], [], _, _, _, h => by cases h
  | [], _ :: _, _, _, h, _ => by cases h
  | _ :: _, [], _, _, h, _ => by cases h
  | a :: x, b :: y, hx, hy, hl, h => by
    obtain ⟨ha, ox⟩ := okW_cons hx
    obtain ⟨hb, oy⟩ := okW_cons hy
    clear hx hy
    have hl' : x.length = y.length := by simpa using hl
    have hn : ∀ c, c < 4 → (UInt8.ofNat (97 + c)).toNat = 97 + c := fun c hc => by simp [UInt8.toNat_ofNat]; omega
    rw [vw_cons, vw_cons, hl']
    have e : (decide (UInt8.ofNat (97 + a) < UInt8.ofNat (97 + b)) || (UInt8.ofNat (97 + a) == UInt8.ofNat (97 + b) && Op.bytesLess (x.map fun b => UInt8.ofNat (97 + b)) (y.map fun b => UInt8.ofNat (97 + b)))) = true := h
    rw [Bool.or_eq_true, Bool.and_eq_true, decide_eq_true_eq, beq_iff_eq, UInt8.lt_iff_toNat_lt, hn a ha, hn b hb] at e
    rcases e with h1 | ⟨h1, h2⟩
    · obtain ⟨-, l2⟩ := vw_len _ x rfl ox
      obtain ⟨l3, -⟩ := vw_len _ y rfl oy
      rw [hl', Nat.pow_succ] at l2
      have h3 : (a + 1) * 4 ^ y.length + 4 ^ y.length ≤ (b + 1) * 4 ^ y.length := by
        have h4 := Nat.mul_le_mul_right (4 ^ y.length) (show a + 1 + 1 ≤ b + 1 by omega)
        rwa [Nat.add_mul (a + 1) 1, Nat.one_mul] at h4
      omega
    · have hab : a = b := by
        have := congrArg UInt8.toNat h1
        rw [hn a ha, hn b hb] at this
        omega
      subst hab
      have := less_vw x y ox oy hl' h2
      omega
theorem later_no {x y : List Nat} (hx : okW 4 x) (hy : okW 4 y) (h : vw x ≤ vw y) : ltrB (wS x) (wS y) = false := by
  have hl := vw_le_len hx hy h
  unfold ltrB
  rw [wS_len, wS_len, decide_eq_false (by omega), Bool.false_or]
  by_cases e : x.length = y.length
  · rw [decide_eq_true e, Bool.true_and, wS_list, wS_list]
    cases h1 : Op.bytesLess (x.map fun b => UInt8.ofNat (97 + b)) (y.map fun b => UInt8.ofNat (97 + b))
    · cases h2 : (x.map fun b => UInt8.ofNat (97 + b)) == (y.map fun b => UInt8.ofNat (97 + b))
      · exfalso
        have hne : ¬ (x.map fun b => UInt8.ofNat (97 + b)) = (y.map fun b => UInt8.ofNat (97 + b)) := beq_eq_false_iff_ne.1 h2
        have key : ∀ (a b : List UInt8), a.length = b.length → Op.bytesLess a b = false → a ≠ b → Op.bytesLess b a = true := by
          intro a
          induction a with
          | nil => intro b hl _ hne; cases b with
            | nil => exact absurd rfl hne
            | cons _ _ => cases hl
          | cons p a ih =>
            intro b hl h1 hne
            cases b with
            | nil => cases hl
            | cons q b =>
              have e1 : (decide (p < q) || (p == q && Op.bytesLess a b)) = false := h1
              show (decide (q < p) || (q == p && Op.bytesLess b a)) = true
              rw [Bool.or_eq_false_iff, decide_eq_false_iff_not] at e1
              by_cases hpq : p = q
              · subst hpq
                rw [beq_self_eq_true, Bool.true_and] at e1 ⊢
                rw [ih b (by simpa using hl) e1.2 (fun e => hne (by rw [e])), Bool.or_true]
              · have : q < p := by
                  rw [UInt8.lt_iff_toNat_lt] at e1 ⊢
                  have h3 : ¬ p.toNat = q.toNat := fun e => hpq (UInt8.toNat_inj.1 e)
                  have h4 := e1.1
                  omega
                rw [decide_eq_true this, Bool.true_or]
        have := less_vw y x hy hx e.symm (key _ _ (by simp [e]) h1 hne)
        omega
      · rfl
    · rfl
  · rw [decide_eq_false e, Bool.false_and]
theorem lsI_one {p : Nat} (hp : p < 9) : lsI (2 ^ p) = [(p : Int)] := by
  have : ∀ q : Nat, q < 9 → lsI (2 ^ q) = [(q : Int)] := by decide +kernel
  exact this p hp
theorem Lead_set (A B C : Option Addr) (c d d2 : Nat) (M : List (List Int)) (a b : Nat) (V : World) (z : Nat) (x : List Nat) (h : IsMI M) (ha : RowsAt V A M) (h1 : IsS (nS M) a) (z1 : a ≠ 0) (h2 : IsS (nS M) b) (z2 : b ≠ 0)
    (hb : IntsAt V B (lsI a)) (hf : IntsAt V C (lsI b)) (ht : TabW V) (hX : ldX M a b = some (z, x)) :
    Calls Tryd.prog 37 #[.slice A M.length c, .slice B (lsI a).length d, .slice C (lsI b).length d2] V fun e w' => e = .returned (.tuple #[.string (wS x), .int .i64 0]) ∧ Below V.heap.size V w' := by
  have ho := okS_ls h.n9 h1
  have hp := okS_ls h.n9 h2
  have ea := setL_ls (set512 h.n9 h1)
  have eb := setL_ls (set512 h.n9 h2)
  have l1 : (lsI a).length ≤ 1000 := by rw [lsI_len]; have := sz_le a; omega
  have l2 : (lsI b).length ≤ 1000 := by rw [lsI_len]; have := sz_le b; omega
  have HS1 : ∀ U, Below V.heap.size V U → Calls Tryd.prog 61 #[.agg (iv (mc M)).toArray, .slice B (lsI a).length d] U fun e w' => e = .returned (.tuple #[.int .u16 (a : Nat), .bool true]) ∧ Below U.heap.size U w' := fun U hU => by
    have := readSet_any M B d (lsI a) U h l1 (hb.below hU)
    rwa [setR_yes ho, ho, ea] at this
  have HS2 : ∀ U, Below V.heap.size V U → Calls Tryd.prog 61 #[.agg (iv (mc M)).toArray, .slice C (lsI b).length d2] U fun e w' => e = .returned (.tuple #[.int .u16 (b : Nat), .bool true]) ∧ Below U.heap.size U w' := fun U hU => by
    have := readSet_any M C d2 (lsI b) U h l2 (hf.below hU)
    rwa [setR_yes hp, hp, eb] at this
  have s2 := set512 h.n9 h2
  refine lead_some A B C c d d2 M (lsI a) (lsI b) V (Lib.hid (rm_yes A c M V h ha)) a b (Lib.hid HS1) (Lib.hid HS2) (wS x) z (by rw [beq_eq_false_iff_ne]; omega) (by rw [beq_eq_false_iff_ne]; omega) (Lib.hid (fun U P hU hc => ?_))
  have := search67 M a P (fun t => decide (t = b)) U h h1 z1 (ht.below hU ht.lt) (fun t X ht5 hX => leadIs_any t b P X ht5 s2 ((hX.cell (p := ⟨P, 0, none⟩) (block_lt_of_cell hc)).trans hc))
  rw [show seek (tabN M) M.length a (fun t => decide (t = b)) = some (z, x) from hX] at this
  exact this
theorem cfi_yy (A : Option Addr) (m c n p q : Nat) (y0 y1 : Int) (s t RS u v : ByteArray) (RQ RE UE : Int) (w : World) (M : List (List Int)) (Ip Ia Iq Za Zq F : Nat) (LI : List Int)
    (HT : Hid (Calls Tryd.prog 44 #[.slice A m c] (w.alloc (.cells #[.int .i64 y0, .int .i64 y1] 43)) (TabM (w.alloc (.cells #[.int .i64 y0, .int .i64 y1] 43)) M))) (hn : nS M = n) (hk1 : 1 ≤ M.length) (hp : p < n) (hq : q < n) (hn9 : n ≤ 9)
    (HAW : Hid (∀ V, Below w.heap.size w V → Calls Tryd.prog 22 #[] V fun e w' => e = .returned (.bool true) ∧ Below V.heap.size V w'))
    (H1 : Hid (∀ V, Calls Tryd.prog 48 #[.int .i64 y0, .int .i64 n] V fun e w' => e = .returned (.int .i64 p) ∧ Below V.heap.size V w'))
    (H2 : Hid (∀ V, Calls Tryd.prog 48 #[.int .i64 y1, .int .i64 n] V fun e w' => e = .returned (.int .i64 q) ∧ Below V.heap.size V w'))
    (H3 : Hid (∀ V A c, Calls Tryd.prog 46 #[.slice A M.length c, .string s, .int .i64 12] V fun e w' => e = .returned (.string t) ∧ Below V.heap.size V w'))
    (HR : Hid (∀ V A c, Below w.heap.size w V → RowsAt V A M → Calls Tryd.prog 17 #[.slice A M.length c] V fun e w' => e = .returned (.tuple #[.string RS, .int .i64 RQ, .int .i64 RE]) ∧ Below V.heap.size V w'))
    (HM : Hid (∀ V A c, Below w.heap.size w V → RowsAt V A M → Calls Tryd.prog 29 #[.slice A M.length c, .int .i64 p, .int .i64 q] V fun e w' => e = .returned (.tuple #[.string u, .int .i64 UE]) ∧ Below V.heap.size V w'))
    (HI1 : Hid (∀ V A c, RowsAt V A M → Calls Tryd.prog 35 #[.slice A M.length c, .int .i64 (wrap64 ((2 : Int) ^ p)), .string t] V fun e w' => e = .returned (.int .i64 (Ip : Nat)) ∧ Below V.heap.size V w'))
    (HL : Hid (∀ V, Calls Tryd.prog 27 #[.int .i64 (Ip : Nat)] V (LstR V LI)))
    (HD : Hid (∀ V A B C c d d2, Below w.heap.size w V → RowsAt V A M → IntsAt V B [(p : Int)] → IntsAt V C LI → Calls Tryd.prog 37 #[.slice A M.length c, .slice B 1 d, .slice C LI.length d2] V fun e w' => e = .returned (.tuple #[.string v, .int .i64 0]) ∧ Below V.heap.size V w'))
    (H4 : Hid (∀ V, Calls Tryd.prog 49 #[.string v, .string t] V fun e w' => e = .returned (.bool false) ∧ V = w'))
    (HA : Hid (∀ V A c, RowsAt V A M → Calls Tryd.prog 24 #[.slice A M.length c] V fun e w' => e = .returned (.int .i64 (F : Nat)) ∧ V = w'))
    (HI2 : Hid (∀ V A c, RowsAt V A M → Calls Tryd.prog 35 #[.slice A M.length c, .int .i64 (F : Nat), .string t] V fun e w' => e = .returned (.int .i64 (Ia : Nat)) ∧ Below V.heap.size V w'))
    (HZ2 : Hid (∀ V, Calls Tryd.prog 45 #[.int .i64 (Ia : Nat)] V fun e w' => e = .returned (.int .i64 (Za : Nat)) ∧ Below V.heap.size V w'))
    (HI3 : Hid (∀ V A c, RowsAt V A M → Calls Tryd.prog 35 #[.slice A M.length c, .int .i64 (bits BinOp.or IntKind.i64 (wrap64 ((2 : Int) ^ p)) (wrap64 ((2 : Int) ^ q))), .string t] V fun e w' => e = .returned (.int .i64 (Iq : Nat)) ∧ Below V.heap.size V w'))
    (HZ3 : Hid (∀ V, Calls Tryd.prog 45 #[.int .i64 (Iq : Nat)] V fun e w' => e = .returned (.int .i64 (Zq : Nat)) ∧ Below V.heap.size V w'))
    (hza : ((Za : Int) == 1) = true) (hre : RE = 0) (H5 : Hid (∀ V, Calls Tryd.prog 49 #[.string RS, .string t] V fun e w' => e = .returned (.bool false) ∧ V = w'))
    (hzq : decide (1 < Zq) = true) :
    Calls Tryd.prog 11 #[.slice A m c, .agg #[.int .i64 y0, .int .i64 y1], .string s] w fun e w' => e = .returned (.bool true) ∧ Below w.heap.size w w' := by
  subst hre
  have b0 := Below.refl w.heap.size w
  have Hn := Lib.hid hn
  have r0 : Row (w.alloc (.cells #[.int .i64 y0, .int .i64 y1] 43)) w.heap.size 43 [.int .i64 y0, .int .i64 y1] := row_new rfl
  replace b0 := b0.alloc (Nat.le_refl _) (.cells #[.int .i64 y0, .int .i64 y1] 43)
  have hzq' : decide ((1 : Int) < (Zq : Int)) = true := by rw [← hzq, decide_eq_decide]; omega
  clear hn
  go_enter Tryd.func11, Tryd.ntmps11
  go_wp2_with (go_at_call 44; refine HT.out.mono ?_; rintro e w1 ⟨A1, c1, rfl, ra, b1⟩; replace b0 := b0.trans (b1.mono b0.size); replace r0 := r0.below b1; have ra0 := ra; obtain ⟨bA, oA, hA, hbA, hcA⟩ := ra0 hk1; subst hA; obtain ⟨B0, c00, d0, -⟩ := hcA 0 hk1; rw [show (getl M 0).length = nS M from rfl, Hn.out, Nat.add_zero] at d0; clear hcA)
  have k0 : ∀ u : After w1, u.v.cell? ⟨w.heap.size, 0, none⟩ = some (.int .i64 y0) := fun u => After.cell (r0.cell 0) u
  have k1 : ∀ u : After w1, u.v.cell? ⟨w.heap.size, 1, none⟩ = some (.int .i64 y1) := fun u => After.cell (r0.cell 1) u
  clear r0 b1 d0
  refine wp_region_class_tail (C := fun w' => ∃ u : After _, w' = u.v) 8 (by kernel_rfl) (by kernel_rfl) (isAfter_start _) ?_
  simp only [List.take_succ_cons, List.take_zero, List.drop_succ_cons, List.drop_zero]
  try simp only [Act.put]
  repeat (go_big_quiet_step ((first | (with_reducible refine (H1.out _).mono ?_; rintro e w8 ⟨rfl, b8⟩; exact ⟨rfl, After.done _ b8⟩) | (with_reducible refine (H2.out _).mono ?_; rintro e w8 ⟨rfl, b8⟩; exact ⟨rfl, After.done _ b8⟩))))
  refine wpQuiet_nil ?_
  rintro _ ⟨ua, rfl⟩
  have st3 := ra.below ua.h
  have b03 := b0.trans (ua.h.mono b0.size)
  clear k0 k1 ra b0 H1 H2 HT hbA
  generalize ua.v = W3 at *
  go_wp2_with (first
    | (go_at_call 46; ((with_reducible refine (H3.out _ _ _).mono ?_); rintro e w4 ⟨rfl, b4⟩); replace st3 := st3.below b4; replace b03 := b03.trans (b4.mono b03.size))
    | (go_at_call 17; ((with_reducible refine (HR.out _ _ _ b03 st3).mono ?_); rintro e w5 ⟨rfl, b5⟩); replace st3 := st3.below b5; replace b03 := b03.trans (b5.mono b03.size))
    | (go_at_call 29; ((with_reducible refine (HM.out _ _ _ b03 st3).mono ?_); rintro e w6 ⟨rfl, b6⟩); replace st3 := st3.below b6; replace b03 := b03.trans (b6.mono b03.size))
    | (go_at_call 35; first
      | ((with_reducible refine (HI1.out _ _ _ st3).mono ?_); rintro e w7 ⟨rfl, b7⟩; replace st3 := (st3.below b7).below ((Below.refl _ w7).alloc (Nat.le_refl _) (.cells #[.int .i64 (p : Int)] 3)); replace b03 := (b03.trans (b7.mono b03.size)).alloc (by have := b03.size; have := b7.size; omega) (.cells #[.int .i64 (p : Int)] 3); have i7 : IntsAt (w7.alloc (.cells #[.int .i64 (p : Int)] 3)) (some ⟨w7.heap.size, 0, none⟩) [(p : Int)] := row_ints (xs := [p]) (row_new rfl))
      | ((with_reducible refine (HI2.out _ _ _ st3).mono ?_); rintro e w10 ⟨rfl, b10⟩; replace st3 := st3.below b10; replace b03 := b03.trans (b10.mono b03.size)))
    | (go_at_call 27; ((with_reducible refine (HL.out _).mono ?_); rintro e w8 ⟨A9, c9, rfl, i9, b8⟩); replace st3 := st3.below b8; replace b03 := b03.trans (b8.mono b03.size); replace i7 := i7.below b8)
    | (go_at_call 37; ((with_reducible refine (HD.out _ _ _ _ _ _ _ b03 st3 i7 i9).mono ?_); rintro e w9 ⟨rfl, b9⟩); replace st3 := st3.below b9; replace b03 := b03.trans (b9.mono b03.size); clear i7 i9)
    | (go_at_call 49; first | ((with_reducible refine (H4.out _).mono ?_); rintro e w11 ⟨rfl, rfl⟩) | ((with_reducible refine (H5.out _).mono ?_); rintro e w11 ⟨rfl, rfl⟩))
    | (go_at_call 24; ((with_reducible refine (HA.out _ _ _ st3).mono ?_); rintro e w11 ⟨rfl, rfl⟩))
    | (go_at_call 45; ((with_reducible refine (HZ2.out _).mono ?_); rintro e w12 ⟨rfl, b12⟩); replace st3 := st3.below b12; replace b03 := b03.trans (b12.mono b03.size)))
  have HI4 := Lib.hid (fun (u : After _) => HI3.out u.v _ c1 (st3.below u.h))
  have HAW2 := Lib.hid (fun (u : After _) => HAW.out u.v (b03.trans (u.h.mono b03.size)))
  refine wp_region_class_all (C := fun w' => ∃ u : After _, w' = u.v) (by kernel_rfl) (by kernel_rfl) (isAfter_start _) ?_
  try simp only [Act.put]
  repeat (go_big_quiet_step ((first | (with_reducible refine (HI4.out _).mono ?_; rintro e w8 ⟨rfl, b8⟩; exact ⟨rfl, After.done _ b8⟩) | (with_reducible refine (HZ3.out _).mono ?_; rintro e w8 ⟨rfl, b8⟩; exact ⟨rfl, After.done _ b8⟩) | (with_reducible refine (HAW2.out _).mono ?_; rintro e w8 ⟨rfl, b8⟩; exact ⟨rfl, After.done _ b8⟩))))
  refine wpQuiet_nil ?_
  rintro _ ⟨ua, rfl⟩
  go_wp2
  go_ret
  exact ⟨rfl, b03.trans (ua.h.mono b03.size)⟩
theorem cfi_yn (A : Option Addr) (m c n p q : Nat) (y0 y1 : Int) (s t RS u v : ByteArray) (RQ RE UE : Int) (w : World) (M : List (List Int)) (Ip Ia Iq Za Zq F : Nat) (LI : List Int)
    (HT : Hid (Calls Tryd.prog 44 #[.slice A m c] (w.alloc (.cells #[.int .i64 y0, .int .i64 y1] 43)) (TabM (w.alloc (.cells #[.int .i64 y0, .int .i64 y1] 43)) M))) (hn : nS M = n) (hk1 : 1 ≤ M.length) (hp : p < n) (hq : q < n) (hn9 : n ≤ 9)
    (HAW : Hid (∀ V, Below w.heap.size w V → Calls Tryd.prog 22 #[] V fun e w' => e = .returned (.bool true) ∧ Below V.heap.size V w'))
    (H1 : Hid (∀ V, Calls Tryd.prog 48 #[.int .i64 y0, .int .i64 n] V fun e w' => e = .returned (.int .i64 p) ∧ Below V.heap.size V w'))
    (H2 : Hid (∀ V, Calls Tryd.prog 48 #[.int .i64 y1, .int .i64 n] V fun e w' => e = .returned (.int .i64 q) ∧ Below V.heap.size V w'))
    (H3 : Hid (∀ V A c, Calls Tryd.prog 46 #[.slice A M.length c, .string s, .int .i64 12] V fun e w' => e = .returned (.string t) ∧ Below V.heap.size V w'))
    (HR : Hid (∀ V A c, Below w.heap.size w V → RowsAt V A M → Calls Tryd.prog 17 #[.slice A M.length c] V fun e w' => e = .returned (.tuple #[.string RS, .int .i64 RQ, .int .i64 RE]) ∧ Below V.heap.size V w'))
    (HM : Hid (∀ V A c, Below w.heap.size w V → RowsAt V A M → Calls Tryd.prog 29 #[.slice A M.length c, .int .i64 p, .int .i64 q] V fun e w' => e = .returned (.tuple #[.string u, .int .i64 UE]) ∧ Below V.heap.size V w'))
    (HI1 : Hid (∀ V A c, RowsAt V A M → Calls Tryd.prog 35 #[.slice A M.length c, .int .i64 (wrap64 ((2 : Int) ^ p)), .string t] V fun e w' => e = .returned (.int .i64 (Ip : Nat)) ∧ Below V.heap.size V w'))
    (HL : Hid (∀ V, Calls Tryd.prog 27 #[.int .i64 (Ip : Nat)] V (LstR V LI)))
    (HD : Hid (∀ V A B C c d d2, Below w.heap.size w V → RowsAt V A M → IntsAt V B [(p : Int)] → IntsAt V C LI → Calls Tryd.prog 37 #[.slice A M.length c, .slice B 1 d, .slice C LI.length d2] V fun e w' => e = .returned (.tuple #[.string v, .int .i64 0]) ∧ Below V.heap.size V w'))
    (H4 : Hid (∀ V, Calls Tryd.prog 49 #[.string v, .string t] V fun e w' => e = .returned (.bool false) ∧ V = w'))
    (HA : Hid (∀ V A c, RowsAt V A M → Calls Tryd.prog 24 #[.slice A M.length c] V fun e w' => e = .returned (.int .i64 (F : Nat)) ∧ V = w'))
    (HI2 : Hid (∀ V A c, RowsAt V A M → Calls Tryd.prog 35 #[.slice A M.length c, .int .i64 (F : Nat), .string t] V fun e w' => e = .returned (.int .i64 (Ia : Nat)) ∧ Below V.heap.size V w'))
    (HZ2 : Hid (∀ V, Calls Tryd.prog 45 #[.int .i64 (Ia : Nat)] V fun e w' => e = .returned (.int .i64 (Za : Nat)) ∧ Below V.heap.size V w'))
    (HI3 : Hid (∀ V A c, RowsAt V A M → Calls Tryd.prog 35 #[.slice A M.length c, .int .i64 (bits BinOp.or IntKind.i64 (wrap64 ((2 : Int) ^ p)) (wrap64 ((2 : Int) ^ q))), .string t] V fun e w' => e = .returned (.int .i64 (Iq : Nat)) ∧ Below V.heap.size V w'))
    (HZ3 : Hid (∀ V, Calls Tryd.prog 45 #[.int .i64 (Iq : Nat)] V fun e w' => e = .returned (.int .i64 (Zq : Nat)) ∧ Below V.heap.size V w'))
    (hza : ((Za : Int) == 1) = true) (hre : RE = 0) (H5 : Hid (∀ V, Calls Tryd.prog 49 #[.string RS, .string t] V fun e w' => e = .returned (.bool false) ∧ V = w'))
    (hzq : decide (1 < Zq) = false) (hue : UE = 0) (H6 : Hid (∀ V, Calls Tryd.prog 49 #[.string u, .string t] V fun e w' => e = .returned (.bool false) ∧ Below V.heap.size V w')) :
    Calls Tryd.prog 11 #[.slice A m c, .agg #[.int .i64 y0, .int .i64 y1], .string s] w fun e w' => e = .returned (.bool true) ∧ Below w.heap.size w w' := by
  subst hre
  subst hue
  have b0 := Below.refl w.heap.size w
  have Hn := Lib.hid hn
  have r0 : Row (w.alloc (.cells #[.int .i64 y0, .int .i64 y1] 43)) w.heap.size 43 [.int .i64 y0, .int .i64 y1] := row_new rfl
  replace b0 := b0.alloc (Nat.le_refl _) (.cells #[.int .i64 y0, .int .i64 y1] 43)
  have hzq' : decide ((1 : Int) < (Zq : Int)) = false := by rw [← hzq, decide_eq_decide]; omega
  clear hn
  go_enter Tryd.func11, Tryd.ntmps11
  go_wp2_with (go_at_call 44; refine HT.out.mono ?_; rintro e w1 ⟨A1, c1, rfl, ra, b1⟩; replace b0 := b0.trans (b1.mono b0.size); replace r0 := r0.below b1; have ra0 := ra; obtain ⟨bA, oA, hA, hbA, hcA⟩ := ra0 hk1; subst hA; obtain ⟨B0, c00, d0, -⟩ := hcA 0 hk1; rw [show (getl M 0).length = nS M from rfl, Hn.out, Nat.add_zero] at d0; clear hcA)
  have k0 : ∀ u : After w1, u.v.cell? ⟨w.heap.size, 0, none⟩ = some (.int .i64 y0) := fun u => After.cell (r0.cell 0) u
  have k1 : ∀ u : After w1, u.v.cell? ⟨w.heap.size, 1, none⟩ = some (.int .i64 y1) := fun u => After.cell (r0.cell 1) u
  clear r0 b1 d0
  refine wp_region_class_tail (C := fun w' => ∃ u : After _, w' = u.v) 8 (by kernel_rfl) (by kernel_rfl) (isAfter_start _) ?_
  simp only [List.take_succ_cons, List.take_zero, List.drop_succ_cons, List.drop_zero]
  try simp only [Act.put]
  repeat (go_big_quiet_step ((first | (with_reducible refine (H1.out _).mono ?_; rintro e w8 ⟨rfl, b8⟩; exact ⟨rfl, After.done _ b8⟩) | (with_reducible refine (H2.out _).mono ?_; rintro e w8 ⟨rfl, b8⟩; exact ⟨rfl, After.done _ b8⟩))))
  refine wpQuiet_nil ?_
  rintro _ ⟨ua, rfl⟩
  have st3 := ra.below ua.h
  have b03 := b0.trans (ua.h.mono b0.size)
  clear k0 k1 ra b0 H1 H2 HT hbA
  generalize ua.v = W3 at *
  go_wp2_with (first
    | (go_at_call 46; ((with_reducible refine (H3.out _ _ _).mono ?_); rintro e w4 ⟨rfl, b4⟩); replace st3 := st3.below b4; replace b03 := b03.trans (b4.mono b03.size))
    | (go_at_call 17; ((with_reducible refine (HR.out _ _ _ b03 st3).mono ?_); rintro e w5 ⟨rfl, b5⟩); replace st3 := st3.below b5; replace b03 := b03.trans (b5.mono b03.size))
    | (go_at_call 29; ((with_reducible refine (HM.out _ _ _ b03 st3).mono ?_); rintro e w6 ⟨rfl, b6⟩); replace st3 := st3.below b6; replace b03 := b03.trans (b6.mono b03.size))
    | (go_at_call 35; first
      | ((with_reducible refine (HI1.out _ _ _ st3).mono ?_); rintro e w7 ⟨rfl, b7⟩; replace st3 := (st3.below b7).below ((Below.refl _ w7).alloc (Nat.le_refl _) (.cells #[.int .i64 (p : Int)] 3)); replace b03 := (b03.trans (b7.mono b03.size)).alloc (by have := b03.size; have := b7.size; omega) (.cells #[.int .i64 (p : Int)] 3); have i7 : IntsAt (w7.alloc (.cells #[.int .i64 (p : Int)] 3)) (some ⟨w7.heap.size, 0, none⟩) [(p : Int)] := row_ints (xs := [p]) (row_new rfl))
      | ((with_reducible refine (HI2.out _ _ _ st3).mono ?_); rintro e w10 ⟨rfl, b10⟩; replace st3 := st3.below b10; replace b03 := b03.trans (b10.mono b03.size)))
    | (go_at_call 27; ((with_reducible refine (HL.out _).mono ?_); rintro e w8 ⟨A9, c9, rfl, i9, b8⟩); replace st3 := st3.below b8; replace b03 := b03.trans (b8.mono b03.size); replace i7 := i7.below b8)
    | (go_at_call 37; ((with_reducible refine (HD.out _ _ _ _ _ _ _ b03 st3 i7 i9).mono ?_); rintro e w9 ⟨rfl, b9⟩); replace st3 := st3.below b9; replace b03 := b03.trans (b9.mono b03.size); clear i7 i9)
    | (go_at_call 49; first | ((with_reducible refine (H4.out _).mono ?_); rintro e w11 ⟨rfl, rfl⟩) | ((with_reducible refine (H5.out _).mono ?_); rintro e w11 ⟨rfl, rfl⟩))
    | (go_at_call 24; ((with_reducible refine (HA.out _ _ _ st3).mono ?_); rintro e w11 ⟨rfl, rfl⟩))
    | (go_at_call 45; ((with_reducible refine (HZ2.out _).mono ?_); rintro e w12 ⟨rfl, b12⟩); replace st3 := st3.below b12; replace b03 := b03.trans (b12.mono b03.size)))
  have HI4 := Lib.hid (fun (u : After _) => HI3.out u.v _ c1 (st3.below u.h))
  have HAW2 := Lib.hid (fun (u : After _) => HAW.out u.v (b03.trans (u.h.mono b03.size)))
  refine wp_region_class_all (C := fun w' => ∃ u : After _, w' = u.v) (by kernel_rfl) (by kernel_rfl) (isAfter_start _) ?_
  try simp only [Act.put]
  repeat (go_big_quiet_step ((first | (with_reducible refine (HI4.out _).mono ?_; rintro e w8 ⟨rfl, b8⟩; exact ⟨rfl, After.done _ b8⟩) | (with_reducible refine (HZ3.out _).mono ?_; rintro e w8 ⟨rfl, b8⟩; exact ⟨rfl, After.done _ b8⟩) | (with_reducible refine (H6.out _).mono ?_; rintro e w8 ⟨rfl, b8⟩; exact ⟨rfl, After.done _ b8⟩) | (with_reducible refine (HAW2.out _).mono ?_; rintro e w8 ⟨rfl, b8⟩; exact ⟨rfl, After.done _ b8⟩))))
  refine wpQuiet_nil ?_
  rintro _ ⟨ua, rfl⟩
  go_wp2
  go_ret
  exact ⟨rfl, b03.trans (ua.h.mono b03.size)⟩
theorem cfi_ny (A : Option Addr) (m c n p q : Nat) (y0 y1 : Int) (s t RS u v : ByteArray) (RQ RE UE : Int) (w : World) (M : List (List Int)) (Ip Ia Iq Za Zq F : Nat) (LI : List Int)
    (HT : Hid (Calls Tryd.prog 44 #[.slice A m c] (w.alloc (.cells #[.int .i64 y0, .int .i64 y1] 43)) (TabM (w.alloc (.cells #[.int .i64 y0, .int .i64 y1] 43)) M))) (hn : nS M = n) (hk1 : 1 ≤ M.length) (hp : p < n) (hq : q < n) (hn9 : n ≤ 9)
    (HAW : Hid (∀ V, Below w.heap.size w V → Calls Tryd.prog 22 #[] V fun e w' => e = .returned (.bool true) ∧ Below V.heap.size V w'))
    (H1 : Hid (∀ V, Calls Tryd.prog 48 #[.int .i64 y0, .int .i64 n] V fun e w' => e = .returned (.int .i64 p) ∧ Below V.heap.size V w'))
    (H2 : Hid (∀ V, Calls Tryd.prog 48 #[.int .i64 y1, .int .i64 n] V fun e w' => e = .returned (.int .i64 q) ∧ Below V.heap.size V w'))
    (H3 : Hid (∀ V A c, Calls Tryd.prog 46 #[.slice A M.length c, .string s, .int .i64 12] V fun e w' => e = .returned (.string t) ∧ Below V.heap.size V w'))
    (HR : Hid (∀ V A c, Below w.heap.size w V → RowsAt V A M → Calls Tryd.prog 17 #[.slice A M.length c] V fun e w' => e = .returned (.tuple #[.string RS, .int .i64 RQ, .int .i64 RE]) ∧ Below V.heap.size V w'))
    (HM : Hid (∀ V A c, Below w.heap.size w V → RowsAt V A M → Calls Tryd.prog 29 #[.slice A M.length c, .int .i64 p, .int .i64 q] V fun e w' => e = .returned (.tuple #[.string u, .int .i64 UE]) ∧ Below V.heap.size V w'))
    (HI1 : Hid (∀ V A c, RowsAt V A M → Calls Tryd.prog 35 #[.slice A M.length c, .int .i64 (wrap64 ((2 : Int) ^ p)), .string t] V fun e w' => e = .returned (.int .i64 (Ip : Nat)) ∧ Below V.heap.size V w'))
    (HL : Hid (∀ V, Calls Tryd.prog 27 #[.int .i64 (Ip : Nat)] V (LstR V LI)))
    (HD : Hid (∀ V A B C c d d2, Below w.heap.size w V → RowsAt V A M → IntsAt V B [(p : Int)] → IntsAt V C LI → Calls Tryd.prog 37 #[.slice A M.length c, .slice B 1 d, .slice C LI.length d2] V fun e w' => e = .returned (.tuple #[.string v, .int .i64 0]) ∧ Below V.heap.size V w'))
    (H4 : Hid (∀ V, Calls Tryd.prog 49 #[.string v, .string t] V fun e w' => e = .returned (.bool false) ∧ V = w'))
    (HA : Hid (∀ V A c, RowsAt V A M → Calls Tryd.prog 24 #[.slice A M.length c] V fun e w' => e = .returned (.int .i64 (F : Nat)) ∧ V = w'))
    (HI2 : Hid (∀ V A c, RowsAt V A M → Calls Tryd.prog 35 #[.slice A M.length c, .int .i64 (F : Nat), .string t] V fun e w' => e = .returned (.int .i64 (Ia : Nat)) ∧ Below V.heap.size V w'))
    (HZ2 : Hid (∀ V, Calls Tryd.prog 45 #[.int .i64 (Ia : Nat)] V fun e w' => e = .returned (.int .i64 (Za : Nat)) ∧ Below V.heap.size V w'))
    (HI3 : Hid (∀ V A c, RowsAt V A M → Calls Tryd.prog 35 #[.slice A M.length c, .int .i64 (bits BinOp.or IntKind.i64 (wrap64 ((2 : Int) ^ p)) (wrap64 ((2 : Int) ^ q))), .string t] V fun e w' => e = .returned (.int .i64 (Iq : Nat)) ∧ Below V.heap.size V w'))
    (HZ3 : Hid (∀ V, Calls Tryd.prog 45 #[.int .i64 (Iq : Nat)] V fun e w' => e = .returned (.int .i64 (Zq : Nat)) ∧ Below V.heap.size V w'))
    (hza : ((Za : Int) == 1) = false)
    (hzq : decide (1 < Zq) = true) :
    Calls Tryd.prog 11 #[.slice A m c, .agg #[.int .i64 y0, .int .i64 y1], .string s] w fun e w' => e = .returned (.bool true) ∧ Below w.heap.size w w' := by
  have b0 := Below.refl w.heap.size w
  have Hn := Lib.hid hn
  have r0 : Row (w.alloc (.cells #[.int .i64 y0, .int .i64 y1] 43)) w.heap.size 43 [.int .i64 y0, .int .i64 y1] := row_new rfl
  replace b0 := b0.alloc (Nat.le_refl _) (.cells #[.int .i64 y0, .int .i64 y1] 43)
  have hzq' : decide ((1 : Int) < (Zq : Int)) = true := by rw [← hzq, decide_eq_decide]; omega
  clear hn
  go_enter Tryd.func11, Tryd.ntmps11
  go_wp2_with (go_at_call 44; refine HT.out.mono ?_; rintro e w1 ⟨A1, c1, rfl, ra, b1⟩; replace b0 := b0.trans (b1.mono b0.size); replace r0 := r0.below b1; have ra0 := ra; obtain ⟨bA, oA, hA, hbA, hcA⟩ := ra0 hk1; subst hA; obtain ⟨B0, c00, d0, -⟩ := hcA 0 hk1; rw [show (getl M 0).length = nS M from rfl, Hn.out, Nat.add_zero] at d0; clear hcA)
  have k0 : ∀ u : After w1, u.v.cell? ⟨w.heap.size, 0, none⟩ = some (.int .i64 y0) := fun u => After.cell (r0.cell 0) u
  have k1 : ∀ u : After w1, u.v.cell? ⟨w.heap.size, 1, none⟩ = some (.int .i64 y1) := fun u => After.cell (r0.cell 1) u
  clear r0 b1 d0
  refine wp_region_class_tail (C := fun w' => ∃ u : After _, w' = u.v) 8 (by kernel_rfl) (by kernel_rfl) (isAfter_start _) ?_
  simp only [List.take_succ_cons, List.take_zero, List.drop_succ_cons, List.drop_zero]
  try simp only [Act.put]
  repeat (go_big_quiet_step ((first | (with_reducible refine (H1.out _).mono ?_; rintro e w8 ⟨rfl, b8⟩; exact ⟨rfl, After.done _ b8⟩) | (with_reducible refine (H2.out _).mono ?_; rintro e w8 ⟨rfl, b8⟩; exact ⟨rfl, After.done _ b8⟩))))
  refine wpQuiet_nil ?_
  rintro _ ⟨ua, rfl⟩
  have st3 := ra.below ua.h
  have b03 := b0.trans (ua.h.mono b0.size)
  clear k0 k1 ra b0 H1 H2 HT hbA
  generalize ua.v = W3 at *
  go_wp2_with (first
    | (go_at_call 46; ((with_reducible refine (H3.out _ _ _).mono ?_); rintro e w4 ⟨rfl, b4⟩); replace st3 := st3.below b4; replace b03 := b03.trans (b4.mono b03.size))
    | (go_at_call 17; ((with_reducible refine (HR.out _ _ _ b03 st3).mono ?_); rintro e w5 ⟨rfl, b5⟩); replace st3 := st3.below b5; replace b03 := b03.trans (b5.mono b03.size))
    | (go_at_call 29; ((with_reducible refine (HM.out _ _ _ b03 st3).mono ?_); rintro e w6 ⟨rfl, b6⟩); replace st3 := st3.below b6; replace b03 := b03.trans (b6.mono b03.size))
    | (go_at_call 35; first
      | ((with_reducible refine (HI1.out _ _ _ st3).mono ?_); rintro e w7 ⟨rfl, b7⟩; replace st3 := (st3.below b7).below ((Below.refl _ w7).alloc (Nat.le_refl _) (.cells #[.int .i64 (p : Int)] 3)); replace b03 := (b03.trans (b7.mono b03.size)).alloc (by have := b03.size; have := b7.size; omega) (.cells #[.int .i64 (p : Int)] 3); have i7 : IntsAt (w7.alloc (.cells #[.int .i64 (p : Int)] 3)) (some ⟨w7.heap.size, 0, none⟩) [(p : Int)] := row_ints (xs := [p]) (row_new rfl))
      | ((with_reducible refine (HI2.out _ _ _ st3).mono ?_); rintro e w10 ⟨rfl, b10⟩; replace st3 := st3.below b10; replace b03 := b03.trans (b10.mono b03.size)))
    | (go_at_call 27; ((with_reducible refine (HL.out _).mono ?_); rintro e w8 ⟨A9, c9, rfl, i9, b8⟩); replace st3 := st3.below b8; replace b03 := b03.trans (b8.mono b03.size); replace i7 := i7.below b8)
    | (go_at_call 37; ((with_reducible refine (HD.out _ _ _ _ _ _ _ b03 st3 i7 i9).mono ?_); rintro e w9 ⟨rfl, b9⟩); replace st3 := st3.below b9; replace b03 := b03.trans (b9.mono b03.size); clear i7 i9)
    | (go_at_call 49; first | ((with_reducible refine (H4.out _).mono ?_); rintro e w11 ⟨rfl, rfl⟩))
    | (go_at_call 24; ((with_reducible refine (HA.out _ _ _ st3).mono ?_); rintro e w11 ⟨rfl, rfl⟩))
    | (go_at_call 45; ((with_reducible refine (HZ2.out _).mono ?_); rintro e w12 ⟨rfl, b12⟩); replace st3 := st3.below b12; replace b03 := b03.trans (b12.mono b03.size)))
  have HI4 := Lib.hid (fun (u : After _) => HI3.out u.v _ c1 (st3.below u.h))
  have HAW2 := Lib.hid (fun (u : After _) => HAW.out u.v (b03.trans (u.h.mono b03.size)))
  refine wp_region_class_all (C := fun w' => ∃ u : After _, w' = u.v) (by kernel_rfl) (by kernel_rfl) (isAfter_start _) ?_
  try simp only [Act.put]
  repeat (go_big_quiet_step ((first | (with_reducible refine (HI4.out _).mono ?_; rintro e w8 ⟨rfl, b8⟩; exact ⟨rfl, After.done _ b8⟩) | (with_reducible refine (HZ3.out _).mono ?_; rintro e w8 ⟨rfl, b8⟩; exact ⟨rfl, After.done _ b8⟩) | (with_reducible refine (HAW2.out _).mono ?_; rintro e w8 ⟨rfl, b8⟩; exact ⟨rfl, After.done _ b8⟩))))
  refine wpQuiet_nil ?_
  rintro _ ⟨ua, rfl⟩
  go_wp2
  go_ret
  exact ⟨rfl, b03.trans (ua.h.mono b03.size)⟩
theorem cfi_nn (A : Option Addr) (m c n p q : Nat) (y0 y1 : Int) (s t RS u v : ByteArray) (RQ RE UE : Int) (w : World) (M : List (List Int)) (Ip Ia Iq Za Zq F : Nat) (LI : List Int)
    (HT : Hid (Calls Tryd.prog 44 #[.slice A m c] (w.alloc (.cells #[.int .i64 y0, .int .i64 y1] 43)) (TabM (w.alloc (.cells #[.int .i64 y0, .int .i64 y1] 43)) M))) (hn : nS M = n) (hk1 : 1 ≤ M.length) (hp : p < n) (hq : q < n) (hn9 : n ≤ 9)
    (HAW : Hid (∀ V, Below w.heap.size w V → Calls Tryd.prog 22 #[] V fun e w' => e = .returned (.bool true) ∧ Below V.heap.size V w'))
    (H1 : Hid (∀ V, Calls Tryd.prog 48 #[.int .i64 y0, .int .i64 n] V fun e w' => e = .returned (.int .i64 p) ∧ Below V.heap.size V w'))
    (H2 : Hid (∀ V, Calls Tryd.prog 48 #[.int .i64 y1, .int .i64 n] V fun e w' => e = .returned (.int .i64 q) ∧ Below V.heap.size V w'))
    (H3 : Hid (∀ V A c, Calls Tryd.prog 46 #[.slice A M.length c, .string s, .int .i64 12] V fun e w' => e = .returned (.string t) ∧ Below V.heap.size V w'))
    (HR : Hid (∀ V A c, Below w.heap.size w V → RowsAt V A M → Calls Tryd.prog 17 #[.slice A M.length c] V fun e w' => e = .returned (.tuple #[.string RS, .int .i64 RQ, .int .i64 RE]) ∧ Below V.heap.size V w'))
    (HM : Hid (∀ V A c, Below w.heap.size w V → RowsAt V A M → Calls Tryd.prog 29 #[.slice A M.length c, .int .i64 p, .int .i64 q] V fun e w' => e = .returned (.tuple #[.string u, .int .i64 UE]) ∧ Below V.heap.size V w'))
    (HI1 : Hid (∀ V A c, RowsAt V A M → Calls Tryd.prog 35 #[.slice A M.length c, .int .i64 (wrap64 ((2 : Int) ^ p)), .string t] V fun e w' => e = .returned (.int .i64 (Ip : Nat)) ∧ Below V.heap.size V w'))
    (HL : Hid (∀ V, Calls Tryd.prog 27 #[.int .i64 (Ip : Nat)] V (LstR V LI)))
    (HD : Hid (∀ V A B C c d d2, Below w.heap.size w V → RowsAt V A M → IntsAt V B [(p : Int)] → IntsAt V C LI → Calls Tryd.prog 37 #[.slice A M.length c, .slice B 1 d, .slice C LI.length d2] V fun e w' => e = .returned (.tuple #[.string v, .int .i64 0]) ∧ Below V.heap.size V w'))
    (H4 : Hid (∀ V, Calls Tryd.prog 49 #[.string v, .string t] V fun e w' => e = .returned (.bool false) ∧ V = w'))
    (HA : Hid (∀ V A c, RowsAt V A M → Calls Tryd.prog 24 #[.slice A M.length c] V fun e w' => e = .returned (.int .i64 (F : Nat)) ∧ V = w'))
    (HI2 : Hid (∀ V A c, RowsAt V A M → Calls Tryd.prog 35 #[.slice A M.length c, .int .i64 (F : Nat), .string t] V fun e w' => e = .returned (.int .i64 (Ia : Nat)) ∧ Below V.heap.size V w'))
    (HZ2 : Hid (∀ V, Calls Tryd.prog 45 #[.int .i64 (Ia : Nat)] V fun e w' => e = .returned (.int .i64 (Za : Nat)) ∧ Below V.heap.size V w'))
    (HI3 : Hid (∀ V A c, RowsAt V A M → Calls Tryd.prog 35 #[.slice A M.length c, .int .i64 (bits BinOp.or IntKind.i64 (wrap64 ((2 : Int) ^ p)) (wrap64 ((2 : Int) ^ q))), .string t] V fun e w' => e = .returned (.int .i64 (Iq : Nat)) ∧ Below V.heap.size V w'))
    (HZ3 : Hid (∀ V, Calls Tryd.prog 45 #[.int .i64 (Iq : Nat)] V fun e w' => e = .returned (.int .i64 (Zq : Nat)) ∧ Below V.heap.size V w'))
    (hza : ((Za : Int) == 1) = false)
    (hzq : decide (1 < Zq) = false) (hue : UE = 0) (H6 : Hid (∀ V, Calls Tryd.prog 49 #[.string u, .string t] V fun e w' => e = .returned (.bool false) ∧ Below V.heap.size V w')) :
    Calls Tryd.prog 11 #[.slice A m c, .agg #[.int .i64 y0, .int .i64 y1], .string s] w fun e w' => e = .returned (.bool true) ∧ Below w.heap.size w w' := by
  subst hue
  have b0 := Below.refl w.heap.size w
  have Hn := Lib.hid hn
  have r0 : Row (w.alloc (.cells #[.int .i64 y0, .int .i64 y1] 43)) w.heap.size 43 [.int .i64 y0, .int .i64 y1] := row_new rfl
  replace b0 := b0.alloc (Nat.le_refl _) (.cells #[.int .i64 y0, .int .i64 y1] 43)
  have hzq' : decide ((1 : Int) < (Zq : Int)) = false := by rw [← hzq, decide_eq_decide]; omega
  clear hn
  go_enter Tryd.func11, Tryd.ntmps11
  go_wp2_with (go_at_call 44; refine HT.out.mono ?_; rintro e w1 ⟨A1, c1, rfl, ra, b1⟩; replace b0 := b0.trans (b1.mono b0.size); replace r0 := r0.below b1; have ra0 := ra; obtain ⟨bA, oA, hA, hbA, hcA⟩ := ra0 hk1; subst hA; obtain ⟨B0, c00, d0, -⟩ := hcA 0 hk1; rw [show (getl M 0).length = nS M from rfl, Hn.out, Nat.add_zero] at d0; clear hcA)
  have k0 : ∀ u : After w1, u.v.cell? ⟨w.heap.size, 0, none⟩ = some (.int .i64 y0) := fun u => After.cell (r0.cell 0) u
  have k1 : ∀ u : After w1, u.v.cell? ⟨w.heap.size, 1, none⟩ = some (.int .i64 y1) := fun u => After.cell (r0.cell 1) u
  clear r0 b1 d0
  refine wp_region_class_tail (C := fun w' => ∃ u : After _, w' = u.v) 8 (by kernel_rfl) (by kernel_rfl) (isAfter_start _) ?_
  simp only [List.take_succ_cons, List.take_zero, List.drop_succ_cons, List.drop_zero]
  try simp only [Act.put]
  repeat (go_big_quiet_step ((first | (with_reducible refine (H1.out _).mono ?_; rintro e w8 ⟨rfl, b8⟩; exact ⟨rfl, After.done _ b8⟩) | (with_reducible refine (H2.out _).mono ?_; rintro e w8 ⟨rfl, b8⟩; exact ⟨rfl, After.done _ b8⟩))))
  refine wpQuiet_nil ?_
  rintro _ ⟨ua, rfl⟩
  have st3 := ra.below ua.h
  have b03 := b0.trans (ua.h.mono b0.size)
  clear k0 k1 ra b0 H1 H2 HT hbA
  generalize ua.v = W3 at *
  go_wp2_with (first
    | (go_at_call 46; ((with_reducible refine (H3.out _ _ _).mono ?_); rintro e w4 ⟨rfl, b4⟩); replace st3 := st3.below b4; replace b03 := b03.trans (b4.mono b03.size))
    | (go_at_call 17; ((with_reducible refine (HR.out _ _ _ b03 st3).mono ?_); rintro e w5 ⟨rfl, b5⟩); replace st3 := st3.below b5; replace b03 := b03.trans (b5.mono b03.size))
    | (go_at_call 29; ((with_reducible refine (HM.out _ _ _ b03 st3).mono ?_); rintro e w6 ⟨rfl, b6⟩); replace st3 := st3.below b6; replace b03 := b03.trans (b6.mono b03.size))
    | (go_at_call 35; first
      | ((with_reducible refine (HI1.out _ _ _ st3).mono ?_); rintro e w7 ⟨rfl, b7⟩; replace st3 := (st3.below b7).below ((Below.refl _ w7).alloc (Nat.le_refl _) (.cells #[.int .i64 (p : Int)] 3)); replace b03 := (b03.trans (b7.mono b03.size)).alloc (by have := b03.size; have := b7.size; omega) (.cells #[.int .i64 (p : Int)] 3); have i7 : IntsAt (w7.alloc (.cells #[.int .i64 (p : Int)] 3)) (some ⟨w7.heap.size, 0, none⟩) [(p : Int)] := row_ints (xs := [p]) (row_new rfl))
      | ((with_reducible refine (HI2.out _ _ _ st3).mono ?_); rintro e w10 ⟨rfl, b10⟩; replace st3 := st3.below b10; replace b03 := b03.trans (b10.mono b03.size)))
    | (go_at_call 27; ((with_reducible refine (HL.out _).mono ?_); rintro e w8 ⟨A9, c9, rfl, i9, b8⟩); replace st3 := st3.below b8; replace b03 := b03.trans (b8.mono b03.size); replace i7 := i7.below b8)
    | (go_at_call 37; ((with_reducible refine (HD.out _ _ _ _ _ _ _ b03 st3 i7 i9).mono ?_); rintro e w9 ⟨rfl, b9⟩); replace st3 := st3.below b9; replace b03 := b03.trans (b9.mono b03.size); clear i7 i9)
    | (go_at_call 49; first | ((with_reducible refine (H4.out _).mono ?_); rintro e w11 ⟨rfl, rfl⟩))
    | (go_at_call 24; ((with_reducible refine (HA.out _ _ _ st3).mono ?_); rintro e w11 ⟨rfl, rfl⟩))
    | (go_at_call 45; ((with_reducible refine (HZ2.out _).mono ?_); rintro e w12 ⟨rfl, b12⟩); replace st3 := st3.below b12; replace b03 := b03.trans (b12.mono b03.size)))
  have HI4 := Lib.hid (fun (u : After _) => HI3.out u.v _ c1 (st3.below u.h))
  have HAW2 := Lib.hid (fun (u : After _) => HAW.out u.v (b03.trans (u.h.mono b03.size)))
  refine wp_region_class_all (C := fun w' => ∃ u : After _, w' = u.v) (by kernel_rfl) (by kernel_rfl) (isAfter_start _) ?_
  try simp only [Act.put]
  repeat (go_big_quiet_step ((first | (with_reducible refine (HI4.out _).mono ?_; rintro e w8 ⟨rfl, b8⟩; exact ⟨rfl, After.done _ b8⟩) | (with_reducible refine (HZ3.out _).mono ?_; rintro e w8 ⟨rfl, b8⟩; exact ⟨rfl, After.done _ b8⟩) | (with_reducible refine (H6.out _).mono ?_; rintro e w8 ⟨rfl, b8⟩; exact ⟨rfl, After.done _ b8⟩) | (with_reducible refine (HAW2.out _).mono ?_; rintro e w8 ⟨rfl, b8⟩; exact ⟨rfl, After.done _ b8⟩))))
  refine wpQuiet_nil ?_
  rintro _ ⟨ua, rfl⟩
  go_wp2
  go_ret
  exact ⟨rfl, b03.trans (ua.h.mono b03.size)⟩
theorem img_pow {n p : Nat} (h : p < n) : IsS n (2 ^ p) := Nat.pow_lt_pow_right (by decide) h
theorem wrap_p {p : Nat} (h : p < 9) : wrap64 ((2 : Int) ^ p) = ((2 ^ p : Nat) : Int) := by
  have h1 : 2 ^ p ≤ 2 ^ 9 := Nat.pow_le_pow_right (by decide) (by omega)
  rw [pow_cast]
  generalize 2 ^ p = P at *
  exact IntWalk.wrap64_in _ ⟨by omega, by omega⟩
theorem clockFirst_any (A : Option Addr) (c : Nat) (L : List (List Int)) (y0 y1 : Int) (s : ByteArray) (w : World) (ht : TabW w) (hx : L.length ≤ c) (hc : c ≤ maxLen) (ha : RowsIn w A L) (hs : s.size ≤ maxLen) :
    Calls Tryd.prog 11 #[.slice A L.length c, .agg #[.int .i64 y0, .int .i64 y1], .string s] w fun e w' => e = .returned (.bool true) ∧ Below w.heap.size w w' := by
  unfold maxLen at hs
  obtain ⟨M, h, hT⟩ := tame_any A c L w hx hc ha
  have hn9 := h.n9
  have hn1 := h.n1
  have hk4 := h.k4
  have hM := h.isM
  have HAW := Lib.hid (fun (V : World) (hV : Below w.heap.size w V) => awake_any V (ht.below hV ht.lt))
  obtain ⟨X, hX⟩ : ∃ X, wdM M.length 12 s = X := ⟨_, rfl⟩
  have oX : okW M.length X := hX ▸ wdM_ok h.k1 12 s
  have lX : X.length ≤ 12 := hX ▸ wdM_len M.length 12 s
  have oX4 := okW4 hk4 oX
  have gX := okB_wS hk4 oX (by omega)
  have hp := modI_lt y0 hn1
  have hq := modI_lt y1 hn1
  have H1 : Hid (∀ V, Calls Tryd.prog 48 #[.int .i64 y0, .int .i64 (nS M)] V fun e w' => e = .returned (.int .i64 (modI y0 (nS M))) ∧ Below V.heap.size V w') := Lib.hid (fun V => (mod_any y0 (nS M) V hn1 (by omega)).mono fun _ _ h => ⟨h.1, h.2 ▸ Below.refl _ _⟩)
  have H2 : Hid (∀ V, Calls Tryd.prog 48 #[.int .i64 y1, .int .i64 (nS M)] V fun e w' => e = .returned (.int .i64 (modI y1 (nS M))) ∧ Below V.heap.size V w') := Lib.hid (fun V => (mod_any y1 (nS M) V hn1 (by omega)).mono fun _ _ h => ⟨h.1, h.2 ▸ Below.refl _ _⟩)
  generalize modI y0 (nS M) = p at *
  generalize modI y1 (nS M) = q at *
  have H3 : Hid (∀ V A c, Calls Tryd.prog 46 #[.slice A M.length c, .string s, .int .i64 12] V fun e w' => e = .returned (.string (wS X)) ∧ Below V.heap.size V w') := Lib.hid (fun V A c => by
    rw [← hX]; exact word_any A c M.length 12 s V h.k1 hk4 (by omega) (by decide))
  have ip := img_pow hp
  have np : 2 ^ p ≠ 0 := Nat.ne_of_gt (Nat.two_pow_pos p)
  obtain ⟨isq, nsq, -⟩ := sg_set hn9 hp hq
  have hF := full_set (n := nS M) hn1
  have RI : ∀ a, IsS (nS M) a → ∀ V A c, RowsAt V A M → Calls Tryd.prog 35 #[.slice A M.length c, .int .i64 a, .string (wS X)] V fun e w' => e = .returned (.int .i64 (img (tabN M) a X : Nat)) ∧ Below V.heap.size V w' := fun a ia V A c hA => by
    have := refImage_any A c M a (wS X) V h hA ia gX
    rwa [imP_all (tabN M) a (fun b hb => oX4 b hb)] at this
  have HI1 : Hid (∀ V A c, RowsAt V A M → Calls Tryd.prog 35 #[.slice A M.length c, .int .i64 (wrap64 ((2 : Int) ^ p)), .string (wS X)] V fun e w' => e = .returned (.int .i64 (img (tabN M) (2 ^ p) X : Nat)) ∧ Below V.heap.size V w') := Lib.hid (fun V A c hA => by
    rw [wrap_p (by omega)]; exact RI _ ip V A c hA)
  have i1 := img_set hM ip oX
  have n1 := img_ne hM ip np oX
  have HL : Hid (∀ V, Calls Tryd.prog 27 #[.int .i64 (img (tabN M) (2 ^ p) X : Nat)] V (LstR V (lsI (img (tabN M) (2 ^ p) X)))) := Lib.hid (fun V => (refList_any _ V (set512 hn9 i1)).mono fun _ _ h => h.lst)
  obtain ⟨z, v, hv, ov, lv⟩ : ∃ z v, ldX M (2 ^ p) (img (tabN M) (2 ^ p) X) = some (z, v) ∧ okW M.length v ∧ vw v ≤ vw X := by
    cases e : ldX M (2 ^ p) (img (tabN M) (2 ^ p) X) with
    | none =>
      have := (seek_none hM ip).1 e X oX
      rw [decide_eq_true rfl] at this
      cases this
    | some r =>
      obtain ⟨z, v⟩ := r
      obtain ⟨h1, h2, h3, h4⟩ := seek_some hM ip e
      exact ⟨z, v, rfl, h1, h4 X oX (decide_eq_true rfl)⟩
  have HD : Hid (∀ V A B C c d d2, Below w.heap.size w V → RowsAt V A M → IntsAt V B [(p : Int)] → IntsAt V C (lsI (img (tabN M) (2 ^ p) X)) → Calls Tryd.prog 37 #[.slice A M.length c, .slice B 1 d, .slice C (lsI (img (tabN M) (2 ^ p) X)).length d2] V fun e w' => e = .returned (.tuple #[.string (wS v), .int .i64 0]) ∧ Below V.heap.size V w') := Lib.hid (fun V A B C c d d2 hV hA hB hC => by
    have e := lsI_one (p := p) (by omega)
    have := Lead_set A B C c d d2 M (2 ^ p) _ V z v h hA ip np i1 n1 (by rw [e]; exact hB) hC (ht.below hV ht.lt) hv
    rwa [e] at this)
  have LT : ∀ {x}, okW M.length x → vw x ≤ vw X → ∀ V, Calls Tryd.prog 49 #[.string (wS x), .string (wS X)] V fun e w' => e = .returned (.bool false) ∧ V = w' := fun {x} ox lx V => by
    have := later_any (wS x) (wS X) V
    rwa [later_no (okW4 hk4 ox) oX4 lx] at this
  have H4 := Lib.hid (LT ov lv)
  have HA : Hid (∀ V A c, RowsAt V A M → Calls Tryd.prog 24 #[.slice A M.length c] V fun e w' => e = .returned (.int .i64 ((2 ^ nS M - 1 : Nat) : Nat)) ∧ V = w') := Lib.hid (fun V A c ha => refAll_any A c M V h ha)
  have HI2 := Lib.hid (RI (2 ^ nS M - 1) hF)
  have i2 := img_set hM hF oX
  have HZ2 := Lib.hid (fun V => refSize_any (img (tabN M) (2 ^ nS M - 1) X) V (set512 hn9 i2))
  have HI3 : Hid (∀ V A c, RowsAt V A M → Calls Tryd.prog 35 #[.slice A M.length c, .int .i64 (bits BinOp.or IntKind.i64 (wrap64 ((2 : Int) ^ p)) (wrap64 ((2 : Int) ^ q))), .string (wS X)] V fun e w' => e = .returned (.int .i64 (img (tabN M) (sg p q) X : Nat)) ∧ Below V.heap.size V w') := Lib.hid (fun V A c hA => by
    rw [or_pows (by omega) (by omega)]; exact RI _ isq V A c hA)
  have i3 := img_set hM isq oX
  have HZ3 := Lib.hid (fun V => refSize_any (img (tabN M) (sg p q) X) V (set512 hn9 i3))
  have HRS := fun (V : World) A c (hV : Below w.heap.size w V) ha => Reset_yes A c M V h ha (ht.below hV ht.lt)
  have HMS := fun (V : World) A c (hV : Below w.heap.size w V) ha => Merge_yes A c M p q V h ha (ht.below hV ht.lt) hp hq
  have hw0 : Below w.heap.size w (w.alloc (.cells #[.int .i64 y0, .int .i64 y1] 43)) := (Below.refl _ w).alloc (Nat.le_refl _) _
  have HT := Lib.hid (hT _ hw0)
  have KEY : (szS (img (tabN M) (2 ^ nS M - 1) X) = 1 → ∃ t x, rsX M = some (t, x) ∧ okW M.length x ∧ vw x ≤ vw X) := fun h1 => by
    cases e : rsX M with
    | none =>
      have := (seek_none hM hF).1 e X oX
      unfold few at this
      rw [decide_eq_true (by omega)] at this
      cases this
    | some r =>
      obtain ⟨t, x⟩ := r
      obtain ⟨h2, h3, h4, h5⟩ := seek_some hM hF e
      exact ⟨t, x, rfl, h2, h5 X oX (decide_eq_true (by omega))⟩
  have KEY2 : (¬ 1 < szS (img (tabN M) (sg p q) X) → szS (shP M p q).1 = 1 ∧ okW M.length (shP M p q).2 ∧ vw (shP M p q).2 ≤ vw X) := fun h1 => by
    have e := seek_one (T := tabN M) (k := M.length) hM isq nsq
    by_cases h2 : szS (shE (tabN M) M.length (sg p q)).1 = 1
    · rw [if_pos h2] at e
      obtain ⟨a1, a2, a3, a4⟩ := seek_some hM isq e
      exact ⟨h2, a1, a4 X oX (decide_eq_true (by omega))⟩
    · rw [if_neg h2] at e
      have := (seek_none hM isq).1 e X oX
      unfold few at this
      rw [decide_eq_true (by omega)] at this
      cases this
  by_cases c1 : szS (img (tabN M) (2 ^ nS M - 1) X) = 1
  · obtain ⟨t, x, er, ox, lx⟩ := KEY c1
    rw [er] at HRS
    have g1 : ((szS (img (tabN M) (2 ^ nS M - 1) X) : Int) == 1) = true := by rw [beq_iff_eq]; omega
    by_cases c2 : 1 < szS (img (tabN M) (sg p q) X)
    · exact cfi_yy A L.length c (nS M) p q y0 y1 s (wS X) (wS x) _ (wS v) (tzS t) 0 _ w M _ _ _ _ _ (2 ^ nS M - 1) _ HT rfl h.k1 hp hq hn9 HAW H1 H2 H3 (Lib.hid HRS) (Lib.hid HMS) HI1 HL HD H4 HA HI2 HZ2 HI3 HZ3 g1 rfl (Lib.hid (LT ox lx)) (decide_eq_true c2)
    · obtain ⟨e1, o2, l2⟩ := KEY2 c2
      rw [if_pos e1, if_pos e1] at HMS
      exact cfi_yn A L.length c (nS M) p q y0 y1 s (wS X) (wS x) _ (wS v) (tzS t) 0 _ w M _ _ _ _ _ (2 ^ nS M - 1) _ HT rfl h.k1 hp hq hn9 HAW H1 H2 H3 (Lib.hid HRS) (Lib.hid HMS) HI1 HL HD H4 HA HI2 HZ2 HI3 HZ3 g1 rfl (Lib.hid (LT ox lx)) (decide_eq_false c2) rfl (Lib.hid (fun V => (LT o2 l2 V).mono fun _ _ h => ⟨h.1, h.2 ▸ Below.refl _ _⟩))
  · have g1 : ((szS (img (tabN M) (2 ^ nS M - 1) X) : Int) == 1) = false := by rw [beq_eq_false_iff_ne]; omega
    have HRS2 : ∃ (RS : ByteArray) (RQ RE : Int), ∀ V A c, Below w.heap.size w V → RowsAt V A M → Calls Tryd.prog 17 #[.slice A M.length c] V fun e w' => e = .returned (.tuple #[.string RS, .int .i64 RQ, .int .i64 RE]) ∧ Below V.heap.size V w' := by
      cases er : rsX M with
      | none => rw [er] at HRS; exact ⟨_, _, _, HRS⟩
      | some r => obtain ⟨t, x⟩ := r; rw [er] at HRS; exact ⟨_, _, _, HRS⟩
    obtain ⟨RS, RQ, RE, HR⟩ := HRS2
    by_cases c2 : 1 < szS (img (tabN M) (sg p q) X)
    · exact cfi_ny A L.length c (nS M) p q y0 y1 s (wS X) RS _ (wS v) RQ RE _ w M _ _ _ _ _ (2 ^ nS M - 1) _ HT rfl h.k1 hp hq hn9 HAW H1 H2 H3 (Lib.hid HR) (Lib.hid HMS) HI1 HL HD H4 HA HI2 HZ2 HI3 HZ3 g1 (decide_eq_true c2)
    · obtain ⟨e1, o2, l2⟩ := KEY2 c2
      rw [if_pos e1, if_pos e1] at HMS
      exact cfi_nn A L.length c (nS M) p q y0 y1 s (wS X) RS _ (wS v) RQ RE _ w M _ _ _ _ _ (2 ^ nS M - 1) _ HT rfl h.k1 hp hq hn9 HAW H1 H2 H3 (Lib.hid HR) (Lib.hid HMS) HI1 HL HD H4 HA HI2 HZ2 HI3 HZ3 g1 (decide_eq_false c2) rfl (Lib.hid (fun V => (LT o2 l2 V).mono fun _ _ h => ⟨h.1, h.2 ▸ Below.refl _ _⟩))
end Go.Proofs.YtignbpipdfjkeaaDoor
