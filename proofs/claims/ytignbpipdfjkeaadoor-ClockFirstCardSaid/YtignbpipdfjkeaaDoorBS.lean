/- Lead, and the reference's. -/
import Derived.Test.YtignbpipdfjkeaaDoorBQ
namespace Go.Proofs.YtignbpipdfjkeaaDoor
open Go.RowKit Go.PlainAid
set_option maxHeartbeats 2000000
set_option maxRecDepth 100000
/-- The search for one set. -/
def ldX (L : List (List Int)) (a b : Nat) : Option (Nat × List Nat) := seek (tabN L) L.length a (fun t => decide (t = b))
theorem refLead_any (A : Option Addr) (c : Nat) (L : List (List Int)) (a b : Nat) (w : World) (h : IsMI L) (hA : RowsAt w A L) (ha : IsS (nS L) a) (h0 : a ≠ 0) :
    Calls Tryd.prog 38 #[.slice A L.length c, .int .i64 a, .int .i64 b] w fun e w' => e = .returned (.tuple #[.string (seekS (ldX L a b)), .bool (ldX L a b).isSome]) ∧ Below w.heap.size w w' := by
  have HR := Lib.hid (Reached_any A c L a w h ha h0 hA)
  have hlen : (reach (tabN L) L.length a).length ≤ 512 := by
    have hm := reach_met h.isM ha
    have := nodup_len 512 ((reach (tabN L) L.length a).map (·.1)) (fun x hx => by
      obtain ⟨e, he, rfl⟩ := List.mem_map.1 hx
      obtain ⟨h1, h2⟩ := hm.im e.1 e.2 he
      have h3 := img_set h.isM ha h1
      rw [h2] at h3
      exact set512 h.n9 h3) (by rw [List.pairwise_map]; exact hm.nd)
    simpa using this
  obtain ⟨R, hR⟩ : ∃ R, reach (tabN L) L.length a = R := ⟨_, rfl⟩
  obtain ⟨X, hX⟩ : ∃ X, ldX L a b = X := ⟨_, rfl⟩
  have hXR : R.find? (fun e => decide (e.1 = b)) = X := by rw [← hX, ← hR]; rfl
  rw [hX]
  rw [hR] at HR hlen
  have HF := Lib.hid (fun i (hi : i < R.length) (hg : (elS R i).1 = b) (hn : ∀ j, j < i → (elS R j).1 ≠ b) => hXR.symm.trans (find_el (g := fun t => decide (t = b)) hi (decide_eq_true hg) (fun j hj => decide_eq_false (hn j hj))))
  have HN : Hid ((∀ j, j < R.length → (elS R j).1 ≠ b) → X = none) := Lib.hid (fun hn => by
    rw [← hXR, List.find?_eq_none]
    intro e he
    obtain ⟨j, hj, rfl⟩ := List.getElem_of_mem he
    have := hn j hj
    unfold elS at this
    rw [List.getD_eq_getElem?_getD, List.getElem?_eq_getElem hj] at this
    simpa using this)
  have HG0 : Hid (∀ j, j < 0 → (elS R j).1 ≠ b) := Lib.hid (fun j hj => absurd hj (Nat.not_lt_zero j))
  clear hXR hX hR h hA ha h0
  go_enter Tryd.func38, Tryd.ntmps38
  go_wp2_with (go_at_call 57; fail)
  refine HR.out.mono ?_
  rintro e w1 ⟨v, u, rfl, o1, u1, b1⟩
  obtain ⟨A7, c7, rfl, -, hc7, i7⟩ := own_intsI o1
  obtain ⟨A8, c8, rfl⟩ := own_shape u1
  rw [mi_len] at hc7 ⊢
  have HC7 : Hid (∀ i, i < R.length → ∃ g o, A7 = some ⟨g, o, none⟩ ∧ w1.cell? ⟨g, o + i, none⟩ = some (.int .i64 ((elS R i).1 : Int))) := Lib.hid (fun i hi => by
    obtain ⟨g, o, e, -, hx⟩ := i7 (by rw [mi_len]; omega)
    have := hx i (by rw [mi_len]; exact hi)
    rw [geti_mi hi] at this
    exact ⟨g, o, e, this⟩)
  have HC8 : Hid (∀ i, i < R.length → ∃ g, A8 = some ⟨g, 0, none⟩ ∧ w1.cell? ⟨g, i, none⟩ = some (.string (wS (elS R i).2))) := Lib.hid (fun i hi => by
    obtain ⟨g, c, e, -, -, hx⟩ := own_words u1 (by omega)
    injection e with e1
    exact ⟨g, e1, hx i hi⟩)
  clear i7 o1 u1 HR
  go_wp2
  go_loopw [10] (fun q wr => ∃ i : Nat, q = .int .i64 i ∧ i ≤ R.length ∧ wr = w1 ∧ Hid (∀ j, j < i → (elS R j).1 ≠ b)) (fun q _ => R.length - (intOf q).toNat)
  case atStart => exact ⟨0, rfl, by omega, rfl, HG0⟩
  case round =>
    clear HG0
    obtain ⟨i, rfl, hi, rfl, HG⟩ := hrel
    by_cases hlt : i < R.length
    · have g1 : decide (i < R.length) = true := decide_eq_true hlt
      obtain ⟨g7, o7, rfl, ci⟩ := HC7.out i hlt
      obtain ⟨g8, rfl, cw⟩ := HC8.out i hlt
      have HF1 := Lib.hid (HF.out i hlt)
      obtain ⟨p, hp⟩ : ∃ p, elS R i = p := ⟨_, rfl⟩
      rw [hp] at ci cw HF1
      have HP := Lib.hid hp
      clear hp
      by_cases he : p.1 = b
      · have hX := HF1.out he HG.out
        subst hX
        have g2 : ((p.1 : Int) == (b : Int)) = true := by rw [beq_iff_eq, he]
        clear HF1 HF HN HG he
        go_wp2
        refine bodyPost_ret (results_tmp2 rfl _ _ _) rfl ⟨rfl, b1⟩
      · have g2 : ((p.1 : Int) == (b : Int)) = false := by rw [beq_eq_false_iff_ne]; omega
        have HG2 : Hid (∀ j, j < i + 1 → (elS R j).1 ≠ b) := Lib.hid (fun j hj => by
          rcases Nat.lt_or_ge j i with h | h
          · exact HG.out j h
          · rw [show j = i by omega, HP.out]; exact he)
        clear HF1 HG he
        go_wp2
        go_roundw
        case rel => exact ⟨i + 1, by go_num, by omega, trivial, HG2⟩
        case measure => simp [intOf]; omega
    · obtain rfl : i = R.length := by omega
      have g1 : decide (R.length < R.length) = false := decide_eq_false hlt
      have hx := HN.out HG.out
      subst hx
      clear HF HN HG
      go_wp2
      refine bodyPost_ret (results_tmp2 rfl _ _ _) rfl ⟨rfl, b1⟩
theorem Lead_no (A B C : Option Addr) (c d d2 n m : Nat) (L : List (List Int)) (w : World) (hv : okM L = false) (ha : RowsAt w A L) :
    Calls Tryd.prog 37 #[.slice A L.length c, .slice B n d, .slice C m d2] w fun e w' => e = .returned (.tuple #[.string ⟨#[]⟩, .int .i64 2]) ∧ Below w.heap.size w w' := by
  have HR := Lib.hid (rm_no A c L w hv ha)
  clear hv ha
  go_enter Tryd.func37, Tryd.ntmps37
  go_wp2_with (first
    | (go_at_call 50; refine HR.out.mono ?_; rintro e w2 ⟨rfl, b2⟩; have q0 : Row (w2.alloc (.cells #[.int .i64 0, .int .i64 0, .int .i64 0, .int .i64 0, .int .i64 0, .int .i64 0, .int .i64 0, .int .i64 0, .int .i64 0, .int .i64 0, .int .i64 0, .int .i64 0, .int .i64 0, .int .i64 0, .int .i64 0, .int .i64 0, .int .i64 0, .int .i64 0, .int .i64 0, .int .i64 0, .int .i64 0, .int .i64 0, .int .i64 0, .int .i64 0, .int .i64 0, .int .i64 0, .int .i64 0, .int .i64 0, .int .i64 0, .int .i64 0, .int .i64 0, .int .i64 0, .int .i64 0, .int .i64 0, .int .i64 0, .int .i64 0, .int .i64 0, .int .i64 0] 76)) w2.heap.size 76 Z38 := row_new rfl; have b0 := b2.alloc b2.size (.cells #[.int .i64 0, .int .i64 0, .int .i64 0, .int .i64 0, .int .i64 0, .int .i64 0, .int .i64 0, .int .i64 0, .int .i64 0, .int .i64 0, .int .i64 0, .int .i64 0, .int .i64 0, .int .i64 0, .int .i64 0, .int .i64 0, .int .i64 0, .int .i64 0, .int .i64 0, .int .i64 0, .int .i64 0, .int .i64 0, .int .i64 0, .int .i64 0, .int .i64 0, .int .i64 0, .int .i64 0, .int .i64 0, .int .i64 0, .int .i64 0, .int .i64 0, .int .i64 0, .int .i64 0, .int .i64 0, .int .i64 0, .int .i64 0, .int .i64 0, .int .i64 0] 76); have hbz := b2.size)
    | (with_reducible refine (?_ : wpList _ _ _ (Oper.mk _ (Op.store 76 (.tmp 8) _) _ _ _ _ :: _) _ _); refine wpList_store_row rfl 76 (.tmp 8) (.tmp 19) rfl w2.heap.size Z38.toArray rfl rfl 76 Z38.toArray (row_heap q0) info76_z rfl z38_all ?_; replace b0 := below_row (g := w2.heap.size) b0 hbz Z38.toArray; generalize World.setRow (w2.alloc _) _ _ = W at *))
  go_ret2
  exact ⟨rfl, b0⟩
theorem lead_f (A B C : Option Addr) (c d d2 : Nat) (L : List (List Int)) (l m : List Int) (w : World) (HR : Hid (Calls Tryd.prog 50 #[.slice A L.length c] w fun e w' => e = .returned (.tuple #[.agg (iv (mc L)).toArray, .bool true]) ∧ Below w.heap.size w w')) (sa sb : Nat) (gb : Bool)
    (HS1 : Hid (∀ V, Below w.heap.size w V → Calls Tryd.prog 61 #[.agg (iv (mc L)).toArray, .slice B l.length d] V fun e w' => e = .returned (.tuple #[.int .u16 (sa : Nat), .bool false]) ∧ Below V.heap.size V w'))
    (HS2 : Hid (∀ V, Below w.heap.size w V → Calls Tryd.prog 61 #[.agg (iv (mc L)).toArray, .slice C m.length d2] V fun e w' => e = .returned (.tuple #[.int .u16 (sb : Nat), .bool gb]) ∧ Below V.heap.size V w')) :
    Calls Tryd.prog 37 #[.slice A L.length c, .slice B l.length d, .slice C m.length d2] w fun e w' => e = .returned (.tuple #[.string ⟨#[]⟩, .int .i64 2]) ∧ Below w.heap.size w w' := by
  have hi := info76_iv (x := mc L) (mcP_len L 36)
  have hsz := hsz76 L
  go_enter Tryd.func37, Tryd.ntmps37
  go_wp2_with (first
    | (go_at_call 50; refine HR.out.mono ?_; rintro e w2 ⟨rfl, b2⟩; have q0 : Row (w2.alloc (.cells #[.int .i64 0, .int .i64 0, .int .i64 0, .int .i64 0, .int .i64 0, .int .i64 0, .int .i64 0, .int .i64 0, .int .i64 0, .int .i64 0, .int .i64 0, .int .i64 0, .int .i64 0, .int .i64 0, .int .i64 0, .int .i64 0, .int .i64 0, .int .i64 0, .int .i64 0, .int .i64 0, .int .i64 0, .int .i64 0, .int .i64 0, .int .i64 0, .int .i64 0, .int .i64 0, .int .i64 0, .int .i64 0, .int .i64 0, .int .i64 0, .int .i64 0, .int .i64 0, .int .i64 0, .int .i64 0, .int .i64 0, .int .i64 0, .int .i64 0, .int .i64 0] 76)) w2.heap.size 76 Z38 := row_new rfl; have b0 := b2.alloc b2.size (.cells #[.int .i64 0, .int .i64 0, .int .i64 0, .int .i64 0, .int .i64 0, .int .i64 0, .int .i64 0, .int .i64 0, .int .i64 0, .int .i64 0, .int .i64 0, .int .i64 0, .int .i64 0, .int .i64 0, .int .i64 0, .int .i64 0, .int .i64 0, .int .i64 0, .int .i64 0, .int .i64 0, .int .i64 0, .int .i64 0, .int .i64 0, .int .i64 0, .int .i64 0, .int .i64 0, .int .i64 0, .int .i64 0, .int .i64 0, .int .i64 0, .int .i64 0, .int .i64 0, .int .i64 0, .int .i64 0, .int .i64 0, .int .i64 0, .int .i64 0, .int .i64 0] 76); have hbz := b2.size)
    | (with_reducible refine (?_ : wpList _ _ _ (Oper.mk _ (Op.store 76 (.tmp 8) _) _ _ _ _ :: _) _ _); refine wpList_store_row rfl 76 (.tmp 8) (.tmp 19) rfl w2.heap.size (iv (mc L)).toArray rfl rfl 76 Z38.toArray (row_heap q0) hi hsz (iv_all _) ?_; replace q0 := q0.row (iv (mc L)); replace b0 := below_row (g := w2.heap.size) b0 hbz (iv (mc L)).toArray; generalize World.setRow (w2.alloc _) _ _ = W at *)
    | ((with_reducible refine (?_ : wpList _ _ _ (Oper.mk (some 24) _ _ _ _ _ :: _) _ _)); refine wpList_load_row rfl 76 (.tmp 8) rfl w2.heap.size rfl 76 (iv (mc L)).toArray (0, 0) _ (row_heap q0) Tryd.underlying76 rfl hi ?_)
    | ((with_reducible refine (?_ : wpList _ _ _ (Oper.mk (some 30) _ _ _ _ _ :: _) _ _)); refine wpList_load_row rfl 76 (.tmp 8) rfl w2.heap.size rfl 76 (iv (mc L)).toArray (0, 0) _ (row_heap q1) Tryd.underlying76 rfl hi ?_)
    | (go_at_call 61; first | (with_reducible refine (HS1.out _ b0).mono ?_; rintro e w3 ⟨rfl, b3⟩; have q1 := q0.below b3; replace b0 := b0.trans (b3.mono b0.size)) | (with_reducible refine (HS2.out _ b0).mono ?_; rintro e w4 ⟨rfl, b4⟩; have q2 := q1.below b4; replace b0 := b0.trans (b4.mono b0.size); have hb4 := b0.size; have n4 : Row (w4.alloc (.cells #[.int .u16 (sb : Nat)] 80)) w4.heap.size 80 [.int .u16 (sb : Nat)] := row_new rfl; replace b0 := b0.alloc hb4 (.cells #[.int .u16 (sb : Nat)] 80); have q3 := q2.alloc (.cells #[.int .u16 (sb : Nat)] 80); have c4 := n4.cell 0)))
  go_ret2
  exact ⟨rfl, b0⟩
theorem lead_tf (A B C : Option Addr) (c d d2 : Nat) (L : List (List Int)) (l m : List Int) (w : World) (HR : Hid (Calls Tryd.prog 50 #[.slice A L.length c] w fun e w' => e = .returned (.tuple #[.agg (iv (mc L)).toArray, .bool true]) ∧ Below w.heap.size w w')) (sa sb : Nat)
    (HS1 : Hid (∀ V, Below w.heap.size w V → Calls Tryd.prog 61 #[.agg (iv (mc L)).toArray, .slice B l.length d] V fun e w' => e = .returned (.tuple #[.int .u16 (sa : Nat), .bool true]) ∧ Below V.heap.size V w'))
    (HS2 : Hid (∀ V, Below w.heap.size w V → Calls Tryd.prog 61 #[.agg (iv (mc L)).toArray, .slice C m.length d2] V fun e w' => e = .returned (.tuple #[.int .u16 (sb : Nat), .bool false]) ∧ Below V.heap.size V w'))  :
    Calls Tryd.prog 37 #[.slice A L.length c, .slice B l.length d, .slice C m.length d2] w fun e w' => e = .returned (.tuple #[.string ⟨#[]⟩, .int .i64 2]) ∧ Below w.heap.size w w' := by
  have hi := info76_iv (x := mc L) (mcP_len L 36)
  have hsz := hsz76 L
  go_enter Tryd.func37, Tryd.ntmps37
  go_wp2_with (first
    | (go_at_call 50; refine HR.out.mono ?_; rintro e w2 ⟨rfl, b2⟩; have q0 : Row (w2.alloc (.cells #[.int .i64 0, .int .i64 0, .int .i64 0, .int .i64 0, .int .i64 0, .int .i64 0, .int .i64 0, .int .i64 0, .int .i64 0, .int .i64 0, .int .i64 0, .int .i64 0, .int .i64 0, .int .i64 0, .int .i64 0, .int .i64 0, .int .i64 0, .int .i64 0, .int .i64 0, .int .i64 0, .int .i64 0, .int .i64 0, .int .i64 0, .int .i64 0, .int .i64 0, .int .i64 0, .int .i64 0, .int .i64 0, .int .i64 0, .int .i64 0, .int .i64 0, .int .i64 0, .int .i64 0, .int .i64 0, .int .i64 0, .int .i64 0, .int .i64 0, .int .i64 0] 76)) w2.heap.size 76 Z38 := row_new rfl; have b0 := b2.alloc b2.size (.cells #[.int .i64 0, .int .i64 0, .int .i64 0, .int .i64 0, .int .i64 0, .int .i64 0, .int .i64 0, .int .i64 0, .int .i64 0, .int .i64 0, .int .i64 0, .int .i64 0, .int .i64 0, .int .i64 0, .int .i64 0, .int .i64 0, .int .i64 0, .int .i64 0, .int .i64 0, .int .i64 0, .int .i64 0, .int .i64 0, .int .i64 0, .int .i64 0, .int .i64 0, .int .i64 0, .int .i64 0, .int .i64 0, .int .i64 0, .int .i64 0, .int .i64 0, .int .i64 0, .int .i64 0, .int .i64 0, .int .i64 0, .int .i64 0, .int .i64 0, .int .i64 0] 76); have hbz := b2.size)
    | (with_reducible refine (?_ : wpList _ _ _ (Oper.mk _ (Op.store 76 (.tmp 8) _) _ _ _ _ :: _) _ _); refine wpList_store_row rfl 76 (.tmp 8) (.tmp 19) rfl w2.heap.size (iv (mc L)).toArray rfl rfl 76 Z38.toArray (row_heap q0) hi hsz (iv_all _) ?_; replace q0 := q0.row (iv (mc L)); replace b0 := below_row (g := w2.heap.size) b0 hbz (iv (mc L)).toArray; generalize World.setRow (w2.alloc _) _ _ = W at *)
    | ((with_reducible refine (?_ : wpList _ _ _ (Oper.mk (some 24) _ _ _ _ _ :: _) _ _)); refine wpList_load_row rfl 76 (.tmp 8) rfl w2.heap.size rfl 76 (iv (mc L)).toArray (0, 0) _ (row_heap q0) Tryd.underlying76 rfl hi ?_)
    | ((with_reducible refine (?_ : wpList _ _ _ (Oper.mk (some 30) _ _ _ _ _ :: _) _ _)); refine wpList_load_row rfl 76 (.tmp 8) rfl w2.heap.size rfl 76 (iv (mc L)).toArray (0, 0) _ (row_heap q1) Tryd.underlying76 rfl hi ?_)
    | (go_at_call 61; first | (with_reducible refine (HS1.out _ b0).mono ?_; rintro e w3 ⟨rfl, b3⟩; have q1 := q0.below b3; replace b0 := b0.trans (b3.mono b0.size)) | (with_reducible refine (HS2.out _ b0).mono ?_; rintro e w4 ⟨rfl, b4⟩; have q2 := q1.below b4; replace b0 := b0.trans (b4.mono b0.size); have hb4 := b0.size; have n4 : Row (w4.alloc (.cells #[.int .u16 (sb : Nat)] 80)) w4.heap.size 80 [.int .u16 (sb : Nat)] := row_new rfl; replace b0 := b0.alloc hb4 (.cells #[.int .u16 (sb : Nat)] 80); have q3 := q2.alloc (.cells #[.int .u16 (sb : Nat)] 80); have c4 := n4.cell 0)))
  go_ret2
  exact ⟨rfl, b0⟩
theorem lead_0 (A B C : Option Addr) (c d d2 : Nat) (L : List (List Int)) (l m : List Int) (w : World) (HR : Hid (Calls Tryd.prog 50 #[.slice A L.length c] w fun e w' => e = .returned (.tuple #[.agg (iv (mc L)).toArray, .bool true]) ∧ Below w.heap.size w w')) (sa sb : Nat)
    (HS1 : Hid (∀ V, Below w.heap.size w V → Calls Tryd.prog 61 #[.agg (iv (mc L)).toArray, .slice B l.length d] V fun e w' => e = .returned (.tuple #[.int .u16 (sa : Nat), .bool true]) ∧ Below V.heap.size V w'))
    (HS2 : Hid (∀ V, Below w.heap.size w V → Calls Tryd.prog 61 #[.agg (iv (mc L)).toArray, .slice C m.length d2] V fun e w' => e = .returned (.tuple #[.int .u16 (sb : Nat), .bool true]) ∧ Below V.heap.size V w')) (g1 : ((sa : Int) == 0) = true) :
    Calls Tryd.prog 37 #[.slice A L.length c, .slice B l.length d, .slice C m.length d2] w fun e w' => e = .returned (.tuple #[.string ⟨#[]⟩, .int .i64 2]) ∧ Below w.heap.size w w' := by
  have hi := info76_iv (x := mc L) (mcP_len L 36)
  have hsz := hsz76 L
  go_enter Tryd.func37, Tryd.ntmps37
  go_wp2_with (first
    | (go_at_call 50; refine HR.out.mono ?_; rintro e w2 ⟨rfl, b2⟩; have q0 : Row (w2.alloc (.cells #[.int .i64 0, .int .i64 0, .int .i64 0, .int .i64 0, .int .i64 0, .int .i64 0, .int .i64 0, .int .i64 0, .int .i64 0, .int .i64 0, .int .i64 0, .int .i64 0, .int .i64 0, .int .i64 0, .int .i64 0, .int .i64 0, .int .i64 0, .int .i64 0, .int .i64 0, .int .i64 0, .int .i64 0, .int .i64 0, .int .i64 0, .int .i64 0, .int .i64 0, .int .i64 0, .int .i64 0, .int .i64 0, .int .i64 0, .int .i64 0, .int .i64 0, .int .i64 0, .int .i64 0, .int .i64 0, .int .i64 0, .int .i64 0, .int .i64 0, .int .i64 0] 76)) w2.heap.size 76 Z38 := row_new rfl; have b0 := b2.alloc b2.size (.cells #[.int .i64 0, .int .i64 0, .int .i64 0, .int .i64 0, .int .i64 0, .int .i64 0, .int .i64 0, .int .i64 0, .int .i64 0, .int .i64 0, .int .i64 0, .int .i64 0, .int .i64 0, .int .i64 0, .int .i64 0, .int .i64 0, .int .i64 0, .int .i64 0, .int .i64 0, .int .i64 0, .int .i64 0, .int .i64 0, .int .i64 0, .int .i64 0, .int .i64 0, .int .i64 0, .int .i64 0, .int .i64 0, .int .i64 0, .int .i64 0, .int .i64 0, .int .i64 0, .int .i64 0, .int .i64 0, .int .i64 0, .int .i64 0, .int .i64 0, .int .i64 0] 76); have hbz := b2.size)
    | (with_reducible refine (?_ : wpList _ _ _ (Oper.mk _ (Op.store 76 (.tmp 8) _) _ _ _ _ :: _) _ _); refine wpList_store_row rfl 76 (.tmp 8) (.tmp 19) rfl w2.heap.size (iv (mc L)).toArray rfl rfl 76 Z38.toArray (row_heap q0) hi hsz (iv_all _) ?_; replace q0 := q0.row (iv (mc L)); replace b0 := below_row (g := w2.heap.size) b0 hbz (iv (mc L)).toArray; generalize World.setRow (w2.alloc _) _ _ = W at *)
    | ((with_reducible refine (?_ : wpList _ _ _ (Oper.mk (some 24) _ _ _ _ _ :: _) _ _)); refine wpList_load_row rfl 76 (.tmp 8) rfl w2.heap.size rfl 76 (iv (mc L)).toArray (0, 0) _ (row_heap q0) Tryd.underlying76 rfl hi ?_)
    | ((with_reducible refine (?_ : wpList _ _ _ (Oper.mk (some 30) _ _ _ _ _ :: _) _ _)); refine wpList_load_row rfl 76 (.tmp 8) rfl w2.heap.size rfl 76 (iv (mc L)).toArray (0, 0) _ (row_heap q1) Tryd.underlying76 rfl hi ?_)
    | (go_at_call 61; first | (with_reducible refine (HS1.out _ b0).mono ?_; rintro e w3 ⟨rfl, b3⟩; have q1 := q0.below b3; replace b0 := b0.trans (b3.mono b0.size)) | (with_reducible refine (HS2.out _ b0).mono ?_; rintro e w4 ⟨rfl, b4⟩; have q2 := q1.below b4; replace b0 := b0.trans (b4.mono b0.size); have hb4 := b0.size; have n4 : Row (w4.alloc (.cells #[.int .u16 (sb : Nat)] 80)) w4.heap.size 80 [.int .u16 (sb : Nat)] := row_new rfl; replace b0 := b0.alloc hb4 (.cells #[.int .u16 (sb : Nat)] 80); have q3 := q2.alloc (.cells #[.int .u16 (sb : Nat)] 80); have c4 := n4.cell 0)))
  go_ret2
  exact ⟨rfl, b0⟩
theorem lead_00 (A B C : Option Addr) (c d d2 : Nat) (L : List (List Int)) (l m : List Int) (w : World) (HR : Hid (Calls Tryd.prog 50 #[.slice A L.length c] w fun e w' => e = .returned (.tuple #[.agg (iv (mc L)).toArray, .bool true]) ∧ Below w.heap.size w w')) (sa sb : Nat)
    (HS1 : Hid (∀ V, Below w.heap.size w V → Calls Tryd.prog 61 #[.agg (iv (mc L)).toArray, .slice B l.length d] V fun e w' => e = .returned (.tuple #[.int .u16 (sa : Nat), .bool true]) ∧ Below V.heap.size V w'))
    (HS2 : Hid (∀ V, Below w.heap.size w V → Calls Tryd.prog 61 #[.agg (iv (mc L)).toArray, .slice C m.length d2] V fun e w' => e = .returned (.tuple #[.int .u16 (sb : Nat), .bool true]) ∧ Below V.heap.size V w')) (g1 : ((sa : Int) == 0) = false) (g2 : ((sb : Int) == 0) = true) :
    Calls Tryd.prog 37 #[.slice A L.length c, .slice B l.length d, .slice C m.length d2] w fun e w' => e = .returned (.tuple #[.string ⟨#[]⟩, .int .i64 2]) ∧ Below w.heap.size w w' := by
  have hi := info76_iv (x := mc L) (mcP_len L 36)
  have hsz := hsz76 L
  go_enter Tryd.func37, Tryd.ntmps37
  go_wp2_with (first
    | (go_at_call 50; refine HR.out.mono ?_; rintro e w2 ⟨rfl, b2⟩; have q0 : Row (w2.alloc (.cells #[.int .i64 0, .int .i64 0, .int .i64 0, .int .i64 0, .int .i64 0, .int .i64 0, .int .i64 0, .int .i64 0, .int .i64 0, .int .i64 0, .int .i64 0, .int .i64 0, .int .i64 0, .int .i64 0, .int .i64 0, .int .i64 0, .int .i64 0, .int .i64 0, .int .i64 0, .int .i64 0, .int .i64 0, .int .i64 0, .int .i64 0, .int .i64 0, .int .i64 0, .int .i64 0, .int .i64 0, .int .i64 0, .int .i64 0, .int .i64 0, .int .i64 0, .int .i64 0, .int .i64 0, .int .i64 0, .int .i64 0, .int .i64 0, .int .i64 0, .int .i64 0] 76)) w2.heap.size 76 Z38 := row_new rfl; have b0 := b2.alloc b2.size (.cells #[.int .i64 0, .int .i64 0, .int .i64 0, .int .i64 0, .int .i64 0, .int .i64 0, .int .i64 0, .int .i64 0, .int .i64 0, .int .i64 0, .int .i64 0, .int .i64 0, .int .i64 0, .int .i64 0, .int .i64 0, .int .i64 0, .int .i64 0, .int .i64 0, .int .i64 0, .int .i64 0, .int .i64 0, .int .i64 0, .int .i64 0, .int .i64 0, .int .i64 0, .int .i64 0, .int .i64 0, .int .i64 0, .int .i64 0, .int .i64 0, .int .i64 0, .int .i64 0, .int .i64 0, .int .i64 0, .int .i64 0, .int .i64 0, .int .i64 0, .int .i64 0] 76); have hbz := b2.size)
    | (with_reducible refine (?_ : wpList _ _ _ (Oper.mk _ (Op.store 76 (.tmp 8) _) _ _ _ _ :: _) _ _); refine wpList_store_row rfl 76 (.tmp 8) (.tmp 19) rfl w2.heap.size (iv (mc L)).toArray rfl rfl 76 Z38.toArray (row_heap q0) hi hsz (iv_all _) ?_; replace q0 := q0.row (iv (mc L)); replace b0 := below_row (g := w2.heap.size) b0 hbz (iv (mc L)).toArray; generalize World.setRow (w2.alloc _) _ _ = W at *)
    | ((with_reducible refine (?_ : wpList _ _ _ (Oper.mk (some 24) _ _ _ _ _ :: _) _ _)); refine wpList_load_row rfl 76 (.tmp 8) rfl w2.heap.size rfl 76 (iv (mc L)).toArray (0, 0) _ (row_heap q0) Tryd.underlying76 rfl hi ?_)
    | ((with_reducible refine (?_ : wpList _ _ _ (Oper.mk (some 30) _ _ _ _ _ :: _) _ _)); refine wpList_load_row rfl 76 (.tmp 8) rfl w2.heap.size rfl 76 (iv (mc L)).toArray (0, 0) _ (row_heap q1) Tryd.underlying76 rfl hi ?_)
    | (go_at_call 61; first | (with_reducible refine (HS1.out _ b0).mono ?_; rintro e w3 ⟨rfl, b3⟩; have q1 := q0.below b3; replace b0 := b0.trans (b3.mono b0.size)) | (with_reducible refine (HS2.out _ b0).mono ?_; rintro e w4 ⟨rfl, b4⟩; have q2 := q1.below b4; replace b0 := b0.trans (b4.mono b0.size); have hb4 := b0.size; have n4 : Row (w4.alloc (.cells #[.int .u16 (sb : Nat)] 80)) w4.heap.size 80 [.int .u16 (sb : Nat)] := row_new rfl; replace b0 := b0.alloc hb4 (.cells #[.int .u16 (sb : Nat)] 80); have q3 := q2.alloc (.cells #[.int .u16 (sb : Nat)] 80); have c4 := n4.cell 0)))
  go_ret2
  exact ⟨rfl, b0⟩
theorem lead_none (A B C : Option Addr) (c d d2 : Nat) (L : List (List Int)) (l m : List Int) (w : World) (HR : Hid (Calls Tryd.prog 50 #[.slice A L.length c] w fun e w' => e = .returned (.tuple #[.agg (iv (mc L)).toArray, .bool true]) ∧ Below w.heap.size w w')) (sa sb : Nat)
    (HS1 : Hid (∀ V, Below w.heap.size w V → Calls Tryd.prog 61 #[.agg (iv (mc L)).toArray, .slice B l.length d] V fun e w' => e = .returned (.tuple #[.int .u16 (sa : Nat), .bool true]) ∧ Below V.heap.size V w'))
    (HS2 : Hid (∀ V, Below w.heap.size w V → Calls Tryd.prog 61 #[.agg (iv (mc L)).toArray, .slice C m.length d2] V fun e w' => e = .returned (.tuple #[.int .u16 (sb : Nat), .bool true]) ∧ Below V.heap.size V w')) (g1 : ((sa : Int) == 0) = false) (g2 : ((sb : Int) == 0) = false)
    (HK : Hid (∀ V P, Below w.heap.size w V → V.cell? ⟨P, 0, none⟩ = some (.int .u16 (sb : Nat)) → Calls Tryd.prog 66 #[.agg (iv (mc L)).toArray, .int .u16 (sa : Nat), .func (.func 67) #[] #[.pointer (some ⟨P, 0, none⟩)]] V fun e w' => e = .returned (.tuple #[.string ⟨#[]⟩, .int .u16 0, .bool false]) ∧ Below V.heap.size V w')) :
    Calls Tryd.prog 37 #[.slice A L.length c, .slice B l.length d, .slice C m.length d2] w fun e w' => e = .returned (.tuple #[.string ⟨#[]⟩, .int .i64 6]) ∧ Below w.heap.size w w' := by
  have hi := info76_iv (x := mc L) (mcP_len L 36)
  have hsz := hsz76 L
  go_enter Tryd.func37, Tryd.ntmps37
  go_wp2_with (first
    | (go_at_call 50; refine HR.out.mono ?_; rintro e w2 ⟨rfl, b2⟩; have q0 : Row (w2.alloc (.cells #[.int .i64 0, .int .i64 0, .int .i64 0, .int .i64 0, .int .i64 0, .int .i64 0, .int .i64 0, .int .i64 0, .int .i64 0, .int .i64 0, .int .i64 0, .int .i64 0, .int .i64 0, .int .i64 0, .int .i64 0, .int .i64 0, .int .i64 0, .int .i64 0, .int .i64 0, .int .i64 0, .int .i64 0, .int .i64 0, .int .i64 0, .int .i64 0, .int .i64 0, .int .i64 0, .int .i64 0, .int .i64 0, .int .i64 0, .int .i64 0, .int .i64 0, .int .i64 0, .int .i64 0, .int .i64 0, .int .i64 0, .int .i64 0, .int .i64 0, .int .i64 0] 76)) w2.heap.size 76 Z38 := row_new rfl; have b0 := b2.alloc b2.size (.cells #[.int .i64 0, .int .i64 0, .int .i64 0, .int .i64 0, .int .i64 0, .int .i64 0, .int .i64 0, .int .i64 0, .int .i64 0, .int .i64 0, .int .i64 0, .int .i64 0, .int .i64 0, .int .i64 0, .int .i64 0, .int .i64 0, .int .i64 0, .int .i64 0, .int .i64 0, .int .i64 0, .int .i64 0, .int .i64 0, .int .i64 0, .int .i64 0, .int .i64 0, .int .i64 0, .int .i64 0, .int .i64 0, .int .i64 0, .int .i64 0, .int .i64 0, .int .i64 0, .int .i64 0, .int .i64 0, .int .i64 0, .int .i64 0, .int .i64 0, .int .i64 0] 76); have hbz := b2.size)
    | (with_reducible refine (?_ : wpList _ _ _ (Oper.mk _ (Op.store 76 (.tmp 8) _) _ _ _ _ :: _) _ _); refine wpList_store_row rfl 76 (.tmp 8) (.tmp 19) rfl w2.heap.size (iv (mc L)).toArray rfl rfl 76 Z38.toArray (row_heap q0) hi hsz (iv_all _) ?_; replace q0 := q0.row (iv (mc L)); replace b0 := below_row (g := w2.heap.size) b0 hbz (iv (mc L)).toArray; generalize World.setRow (w2.alloc _) _ _ = W at *)
    | ((with_reducible refine (?_ : wpList _ _ _ (Oper.mk (some 24) _ _ _ _ _ :: _) _ _)); refine wpList_load_row rfl 76 (.tmp 8) rfl w2.heap.size rfl 76 (iv (mc L)).toArray (0, 0) _ (row_heap q0) Tryd.underlying76 rfl hi ?_)
    | ((with_reducible refine (?_ : wpList _ _ _ (Oper.mk (some 30) _ _ _ _ _ :: _) _ _)); refine wpList_load_row rfl 76 (.tmp 8) rfl w2.heap.size rfl 76 (iv (mc L)).toArray (0, 0) _ (row_heap q1) Tryd.underlying76 rfl hi ?_)
    | (go_at_call 61; first | (with_reducible refine (HS1.out _ b0).mono ?_; rintro e w3 ⟨rfl, b3⟩; have q1 := q0.below b3; replace b0 := b0.trans (b3.mono b0.size)) | (with_reducible refine (HS2.out _ b0).mono ?_; rintro e w4 ⟨rfl, b4⟩; have q2 := q1.below b4; replace b0 := b0.trans (b4.mono b0.size); have hb4 := b0.size; have n4 : Row (w4.alloc (.cells #[.int .u16 (sb : Nat)] 80)) w4.heap.size 80 [.int .u16 (sb : Nat)] := row_new rfl; replace b0 := b0.alloc hb4 (.cells #[.int .u16 (sb : Nat)] 80); have q3 := q2.alloc (.cells #[.int .u16 (sb : Nat)] 80); have c4 := n4.cell 0))
    | ((with_reducible refine (?_ : wpList _ _ _ (Oper.mk (some 50) _ _ _ _ _ :: _) _ _)); refine wpList_load_row rfl 76 (.tmp 8) rfl w2.heap.size rfl 76 (iv (mc L)).toArray (0, 0) _ (row_heap q3) Tryd.underlying76 rfl hi ?_)
    | (go_at_call 66; refine (HK.out _ _ b0 c4).mono ?_; rintro e w5 ⟨rfl, b5⟩; replace b0 := b0.trans (b5.mono b0.size)))
  go_ret2
  exact ⟨rfl, b0⟩
theorem lead_some (A B C : Option Addr) (c d d2 : Nat) (L : List (List Int)) (l m : List Int) (w : World) (HR : Hid (Calls Tryd.prog 50 #[.slice A L.length c] w fun e w' => e = .returned (.tuple #[.agg (iv (mc L)).toArray, .bool true]) ∧ Below w.heap.size w w')) (sa sb : Nat)
    (HS1 : Hid (∀ V, Below w.heap.size w V → Calls Tryd.prog 61 #[.agg (iv (mc L)).toArray, .slice B l.length d] V fun e w' => e = .returned (.tuple #[.int .u16 (sa : Nat), .bool true]) ∧ Below V.heap.size V w'))
    (HS2 : Hid (∀ V, Below w.heap.size w V → Calls Tryd.prog 61 #[.agg (iv (mc L)).toArray, .slice C m.length d2] V fun e w' => e = .returned (.tuple #[.int .u16 (sb : Nat), .bool true]) ∧ Below V.heap.size V w')) (S : ByteArray) (z : Nat) (g1 : ((sa : Int) == 0) = false) (g2 : ((sb : Int) == 0) = false)
    (HK : Hid (∀ V P, Below w.heap.size w V → V.cell? ⟨P, 0, none⟩ = some (.int .u16 (sb : Nat)) → Calls Tryd.prog 66 #[.agg (iv (mc L)).toArray, .int .u16 (sa : Nat), .func (.func 67) #[] #[.pointer (some ⟨P, 0, none⟩)]] V fun e w' => e = .returned (.tuple #[.string S, .int .u16 (z : Nat), .bool true]) ∧ Below V.heap.size V w')) :
    Calls Tryd.prog 37 #[.slice A L.length c, .slice B l.length d, .slice C m.length d2] w fun e w' => e = .returned (.tuple #[.string S, .int .i64 0]) ∧ Below w.heap.size w w' := by
  have hi := info76_iv (x := mc L) (mcP_len L 36)
  have hsz := hsz76 L
  go_enter Tryd.func37, Tryd.ntmps37
  go_wp2_with (first
    | (go_at_call 50; refine HR.out.mono ?_; rintro e w2 ⟨rfl, b2⟩; have q0 : Row (w2.alloc (.cells #[.int .i64 0, .int .i64 0, .int .i64 0, .int .i64 0, .int .i64 0, .int .i64 0, .int .i64 0, .int .i64 0, .int .i64 0, .int .i64 0, .int .i64 0, .int .i64 0, .int .i64 0, .int .i64 0, .int .i64 0, .int .i64 0, .int .i64 0, .int .i64 0, .int .i64 0, .int .i64 0, .int .i64 0, .int .i64 0, .int .i64 0, .int .i64 0, .int .i64 0, .int .i64 0, .int .i64 0, .int .i64 0, .int .i64 0, .int .i64 0, .int .i64 0, .int .i64 0, .int .i64 0, .int .i64 0, .int .i64 0, .int .i64 0, .int .i64 0, .int .i64 0] 76)) w2.heap.size 76 Z38 := row_new rfl; have b0 := b2.alloc b2.size (.cells #[.int .i64 0, .int .i64 0, .int .i64 0, .int .i64 0, .int .i64 0, .int .i64 0, .int .i64 0, .int .i64 0, .int .i64 0, .int .i64 0, .int .i64 0, .int .i64 0, .int .i64 0, .int .i64 0, .int .i64 0, .int .i64 0, .int .i64 0, .int .i64 0, .int .i64 0, .int .i64 0, .int .i64 0, .int .i64 0, .int .i64 0, .int .i64 0, .int .i64 0, .int .i64 0, .int .i64 0, .int .i64 0, .int .i64 0, .int .i64 0, .int .i64 0, .int .i64 0, .int .i64 0, .int .i64 0, .int .i64 0, .int .i64 0, .int .i64 0, .int .i64 0] 76); have hbz := b2.size)
    | (with_reducible refine (?_ : wpList _ _ _ (Oper.mk _ (Op.store 76 (.tmp 8) _) _ _ _ _ :: _) _ _); refine wpList_store_row rfl 76 (.tmp 8) (.tmp 19) rfl w2.heap.size (iv (mc L)).toArray rfl rfl 76 Z38.toArray (row_heap q0) hi hsz (iv_all _) ?_; replace q0 := q0.row (iv (mc L)); replace b0 := below_row (g := w2.heap.size) b0 hbz (iv (mc L)).toArray; generalize World.setRow (w2.alloc _) _ _ = W at *)
    | ((with_reducible refine (?_ : wpList _ _ _ (Oper.mk (some 24) _ _ _ _ _ :: _) _ _)); refine wpList_load_row rfl 76 (.tmp 8) rfl w2.heap.size rfl 76 (iv (mc L)).toArray (0, 0) _ (row_heap q0) Tryd.underlying76 rfl hi ?_)
    | ((with_reducible refine (?_ : wpList _ _ _ (Oper.mk (some 30) _ _ _ _ _ :: _) _ _)); refine wpList_load_row rfl 76 (.tmp 8) rfl w2.heap.size rfl 76 (iv (mc L)).toArray (0, 0) _ (row_heap q1) Tryd.underlying76 rfl hi ?_)
    | (go_at_call 61; first | (with_reducible refine (HS1.out _ b0).mono ?_; rintro e w3 ⟨rfl, b3⟩; have q1 := q0.below b3; replace b0 := b0.trans (b3.mono b0.size)) | (with_reducible refine (HS2.out _ b0).mono ?_; rintro e w4 ⟨rfl, b4⟩; have q2 := q1.below b4; replace b0 := b0.trans (b4.mono b0.size); have hb4 := b0.size; have n4 : Row (w4.alloc (.cells #[.int .u16 (sb : Nat)] 80)) w4.heap.size 80 [.int .u16 (sb : Nat)] := row_new rfl; replace b0 := b0.alloc hb4 (.cells #[.int .u16 (sb : Nat)] 80); have q3 := q2.alloc (.cells #[.int .u16 (sb : Nat)] 80); have c4 := n4.cell 0))
    | ((with_reducible refine (?_ : wpList _ _ _ (Oper.mk (some 50) _ _ _ _ _ :: _) _ _)); refine wpList_load_row rfl 76 (.tmp 8) rfl w2.heap.size rfl 76 (iv (mc L)).toArray (0, 0) _ (row_heap q3) Tryd.underlying76 rfl hi ?_)
    | (go_at_call 66; refine (HK.out _ _ b0 c4).mono ?_; rintro e w5 ⟨rfl, b5⟩; replace b0 := b0.trans (b5.mono b0.size)))
  go_ret2
  exact ⟨rfl, b0⟩
end Go.Proofs.YtignbpipdfjkeaaDoor
