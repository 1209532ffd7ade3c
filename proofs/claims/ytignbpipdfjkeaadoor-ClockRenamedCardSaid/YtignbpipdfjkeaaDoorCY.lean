/- canComplete, isSame, Same walked. -/
import Derived.Test.YtignbpipdfjkeaaDoorCX
namespace Go.Proofs.YtignbpipdfjkeaaDoor
open Go.RowKit Go.PlainAid
set_option maxHeartbeats 4000000
set_option maxRecDepth 100000
theorem xor_D : ((List.range 512).all fun d => bits BinOp.xor IntKind.u16 (if IntKind.u16.signed = true then -1 else IntKind.u16.max) (d : Int) == ((65535 - d : Nat) : Int)) = true := by decide +kernel
theorem xor_u16 {d : Nat} (h : d < 512) : bits BinOp.xor IntKind.u16 (if IntKind.u16.signed = true then -1 else IntKind.u16.max) (d : Int) = ((65535 - d : Nat) : Int) := beq_iff_eq.1 (List.all_eq_true.1 xor_D d (List.mem_range.2 h))
theorem cc_any (L O : List (List Int)) (k n : Nat) (hL : IsMI L) (hO : IsMI O) (hk : L.length = k) (hk' : O.length = k) (hn : nS L = n) (hn' : nS O = n) : ∀ (f : Nat) (r : Rn) (w : World), GoodR n r → unn n r < f → TabW w →
    Calls Tryd.prog 76 #[.agg (iv (mc L)).toArray, .agg (iv (mc O)).toArray, .agg (rnc r).toArray] w fun e w' => e = .returned (.bool (cc (tabN L) (tabN O) k n f r)) ∧ Below w.heap.size w w'
  | 0, _, _, _, h, _ => by omega
  | f + 1, r, w, hG, hu, ht => by
    have hn9 : n ≤ 9 := by have := hL.n9; omega
    have ih := Lib.hid (cc_any L O k n hL hO hk hk' hn hn' f)
    have HWN := Lib.hid (fun m V (hs : frS r.dom < n) (hm : m < n) => wn_any L O k n hL hO hk hk' hn hn' 10 r (frS r.dom) m V hG hs hm (by have := unn_n n r; omega))
    have HWS := Lib.hid (fun m r' (hs : frS r.dom < n) (hm : m < n) e => wn_sound (T := tabN L) (U := tabN O) (k := k) (n := n) hn9 (fun b q hb hq => (show ld (tabN L) b q < n from hn ▸ hL.isM.lt b q (by omega) (by omega))) (fun b q hb hq => (show ld (tabN O) b q < n from hn' ▸ hO.isM.lt b q (by omega) (by omega))) 10 r (frS r.dom) m r' hG hs hm e)
    have hi1 := info76_iv (x := mc L) (mcP_len L 36)
    have hi2 := info76_iv (x := mc O) (mcP_len O 36)
    have hl9 := hG.len
    have hd := Nat.lt_of_lt_of_le hG.dn (Nat.pow_le_pow_right (show 0 < 2 by decide) hn9)
    have hd' : r.dom < 512 := hd
    obtain ⟨f1, f2⟩ := frS_ok hd'
    have hfn : frS r.dom ≤ n := by
      rcases Nat.lt_or_ge n (frS r.dom) with h | h
      · have := f2 n h
        rw [Nat.testBit_lt_two_pow hG.dn] at this; cases this
      · exact h
    have HU := Lib.hid (fun m r' (hs : frS r.dom < n) (hm : m < n) e => unn_lt (HWS.out m r' hs hm e).le hs f1 (HWS.out m r' hs hm e).has)
    have HSM := Lib.hid (fun V (hV : Below w.heap.size w V) => smallest_any (65535 - r.dom) V (.inr ⟨r.dom, hd', rfl⟩) (ht.below hV ht.lt))
    rw [show tzS (65535 - r.dom) = frS r.dom from rfl] at HSM
    have r5 : Row (((w.alloc (.cells (iv (mc L)).toArray 76)).alloc (.cells (iv (mc O)).toArray 76)).alloc (.cells (rnc r).toArray 114)) w.heap.size 76 (iv (mc L)) := ((row_new rfl).alloc _).alloc _
    have r6 : Row (((w.alloc (.cells (iv (mc L)).toArray 76)).alloc (.cells (iv (mc O)).toArray 76)).alloc (.cells (rnc r).toArray 114)) (w.heap.size + 1) 76 (iv (mc O)) := (row_new (by simp)).alloc _
    have r7 : Row (((w.alloc (.cells (iv (mc L)).toArray 76)).alloc (.cells (iv (mc O)).toArray 76)).alloc (.cells (rnc r).toArray 114)) (w.heap.size + 1 + 1) 114 (rnc r) := row_new (by simp)
    have b0 : Below w.heap.size w (((w.alloc (.cells (iv (mc L)).toArray 76)).alloc (.cells (iv (mc O)).toArray 76)).alloc (.cells (rnc r).toArray 114)) := by (repeat (first | exact Below.refl _ _ | assumption | (refine Below.setCell ?_ (by first | exact Nat.le_refl _ | omega | (simp; done) | (simp; omega)) _) | (refine Below.trans ?_ (below_drewN _)) | (refine Below.drew ?_) | (refine Below.alloc ?_ (by first | exact Nat.le_refl _ | omega | (simp; done) | (simp; omega)) _) | (refine below_row ?_ (by first | exact Nat.le_refl _ | omega | (simp; done) | (simp; omega)) _)))
    have c7 := r7.cell 0
    rw [show (rnc r)[0]? = some (Value.int .u16 r.dom) from rfl] at c7
    have c5 := ivR r5 (i := 0) (by unfold mc; rw [mcP_len]; omega)
    rw [show geti (mc L) 0 = (nS L : Int) from rfl, hn] at c5
    have HXR := Lib.hid (xor_u16 hd')
    have HCC : Hid (cc (tabN L) (tabN O) k n (f + 1) r = if frS r.dom = n then true else (List.range n).any fun m => match wn (tabN L) (tabN O) k 10 r (frS r.dom) m with
      | none => false
      | some r' => cc (tabN L) (tabN O) k n f r') := Lib.hid rfl
    have HLL : Hid ((mc L).length = 38) := Lib.hid (mcP_len L 36)
    have HLO : Hid ((mc O).length = 38) := Lib.hid (mcP_len O 36)
    have TW : Hid (∀ V, Below w.heap.size w V → TabW V) := Lib.hid (fun V hV => ht.below hV ht.lt)
    obtain ⟨CR, hCR⟩ : ∃ CR, cc (tabN L) (tabN O) k n (f + 1) r = CR := ⟨_, rfl⟩
    have HRE := Lib.hid hCR
    rw [hCR] at HCC
    have HUF := Lib.hid hu
    clear hL hO hk hk' hn hn' hG hu ht hd f1 f2 hCR
    generalize frS r.dom = s at *
    by_cases hsn : s = n
    · have g1 : ((s : Int) == (n : Int)) = true := by rw [beq_iff_eq]; omega
      have HC2 := Lib.hid HCC.out
      rw [if_pos hsn] at HC2
      clear HCC hsn ih HWN HWS HU
      go_enter Tryd.func76, Tryd.ntmps76
      go_wp2_with (go_at_call 53; rw [HXR.out]; (with_reducible refine (HSM.out _ b0).mono ?_); rintro e _ ⟨rfl, nq, rfl⟩; replace r5 := r5.drewN nq; replace r6 := r6.drewN nq; replace r7 := r7.drewN nq; replace b0 := b0.trans (below_drewN nq))
      go_ret
      exact ⟨by rw [HRE.out, HC2.out]; rfl, b0⟩
    · have g1 : ((s : Int) == (n : Int)) = false := by rw [beq_eq_false_iff_ne]; omega
      have hs : s < n := by omega
      have HC2 := Lib.hid HCC.out
      rw [if_neg hsn] at HC2
      have HWN2 := Lib.hid (fun m V (hm : m < n) => HWN.out m V hs hm)
      have HWS2 := Lib.hid (fun m r' (hm : m < n) e => HWS.out m r' hs hm e)
      have HU2 := Lib.hid (fun m r' (hm : m < n) e => HU.out m r' hs hm e)
      clear HCC hsn HWN HWS HU
      generalize tabN L = T at *
      generalize tabN O = U at *
      generalize mc L = mL at *
      generalize mc O = mO at *
      obtain ⟨g, hg⟩ : ∃ g : Nat → Bool, g = fun m => match wn T U k 10 r s m with
        | none => false
        | some r' => cc T U k n f r' := ⟨_, rfl⟩
      have HG := Lib.hid (fun m => congrFun hg m)
      rw [← hg] at HC2
      clear hg
      go_enter Tryd.func76, Tryd.ntmps76
      go_wp2_with (go_at_call 53; rw [HXR.out]; (with_reducible refine (HSM.out _ b0).mono ?_); rintro e _ ⟨rfl, nq, rfl⟩; replace r5 := r5.drewN nq; replace r6 := r6.drewN nq; replace r7 := r7.drewN nq; replace b0 := b0.trans (below_drewN nq))
      generalize hW0 : World.drewN _ nq = W0 at *
      clear c7 c5 hW0 HSM HXR
      have HN0 : Hid (∀ j, j < 0 → g j = false) := Lib.hid (fun j hj => absurd hj (by omega))
      go_loopw [21] (fun v wr => ∃ m : Nat, v = .int .i64 m ∧ m ≤ n ∧ Row wr w.heap.size 76 (iv mL) ∧ Row wr (w.heap.size + 1) 76 (iv mO) ∧ Row wr (w.heap.size + 1 + 1) 114 (rnc r) ∧ Below w.heap.size w wr ∧ Hid (∀ j, j < m → g j = false)) (fun v _ => n - (intOf v).toNat)
      case atStart => exact ⟨0, rfl, by omega, r5, r6, r7, b0, HN0⟩
      case round =>
        clear r5 r6 r7 b0 HN0
        obtain ⟨m, rfl, hm, r5, r6, r7, b0, HN⟩ := hrel
        by_cases hlt : m < n
        · have g2 : decide (m < n) = true := decide_eq_true hlt
          have g2' : decide ((m : Int) < (n : Int)) = true := decide_eq_true (by omega)
          have HW1 := Lib.hid (fun V => HWN2.out m V hlt)
          have HG1 := Lib.hid (HG.out m)
          have HS1 := Lib.hid (fun r' e => HWS2.out m r' hlt e)
          have HU1 := Lib.hid (fun r' e => HU2.out m r' hlt e)
          obtain ⟨Q, hQ⟩ : ∃ Q, wn T U k 10 r s m = Q := ⟨_, rfl⟩
          rw [hQ] at HW1 HG1 HS1 HU1
          have hsz := b0.size
          clear hQ HWN2 HWS2 HU2 HG
          go_wp2_with (first
            | ((with_reducible refine (?_ : wpList _ _ _ (Oper.mk (some 25) _ _ _ _ _ :: _) _ _)); refine wpList_load_row rfl 76 (.tmp 3) rfl w.heap.size rfl 76 (iv mL).toArray (0, 0) _ (row_heap r5) Tryd.underlying76 rfl hi1 ?_)
            | ((with_reducible refine (?_ : wpList _ _ _ (Oper.mk (some 26) _ _ _ _ _ :: _) _ _)); refine wpList_load_row rfl 76 (.tmp 4) rfl (w.heap.size + 1) rfl 76 (iv mO).toArray (0, 0) _ (row_heap r6) Tryd.underlying76 rfl hi2 ?_)
            | ((with_reducible refine (?_ : wpList _ _ _ (Oper.mk (some 27) _ _ _ _ _ :: _) _ _)); refine wpList_load_row rfl 114 (.tmp 5) rfl (w.heap.size + 1 + 1) rfl 114 (rnc r).toArray (0, 0) _ (row_heap r7) Tryd.underlying114 rfl (info114 hl9) ?_)
            | (go_at_call 79; fail))
          refine (HW1.out _).mono ?_
          rintro e w4 ⟨r1, h1l, rfl, h1q, b4⟩
          replace r5 := r5.below b4
          replace r6 := r6.below b4
          replace r7 := r7.below b4
          replace b0 := b0.trans (b4.mono b0.size)
          have hg4 := b0.size
          have ba : Below w4.heap.size w4 (w4.alloc (.cells #[.int .u16 0, .int .u16 0, .int .i64 0, .int .i64 0, .int .i64 0, .int .i64 0, .int .i64 0, .int .i64 0, .int .i64 0, .int .i64 0, .int .i64 0] 114)) := (Below.refl _ w4).alloc (Nat.le_refl _) _
          have h5 := r5.lt
          have h6 := r6.lt
          have h7 := r7.lt
          replace r5 := r5.below ba
          replace r6 := r6.below ba
          replace r7 := r7.below ba
          replace b0 := b0.trans (ba.mono b0.size)
          have r9 : Row (w4.alloc (.cells #[.int .u16 0, .int .u16 0, .int .i64 0, .int .i64 0, .int .i64 0, .int .i64 0, .int .i64 0, .int .i64 0, .int .i64 0, .int .i64 0, .int .i64 0] 114)) w4.heap.size 114 [.int .u16 0, .int .u16 0, .int .i64 0, .int .i64 0, .int .i64 0, .int .i64 0, .int .i64 0, .int .i64 0, .int .i64 0, .int .i64 0, .int .i64 0] := row_new rfl
          have q9 := r9.row (rnc r1)
          replace r5 := r5.row_far (k := w4.heap.size) (by omega) (rnc r1).toArray
          replace r6 := r6.row_far (k := w4.heap.size) (by omega) (rnc r1).toArray
          replace r7 := r7.row_far (k := w4.heap.size) (by omega) (rnc r1).toArray
          replace b0 := below_row (g := w4.heap.size) b0 (by omega) (rnc r1).toArray
          clear HW1 b4 ba
          cases hQ2 : Q with
          | none =>
            rw [hQ2] at HG1
            have hgm : g m = false := HG1.out
            have HN2 : Hid (∀ j, j < m + 1 → g j = false) := Lib.hid (fun j hj => by
              by_cases e : j = m
              · rw [e]; exact hgm
              · exact HN.out j (by omega))
            clear HS1 HU1 HG1 HN hgm ih h1q
            go_wp2_with (with_reducible refine (?_ : wpList _ _ _ (Oper.mk _ (Op.store 114 (.tmp 9) _) _ _ _ _ :: _) _ _); refine wpList_store_row rfl 114 (.tmp 9) (.tmp 31) rfl w4.heap.size (rnc r1).toArray rfl rfl 114 _ (row_heap r9) (info114 h1l) (z11_size h1l) (rnc_all r1) ?_)
            go_roundw
            case rel => exact ⟨m + 1, by go_num, by omega, r5, r6, r7, b0, HN2⟩
            case measure => simp [intOf]; omega
          | some r2 =>
            obtain rfl : r1 = r2 := h1q r2 hQ2
            rw [hQ2] at HG1
            have hgm : g m = cc T U k n f r1 := HG1.out
            have hw := HS1.out r1 hQ2
            have hu := HU1.out r1 hQ2
            generalize hW7 : World.setRow _ _ _ = W7 at r5 r6 r7 b0 q9
            have HIH := Lib.hid (ih.out r1 W7 hw.good (by have := HUF.out; omega) (TW.out W7 b0))
            have HW7 := Lib.hid hW7
            clear hW7 HS1 HU1 HG1 h1q hw hu
            cases hb : cc T U k n f r1 with
            | true =>
              rw [hb] at HIH hgm
              have hend : (List.range n).any g = true := List.any_eq_true.2 ⟨m, List.mem_range.2 hlt, hgm⟩
              rw [hend] at HC2
              clear hend hgm HN hb ih
              go_wp2_with (first
                | (with_reducible refine (?_ : wpList _ _ _ (Oper.mk _ (Op.store 114 (.tmp 9) _) _ _ _ _ :: _) _ _); refine wpList_store_row rfl 114 (.tmp 9) (.tmp 31) rfl w4.heap.size (rnc r1).toArray rfl rfl 114 _ (row_heap r9) (info114 h1l) (z11_size h1l) (rnc_all r1) ?_; rw [HW7.out])
                | ((with_reducible refine (?_ : wpList _ _ _ (Oper.mk (some 35) _ _ _ _ _ :: _) _ _)); refine wpList_load_row_w rfl 76 (.tmp 3) rfl w.heap.size rfl 76 (iv mL).toArray (0, 0) _ (row_heap r5) Tryd.underlying76 rfl hi1 ?_)
                | ((with_reducible refine (?_ : wpList _ _ _ (Oper.mk (some 36) _ _ _ _ _ :: _) _ _)); refine wpList_load_row_w rfl 76 (.tmp 4) rfl (w.heap.size + 1) rfl 76 (iv mO).toArray (0, 0) _ (row_heap r6) Tryd.underlying76 rfl hi2 ?_)
                | ((with_reducible refine (?_ : wpList _ _ _ (Oper.mk (some 37) _ _ _ _ _ :: _) _ _)); refine wpList_load_row_w rfl 114 (.tmp 9) rfl w4.heap.size rfl 114 (rnc r1).toArray (0, 0) _ (row_heap q9) Tryd.underlying114 rfl (info114 h1l) ?_)
                | (go_at_call 76; (with_reducible refine HIH.out.mono ?_); rintro e w8 ⟨rfl, b8⟩))
              go_ret
              exact ⟨by rw [HRE.out, HC2.out]; rfl, b0.trans (b8.mono b0.size)⟩
            | false =>
              rw [hb] at HIH hgm
              have HN2 : Hid (∀ j, j < m + 1 → g j = false) := Lib.hid (fun j hj => by
                by_cases e : j = m
                · rw [e]; exact hgm
                · exact HN.out j (by omega))
              clear hgm HN hb ih
              go_wp2_with (first
                | (with_reducible refine (?_ : wpList _ _ _ (Oper.mk _ (Op.store 114 (.tmp 9) _) _ _ _ _ :: _) _ _); refine wpList_store_row rfl 114 (.tmp 9) (.tmp 31) rfl w4.heap.size (rnc r1).toArray rfl rfl 114 _ (row_heap r9) (info114 h1l) (z11_size h1l) (rnc_all r1) ?_; rw [HW7.out])
                | ((with_reducible refine (?_ : wpList _ _ _ (Oper.mk (some 35) _ _ _ _ _ :: _) _ _)); refine wpList_load_row_w rfl 76 (.tmp 3) rfl w.heap.size rfl 76 (iv mL).toArray (0, 0) _ (row_heap r5) Tryd.underlying76 rfl hi1 ?_)
                | ((with_reducible refine (?_ : wpList _ _ _ (Oper.mk (some 36) _ _ _ _ _ :: _) _ _)); refine wpList_load_row_w rfl 76 (.tmp 4) rfl (w.heap.size + 1) rfl 76 (iv mO).toArray (0, 0) _ (row_heap r6) Tryd.underlying76 rfl hi2 ?_)
                | ((with_reducible refine (?_ : wpList _ _ _ (Oper.mk (some 37) _ _ _ _ _ :: _) _ _)); refine wpList_load_row_w rfl 114 (.tmp 9) rfl w4.heap.size rfl 114 (rnc r1).toArray (0, 0) _ (row_heap q9) Tryd.underlying114 rfl (info114 h1l) ?_)
                | (go_at_call 76; (with_reducible refine HIH.out.mono ?_); rintro e w8 ⟨rfl, b8⟩))
              go_roundw
              case rel => exact ⟨m + 1, by go_num, by omega, r5.below b8, r6.below b8, r7.below b8, b0.trans (b8.mono b0.size), HN2⟩
              case measure => simp [intOf]; omega
        · obtain rfl : m = n := by omega
          have g2 : decide (m < m) = false := decide_eq_false (by omega)
          have g2' : decide ((m : Int) < (m : Int)) = false := decide_eq_false (by omega)
          have hend : (List.range m).any g = false := by
            rw [List.any_eq_false]
            intro j hj
            rw [HN.out j (List.mem_range.1 hj)]; decide
          rw [hend] at HC2
          clear HN hend HWN2 HWS2 HU2 HG ih
          go_wp2
          go_ret
          exact ⟨by rw [HRE.out, HC2.out]; rfl, b0⟩
/-- What Same says. -/
def smB (L O : List (List Int)) : Bool := if nS L = nS O ∧ L.length = O.length then cc (tabN L) (tabN O) L.length (nS L) 10 zeroR else false
theorem isSame_any (L O : List (List Int)) (w : World) (hL : IsMI L) (hO : IsMI O) (ht : TabW w) : Calls Tryd.prog 68 #[.agg (iv (mc L)).toArray, .agg (iv (mc O)).toArray] w fun e w' => e = .returned (.bool (smB L O)) ∧ Below w.heap.size w w' := by
  have hi1 := info76_iv (x := mc L) (mcP_len L 36)
  have hi2 := info76_iv (x := mc O) (mcP_len O 36)
  have r5 : Row ((w.alloc (.cells (iv (mc L)).toArray 76)).alloc (.cells (iv (mc O)).toArray 76)) w.heap.size 76 (iv (mc L)) := (row_new rfl).alloc _
  have r6 : Row ((w.alloc (.cells (iv (mc L)).toArray 76)).alloc (.cells (iv (mc O)).toArray 76)) (w.heap.size + 1) 76 (iv (mc O)) := row_new (by simp)
  have b0 : Below w.heap.size w ((w.alloc (.cells (iv (mc L)).toArray 76)).alloc (.cells (iv (mc O)).toArray 76)) := by (repeat (first | exact Below.refl _ _ | assumption | (refine Below.setCell ?_ (by first | exact Nat.le_refl _ | omega | (simp; done) | (simp; omega)) _) | (refine Below.trans ?_ (below_drewN _)) | (refine Below.drew ?_) | (refine Below.alloc ?_ (by first | exact Nat.le_refl _ | omega | (simp; done) | (simp; omega)) _) | (refine below_row ?_ (by first | exact Nat.le_refl _ | omega | (simp; done) | (simp; omega)) _)))
  have c5 := ivR r5 (i := 0) (by unfold mc; rw [mcP_len]; omega)
  have d5 := ivR r5 (i := 1) (by unfold mc; rw [mcP_len]; omega)
  have c6 := ivR r6 (i := 0) (by unfold mc; rw [mcP_len]; omega)
  have d6 := ivR r6 (i := 1) (by unfold mc; rw [mcP_len]; omega)
  rw [show geti (mc L) 0 = (nS L : Int) from rfl] at c5
  rw [show geti (mc L) 1 = (L.length : Int) from rfl] at d5
  rw [show geti (mc O) 0 = (nS O : Int) from rfl] at c6
  rw [show geti (mc O) 1 = (O.length : Int) from rfl] at d6
  by_cases h1 : nS L = nS O
  · by_cases h2 : L.length = O.length
    · have HB : Hid (smB L O = cc (tabN L) (tabN O) L.length (nS L) 10 zeroR) := Lib.hid (by unfold smB; rw [if_pos ⟨h1, h2⟩])
      have g1 : ((nS L : Int) != (nS O : Int)) = false := by simp [h1]
      have g2 : ((L.length : Int) != (O.length : Int)) = false := by simp [h2]
      have HCC : Hid (Calls Tryd.prog 76 #[.agg (iv (mc L)).toArray, .agg (iv (mc O)).toArray, .agg #[.int .u16 0, .int .u16 0, .int .i64 0, .int .i64 0, .int .i64 0, .int .i64 0, .int .i64 0, .int .i64 0, .int .i64 0, .int .i64 0, .int .i64 0]] ((w.alloc (.cells (iv (mc L)).toArray 76)).alloc (.cells (iv (mc O)).toArray 76)) fun e w' => e = .returned (.bool (cc (tabN L) (tabN O) L.length (nS L) 10 zeroR)) ∧ Below ((w.alloc (.cells (iv (mc L)).toArray 76)).alloc (.cells (iv (mc O)).toArray 76)).heap.size ((w.alloc (.cells (iv (mc L)).toArray 76)).alloc (.cells (iv (mc O)).toArray 76)) w') :=
        Lib.hid (cc_any L O L.length (nS L) hL hO rfl h2.symm rfl h1.symm 10 zeroR _ (good_zero _) (by have := unn_n (nS L) zeroR; have := hL.n9; omega) (ht.below b0 ht.lt))
      rw [← HB.out] at HCC
      clear hL hO h1 h2 ht HB
      generalize smB L O = B at *
      go_enter Tryd.func68, Tryd.ntmps68
      go_wp2_with (first
        | ((with_reducible refine (?_ : wpList _ _ _ (Oper.mk (some 17) _ _ _ _ _ :: _) _ _)); refine wpList_load_row rfl 76 (.tmp 2) rfl w.heap.size rfl 76 (iv (mc L)).toArray (0, 0) _ (row_heap r5) Tryd.underlying76 rfl hi1 ?_)
        | ((with_reducible refine (?_ : wpList _ _ _ (Oper.mk (some 18) _ _ _ _ _ :: _) _ _)); refine wpList_load_row rfl 76 (.tmp 3) rfl (w.heap.size + 1) rfl 76 (iv (mc O)).toArray (0, 0) _ (row_heap r6) Tryd.underlying76 rfl hi2 ?_)
        | (go_at_call 76; (with_reducible refine HCC.out.mono ?_); rintro e w4 ⟨rfl, b4⟩))
      go_ret
      exact ⟨rfl, b0.trans (b4.mono b0.size)⟩
    · have HB : Hid (smB L O = false) := Lib.hid (by unfold smB; rw [if_neg (fun h => h2 h.2)])
      have g1 : ((nS L : Int) != (nS O : Int)) = false := by simp [h1]
      have g2 : ((L.length : Int) != (O.length : Int)) = true := by simp; omega
      clear h1 h2
      go_enter Tryd.func68, Tryd.ntmps68
      go_wp2
      go_ret
      exact ⟨by rw [HB.out]; rfl, b0⟩
  · have HB : Hid (smB L O = false) := Lib.hid (by unfold smB; rw [if_neg (fun h => h1 h.1)])
    have g1 : ((nS L : Int) != (nS O : Int)) = true := by simp; omega
    clear h1
    go_enter Tryd.func68, Tryd.ntmps68
    go_wp2
    go_ret
    exact ⟨by rw [HB.out]; rfl, b0⟩
theorem Same_yes (A B : Option Addr) (c d : Nat) (L O : List (List Int)) (w : World) (hL : IsMI L) (hO : IsMI O) (ha : RowsAt w A L) (hb : RowsAt w B O) (ht : TabW w) :
    Calls Tryd.prog 42 #[.slice A L.length c, .slice B O.length d] w fun e w' => e = .returned (.tuple #[.bool (smB L O), .int .i64 0]) ∧ Below w.heap.size w w' := by
  have HR1 := Lib.hid (rm_yes A c L w hL ha)
  have HR2 := Lib.hid (fun V (hV : Below w.heap.size w V) => rm_yes B d O V hO (hb.below hV))
  have hi1 := info76_iv (x := mc L) (mcP_len L 36)
  have hi2 := info76_iv (x := mc O) (mcP_len O 36)
  have hs1 := hsz76 L
  have hs2 := hsz76 O
  have HK := Lib.hid (fun V (hV : Below w.heap.size w V) => isSame_any L O V hL hO (ht.below hV ht.lt))
  clear hL hO ha hb ht
  generalize smB L O = Y at *
  go_enter Tryd.func42, Tryd.ntmps42
  go_wp2_with (first
    | (go_at_call 50; first
      | ((with_reducible refine HR1.out.mono ?_); rintro e w2 ⟨rfl, b2⟩; have q0 : Row (w2.alloc (.cells #[.int .i64 0, .int .i64 0, .int .i64 0, .int .i64 0, .int .i64 0, .int .i64 0, .int .i64 0, .int .i64 0, .int .i64 0, .int .i64 0, .int .i64 0, .int .i64 0, .int .i64 0, .int .i64 0, .int .i64 0, .int .i64 0, .int .i64 0, .int .i64 0, .int .i64 0, .int .i64 0, .int .i64 0, .int .i64 0, .int .i64 0, .int .i64 0, .int .i64 0, .int .i64 0, .int .i64 0, .int .i64 0, .int .i64 0, .int .i64 0, .int .i64 0, .int .i64 0, .int .i64 0, .int .i64 0, .int .i64 0, .int .i64 0, .int .i64 0, .int .i64 0] 76)) w2.heap.size 76 Z38 := row_new rfl; have b0 := b2.alloc b2.size (.cells #[.int .i64 0, .int .i64 0, .int .i64 0, .int .i64 0, .int .i64 0, .int .i64 0, .int .i64 0, .int .i64 0, .int .i64 0, .int .i64 0, .int .i64 0, .int .i64 0, .int .i64 0, .int .i64 0, .int .i64 0, .int .i64 0, .int .i64 0, .int .i64 0, .int .i64 0, .int .i64 0, .int .i64 0, .int .i64 0, .int .i64 0, .int .i64 0, .int .i64 0, .int .i64 0, .int .i64 0, .int .i64 0, .int .i64 0, .int .i64 0, .int .i64 0, .int .i64 0, .int .i64 0, .int .i64 0, .int .i64 0, .int .i64 0, .int .i64 0, .int .i64 0] 76); have hbz := b2.size)
      | ((with_reducible refine (HR2.out _ b0).mono ?_); rintro e w4 ⟨rfl, b4⟩; replace q0 := q0.below b4; have hq4 := q0.lt; have q1 : Row (w4.alloc (.cells #[.int .i64 0, .int .i64 0, .int .i64 0, .int .i64 0, .int .i64 0, .int .i64 0, .int .i64 0, .int .i64 0, .int .i64 0, .int .i64 0, .int .i64 0, .int .i64 0, .int .i64 0, .int .i64 0, .int .i64 0, .int .i64 0, .int .i64 0, .int .i64 0, .int .i64 0, .int .i64 0, .int .i64 0, .int .i64 0, .int .i64 0, .int .i64 0, .int .i64 0, .int .i64 0, .int .i64 0, .int .i64 0, .int .i64 0, .int .i64 0, .int .i64 0, .int .i64 0, .int .i64 0, .int .i64 0, .int .i64 0, .int .i64 0, .int .i64 0, .int .i64 0] 76)) w4.heap.size 76 Z38 := row_new rfl; replace b0 := b0.trans (b4.mono b0.size); have hb4 := b0.size; replace b0 := b0.alloc hb4 (.cells #[.int .i64 0, .int .i64 0, .int .i64 0, .int .i64 0, .int .i64 0, .int .i64 0, .int .i64 0, .int .i64 0, .int .i64 0, .int .i64 0, .int .i64 0, .int .i64 0, .int .i64 0, .int .i64 0, .int .i64 0, .int .i64 0, .int .i64 0, .int .i64 0, .int .i64 0, .int .i64 0, .int .i64 0, .int .i64 0, .int .i64 0, .int .i64 0, .int .i64 0, .int .i64 0, .int .i64 0, .int .i64 0, .int .i64 0, .int .i64 0, .int .i64 0, .int .i64 0, .int .i64 0, .int .i64 0, .int .i64 0, .int .i64 0, .int .i64 0, .int .i64 0] 76); replace q0 := q0.alloc (.cells #[.int .i64 0, .int .i64 0, .int .i64 0, .int .i64 0, .int .i64 0, .int .i64 0, .int .i64 0, .int .i64 0, .int .i64 0, .int .i64 0, .int .i64 0, .int .i64 0, .int .i64 0, .int .i64 0, .int .i64 0, .int .i64 0, .int .i64 0, .int .i64 0, .int .i64 0, .int .i64 0, .int .i64 0, .int .i64 0, .int .i64 0, .int .i64 0, .int .i64 0, .int .i64 0, .int .i64 0, .int .i64 0, .int .i64 0, .int .i64 0, .int .i64 0, .int .i64 0, .int .i64 0, .int .i64 0, .int .i64 0, .int .i64 0, .int .i64 0, .int .i64 0] 76)))
    | (with_reducible refine (?_ : wpList _ _ _ (Oper.mk _ (Op.store 76 (.tmp 6) _) _ _ _ _ :: _) _ _); refine wpList_store_row rfl 76 (.tmp 6) (.tmp 13) rfl w2.heap.size (iv (mc L)).toArray rfl rfl 76 Z38.toArray (row_heap q0) hi1 hs1 (iv_all _) ?_; replace q0 := q0.row (iv (mc L)); replace b0 := below_row (g := w2.heap.size) b0 hbz (iv (mc L)).toArray; generalize World.setRow (w2.alloc _) _ _ = W3 at *)
    | (with_reducible refine (?_ : wpList _ _ _ (Oper.mk _ (Op.store 76 (.tmp 8) _) _ _ _ _ :: _) _ _); refine wpList_store_row rfl 76 (.tmp 8) (.tmp 18) rfl w4.heap.size (iv (mc O)).toArray rfl rfl 76 Z38.toArray (row_heap q1) hi2 hs2 (iv_all _) ?_; replace q1 := q1.row (iv (mc O)); replace q0 := q0.row_far (k := w4.heap.size) (Nat.ne_of_lt hq4) (iv (mc O)).toArray; replace b0 := below_row (g := w4.heap.size) b0 hb4 (iv (mc O)).toArray; generalize World.setRow (w4.alloc _) _ _ = W5 at *)
    | ((with_reducible refine (?_ : wpList _ _ _ (Oper.mk (some 26) _ _ _ _ _ :: _) _ _)); refine wpList_load_row rfl 76 (.tmp 6) rfl w2.heap.size rfl 76 (iv (mc L)).toArray (0, 0) _ (row_heap q0) Tryd.underlying76 rfl hi1 ?_)
    | ((with_reducible refine (?_ : wpList _ _ _ (Oper.mk (some 27) _ _ _ _ _ :: _) _ _)); refine wpList_load_row rfl 76 (.tmp 8) rfl w4.heap.size rfl 76 (iv (mc O)).toArray (0, 0) _ (row_heap q1) Tryd.underlying76 rfl hi2 ?_)
    | (go_at_call 68; (with_reducible refine (HK.out _ b0).mono ?_); rintro e w6 ⟨rfl, b6⟩; replace b0 := b0.trans (b6.mono b0.size)))
  go_ret2
  exact ⟨rfl, b0⟩
theorem sm_bad (A B : Option Addr) (c d n m : Nat) (w : World) (X1 X2 : List Value) (b1 b2 : Bool) (hb : b1 = false ∨ b2 = false) (h1 : X1.length = 38) (h2 : X2.length = 38) (a1 : X1.toArray.all (·.oneCell') = true) (a2 : X2.toArray.all (·.oneCell') = true)
    (HR1 : Hid (Calls Tryd.prog 50 #[.slice A n c] w fun e w' => e = .returned (.tuple #[.agg X1.toArray, .bool b1]) ∧ Below w.heap.size w w'))
    (HR2 : Hid (∀ V, Below w.heap.size w V → Calls Tryd.prog 50 #[.slice B m d] V fun e w' => e = .returned (.tuple #[.agg X2.toArray, .bool b2]) ∧ Below V.heap.size V w')) :
    Calls Tryd.prog 42 #[.slice A n c, .slice B m d] w fun e w' => e = .returned (.tuple #[.bool false, .int .i64 2]) ∧ Below w.heap.size w w' := by
  have hi1 : (Tryd.prog.info? 76).map (·.size) = some X1.toArray.size := by rw [List.size_toArray, h1]; exact info76
  have hi2 : (Tryd.prog.info? 76).map (·.size) = some X2.toArray.size := by rw [List.size_toArray, h2]; exact info76
  have hs1 : Z38.toArray.size = X1.toArray.size := by rw [List.size_toArray, List.size_toArray, h1]; rfl
  have hs2 : Z38.toArray.size = X2.toArray.size := by rw [List.size_toArray, List.size_toArray, h2]; rfl
  clear h1 h2
  cases b1 with
  | false =>
    clear hb
    go_enter Tryd.func42, Tryd.ntmps42
    go_wp2_with (first
      | (go_at_call 50; first
        | ((with_reducible refine HR1.out.mono ?_); rintro e w2 ⟨rfl, b2⟩; have q0 : Row (w2.alloc (.cells #[.int .i64 0, .int .i64 0, .int .i64 0, .int .i64 0, .int .i64 0, .int .i64 0, .int .i64 0, .int .i64 0, .int .i64 0, .int .i64 0, .int .i64 0, .int .i64 0, .int .i64 0, .int .i64 0, .int .i64 0, .int .i64 0, .int .i64 0, .int .i64 0, .int .i64 0, .int .i64 0, .int .i64 0, .int .i64 0, .int .i64 0, .int .i64 0, .int .i64 0, .int .i64 0, .int .i64 0, .int .i64 0, .int .i64 0, .int .i64 0, .int .i64 0, .int .i64 0, .int .i64 0, .int .i64 0, .int .i64 0, .int .i64 0, .int .i64 0, .int .i64 0] 76)) w2.heap.size 76 Z38 := row_new rfl; have b0 := b2.alloc b2.size (.cells #[.int .i64 0, .int .i64 0, .int .i64 0, .int .i64 0, .int .i64 0, .int .i64 0, .int .i64 0, .int .i64 0, .int .i64 0, .int .i64 0, .int .i64 0, .int .i64 0, .int .i64 0, .int .i64 0, .int .i64 0, .int .i64 0, .int .i64 0, .int .i64 0, .int .i64 0, .int .i64 0, .int .i64 0, .int .i64 0, .int .i64 0, .int .i64 0, .int .i64 0, .int .i64 0, .int .i64 0, .int .i64 0, .int .i64 0, .int .i64 0, .int .i64 0, .int .i64 0, .int .i64 0, .int .i64 0, .int .i64 0, .int .i64 0, .int .i64 0, .int .i64 0] 76); have hbz := b2.size)
        | ((with_reducible refine (HR2.out _ b0).mono ?_); rintro e w4 ⟨rfl, b4⟩; have q1 : Row (w4.alloc (.cells #[.int .i64 0, .int .i64 0, .int .i64 0, .int .i64 0, .int .i64 0, .int .i64 0, .int .i64 0, .int .i64 0, .int .i64 0, .int .i64 0, .int .i64 0, .int .i64 0, .int .i64 0, .int .i64 0, .int .i64 0, .int .i64 0, .int .i64 0, .int .i64 0, .int .i64 0, .int .i64 0, .int .i64 0, .int .i64 0, .int .i64 0, .int .i64 0, .int .i64 0, .int .i64 0, .int .i64 0, .int .i64 0, .int .i64 0, .int .i64 0, .int .i64 0, .int .i64 0, .int .i64 0, .int .i64 0, .int .i64 0, .int .i64 0, .int .i64 0, .int .i64 0] 76)) w4.heap.size 76 Z38 := row_new rfl; replace b0 := b0.trans (b4.mono b0.size); have hb4 := b0.size; replace b0 := b0.alloc hb4 (.cells #[.int .i64 0, .int .i64 0, .int .i64 0, .int .i64 0, .int .i64 0, .int .i64 0, .int .i64 0, .int .i64 0, .int .i64 0, .int .i64 0, .int .i64 0, .int .i64 0, .int .i64 0, .int .i64 0, .int .i64 0, .int .i64 0, .int .i64 0, .int .i64 0, .int .i64 0, .int .i64 0, .int .i64 0, .int .i64 0, .int .i64 0, .int .i64 0, .int .i64 0, .int .i64 0, .int .i64 0, .int .i64 0, .int .i64 0, .int .i64 0, .int .i64 0, .int .i64 0, .int .i64 0, .int .i64 0, .int .i64 0, .int .i64 0, .int .i64 0, .int .i64 0] 76)))
      | (with_reducible refine (?_ : wpList _ _ _ (Oper.mk _ (Op.store 76 (.tmp 6) _) _ _ _ _ :: _) _ _); refine wpList_store_row rfl 76 (.tmp 6) (.tmp 13) rfl w2.heap.size X1.toArray rfl rfl 76 Z38.toArray (row_heap q0) hi1 hs1 a1 ?_; clear q0; replace b0 := below_row (g := w2.heap.size) b0 hbz X1.toArray; generalize World.setRow (w2.alloc _) _ _ = W3 at *)
      | (with_reducible refine (?_ : wpList _ _ _ (Oper.mk _ (Op.store 76 (.tmp 8) _) _ _ _ _ :: _) _ _); refine wpList_store_row rfl 76 (.tmp 8) (.tmp 18) rfl w4.heap.size X2.toArray rfl rfl 76 Z38.toArray (row_heap q1) hi2 hs2 a2 ?_; clear q1; replace b0 := below_row (g := w4.heap.size) b0 hb4 X2.toArray; generalize World.setRow (w4.alloc _) _ _ = W5 at *))
    go_ret2
    exact ⟨rfl, b0⟩
  | true =>
    cases b2 with
    | false =>
      clear hb
      go_enter Tryd.func42, Tryd.ntmps42
      go_wp2_with (first
      | (go_at_call 50; first
        | ((with_reducible refine HR1.out.mono ?_); rintro e w2 ⟨rfl, b2⟩; have q0 : Row (w2.alloc (.cells #[.int .i64 0, .int .i64 0, .int .i64 0, .int .i64 0, .int .i64 0, .int .i64 0, .int .i64 0, .int .i64 0, .int .i64 0, .int .i64 0, .int .i64 0, .int .i64 0, .int .i64 0, .int .i64 0, .int .i64 0, .int .i64 0, .int .i64 0, .int .i64 0, .int .i64 0, .int .i64 0, .int .i64 0, .int .i64 0, .int .i64 0, .int .i64 0, .int .i64 0, .int .i64 0, .int .i64 0, .int .i64 0, .int .i64 0, .int .i64 0, .int .i64 0, .int .i64 0, .int .i64 0, .int .i64 0, .int .i64 0, .int .i64 0, .int .i64 0, .int .i64 0] 76)) w2.heap.size 76 Z38 := row_new rfl; have b0 := b2.alloc b2.size (.cells #[.int .i64 0, .int .i64 0, .int .i64 0, .int .i64 0, .int .i64 0, .int .i64 0, .int .i64 0, .int .i64 0, .int .i64 0, .int .i64 0, .int .i64 0, .int .i64 0, .int .i64 0, .int .i64 0, .int .i64 0, .int .i64 0, .int .i64 0, .int .i64 0, .int .i64 0, .int .i64 0, .int .i64 0, .int .i64 0, .int .i64 0, .int .i64 0, .int .i64 0, .int .i64 0, .int .i64 0, .int .i64 0, .int .i64 0, .int .i64 0, .int .i64 0, .int .i64 0, .int .i64 0, .int .i64 0, .int .i64 0, .int .i64 0, .int .i64 0, .int .i64 0] 76); have hbz := b2.size)
        | ((with_reducible refine (HR2.out _ b0).mono ?_); rintro e w4 ⟨rfl, b4⟩; have q1 : Row (w4.alloc (.cells #[.int .i64 0, .int .i64 0, .int .i64 0, .int .i64 0, .int .i64 0, .int .i64 0, .int .i64 0, .int .i64 0, .int .i64 0, .int .i64 0, .int .i64 0, .int .i64 0, .int .i64 0, .int .i64 0, .int .i64 0, .int .i64 0, .int .i64 0, .int .i64 0, .int .i64 0, .int .i64 0, .int .i64 0, .int .i64 0, .int .i64 0, .int .i64 0, .int .i64 0, .int .i64 0, .int .i64 0, .int .i64 0, .int .i64 0, .int .i64 0, .int .i64 0, .int .i64 0, .int .i64 0, .int .i64 0, .int .i64 0, .int .i64 0, .int .i64 0, .int .i64 0] 76)) w4.heap.size 76 Z38 := row_new rfl; replace b0 := b0.trans (b4.mono b0.size); have hb4 := b0.size; replace b0 := b0.alloc hb4 (.cells #[.int .i64 0, .int .i64 0, .int .i64 0, .int .i64 0, .int .i64 0, .int .i64 0, .int .i64 0, .int .i64 0, .int .i64 0, .int .i64 0, .int .i64 0, .int .i64 0, .int .i64 0, .int .i64 0, .int .i64 0, .int .i64 0, .int .i64 0, .int .i64 0, .int .i64 0, .int .i64 0, .int .i64 0, .int .i64 0, .int .i64 0, .int .i64 0, .int .i64 0, .int .i64 0, .int .i64 0, .int .i64 0, .int .i64 0, .int .i64 0, .int .i64 0, .int .i64 0, .int .i64 0, .int .i64 0, .int .i64 0, .int .i64 0, .int .i64 0, .int .i64 0] 76)))
      | (with_reducible refine (?_ : wpList _ _ _ (Oper.mk _ (Op.store 76 (.tmp 6) _) _ _ _ _ :: _) _ _); refine wpList_store_row rfl 76 (.tmp 6) (.tmp 13) rfl w2.heap.size X1.toArray rfl rfl 76 Z38.toArray (row_heap q0) hi1 hs1 a1 ?_; clear q0; replace b0 := below_row (g := w2.heap.size) b0 hbz X1.toArray; generalize World.setRow (w2.alloc _) _ _ = W3 at *)
      | (with_reducible refine (?_ : wpList _ _ _ (Oper.mk _ (Op.store 76 (.tmp 8) _) _ _ _ _ :: _) _ _); refine wpList_store_row rfl 76 (.tmp 8) (.tmp 18) rfl w4.heap.size X2.toArray rfl rfl 76 Z38.toArray (row_heap q1) hi2 hs2 a2 ?_; clear q1; replace b0 := below_row (g := w4.heap.size) b0 hb4 X2.toArray; generalize World.setRow (w4.alloc _) _ _ = W5 at *))
      go_ret2
      exact ⟨rfl, b0⟩
    | true => rcases hb with h | h <;> cases h
theorem Same_no (A B : Option Addr) (c d : Nat) (L O : List (List Int)) (w : World) (h : okM L = false ∨ okM O = false) (ha : RowsAt w A L) (hb : RowsAt w B O) :
    Calls Tryd.prog 42 #[.slice A L.length c, .slice B O.length d] w fun e w' => e = .returned (.tuple #[.bool false, .int .i64 2]) ∧ Below w.heap.size w w' := by
  have lI : ∀ X, (iv (mc X)).length = 38 := fun X => by rw [iv_len]; exact mcP_len X 36
  cases h1 : okM L with
  | false =>
    cases h2 : okM O with
    | false => exact sm_bad A B c d _ _ w Z38 Z38 false false (.inl rfl) rfl rfl z38_all z38_all (Lib.hid (rm_no A c L w h1 ha)) (Lib.hid (fun V hV => rm_no B d O V h2 (hb.below hV)))
    | true => exact sm_bad A B c d _ _ w Z38 (iv (mc O)) false true (.inl rfl) rfl (lI O) z38_all (iv_all _) (Lib.hid (rm_no A c L w h1 ha)) (Lib.hid (fun V hV => rm_yes B d O V (okM_iff.1 h2) (hb.below hV)))
  | true =>
    cases h2 : okM O with
    | false => exact sm_bad A B c d _ _ w (iv (mc L)) Z38 true false (.inr rfl) (lI L) rfl (iv_all _) z38_all (Lib.hid (rm_yes A c L w (okM_iff.1 h1) ha)) (Lib.hid (fun V hV => rm_no B d O V h2 (hb.below hV)))
    | true => rw [h1, h2] at h; rcases h with h | h <;> cases h
end Go.Proofs.YtignbpipdfjkeaaDoor
