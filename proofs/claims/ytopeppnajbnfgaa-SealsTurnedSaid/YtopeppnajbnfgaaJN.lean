/- SealsTurned: the walk. -/
import Derived.Test.YtopeppnajbnfgaaJM
import Derived.Test.YtopeppnajbnfgaaHJ
namespace Go.Proofs.Ytopeppnajbnfgaa
open Go.RowKit
set_option maxHeartbeats 1000000
set_option maxRecDepth 100000
theorem revL_len (n : Nat) (x : List Int) : (revL n x).length = x.length := by simp [revL]
theorem revL_snoc {n : Nat} {x : List Int} {k : Nat} (h : k < x.length) : (revL n x).take (k + 1) = (revL n x).take k ++ [(n : Int) - geti x (x.length - 1 - k)] := by
  have hlk : k < (revL n x).length := by rw [revL_len]; exact h
  rw [List.take_succ_eq_append_getElem hlk]
  congr 2
  rw [geti_eq (by omega)]
  simp [revL]
theorem cut_at {s : ByteArray} {f step : Nat} {x : List Int} (hx : fewV s f step = some x) {w w' : World} {e : Ending} (h : CutRes s f step w e w') : ∃ A c, e = .returned (.tuple #[.slice A x.length c, .int .i64 0]) ∧ x.length ≤ c ∧ IntsAt w' A x ∧ Below w.heap.size w w' := by
  obtain ⟨v, rfl, b, hv⟩ := h
  rcases hv with ⟨y, h1, h2⟩ | ⟨h1, -⟩
  · rw [hx] at h1; injection h1 with h1; subst h1
    obtain ⟨A, c, rfl, hc, hi, -⟩ := own_sl h2
    exact ⟨A, c, rfl, hc, hi, b⟩
  · rw [hx] at h1; cases h1
theorem SealsTurned_any (str : ByteArray) (by' : Int) (w : World) (hstr : str.size ≤ maxLen) :
    Calls Try.prog 8 #[.string str, .int .i64 by'] w fun e w' => e = .returned (.bool true) ∧ Below w.heap.size w w' := by
  have HEV := Lib.hid (even_any str w hstr)
  have HAW := Lib.hid awake_any
  go_enter Try.func8, Try.ntmps8
  go_wp2_with (go_at_call 37; fail)
  refine HEV.out.mono ?_
  rintro e w1 ⟨s, rfl, ⟨hch, hev⟩, b1⟩
  have hs := chV_size hch
  have hok : ∀ i, i < s.size → okC s i := (of_decide_eq_true hch).2
  have HBK := Lib.hid (fun w => back_any s w hs)
  have hrev := back_rev s
  have htch : chV (backK s s.size) = true := decide_eq_true ⟨by rw [hrev.size]; exact hs, fun i hi => by
    rw [hrev.size] at hi
    have := hok (s.size - 1 - i) (by omega)
    unfold okC at this ⊢
    rw [backK_at s _ (Nat.le_refl _) i hi]; exact this⟩
  generalize backK s s.size = t at *
  have HRE := Lib.hid (fun w => renamed_any s by' w hs hok)
  go_wp2_with (first
    | (go_at_call 38; with_reducible refine (HBK.out _).mono ?_; rintro e w2 ⟨rfl, rfl⟩)
    | (go_at_call 39; fail))
  refine (HRE.out _).mono ?_
  rintro e w2 ⟨u, rfl, ⟨huch, hren⟩, b2⟩
  replace b1 := b1.trans (b2.mono b1.size)
  clear b2
  have hm4 : modI by' 4 < 4 := Nat.mod_lt _ (by omega)
  have hce : (chV s && evV s) = true := by rw [hch, hev]; rfl
  have htev := hrev.ev hev
  have hcet : (chV t && evV t) = true := by rw [htch, htev]; rfl
  have hueq := hren.ev hm4
  have hceu : (chV u && evV u) = true := by rw [huch, hueq, hev]; rfl
  obtain ⟨a, ha, hak, haA, haF, -⟩ := few_some hch hev
  obtain ⟨b, hb, -, -, -, -⟩ := few_some htch htev
  have hab := rev_few hrev hch htch hev ha hb
  have hua : fewV u 1 1 = some a := by rw [ren_few hren hm4 (by omega) 1]; exact ha
  obtain ⟨r, rk, hr, -, -, -, -, -⟩ := ring_some hch hev
  have hur : fewV u 0 2 = some r := by rw [ren_few hren hm4 (by omega) 2]; exact hr
  have hal : a.length ≤ 4 := Nat.le_trans hak (kin_le s)
  have hrf := rev_fair hrev hev hal haA haF
  have hz := hrev.size
  have hcv : checkV t (revL s.size a) = 0 := by
    have hcut : cutV 1 t.size (revL s.size a) = true := cut_asc _ 1 hrf.1
    unfold checkV
    rw [hcet, hcut, hrf.2]; rfl
  have HLS := Lib.hid (fun w => (Least_any s w hce).mono fun e w' h => cut_at ha h)
  have HLT := Lib.hid (fun w => (Least_any t w hcet).mono fun e w' h => cut_at hb h)
  have HLU := Lib.hid (fun w => (Least_any u w hceu).mono fun e w' h => cut_at hua h)
  have HRS := Lib.hid (fun w => (Ring_any s w hce).mono fun e w' h => cut_at hr h)
  have HRU := Lib.hid (fun w => (Ring_any u w hceu).mono fun e w' h => cut_at hur h)
  obtain ⟨K, hWS, hWT⟩ : ∃ K : Nat, (∀ w, Calls Try.prog 29 #[.string s, .int .i64 2] w fun e w' => e = .returned (.tuple #[.int .i64 K, .int .i64 0]) ∧ Below w.heap.size w w') ∧ ∀ w, Calls Try.prog 29 #[.string t, .int .i64 2] w fun e w' => e = .returned (.tuple #[.int .i64 K, .int .i64 0]) ∧ Below w.heap.size w w' :=
    ⟨wL s 2 [] 1, fun w => Ways_any s w hce 2 (by omega), fun w => by rw [wL_rev hrev hch htch hev]; exact Ways_any t w hcet 2 (by omega)⟩
  have HWS := Lib.hid hWS
  have HWT := Lib.hid hWT
  clear hWS hWT
  have hrl : r.length ≤ 4 := by
    obtain ⟨x, k, h1, h2, h3, -⟩ := ring_some hch hev
    rw [hr] at h1; injection h1 with h1; subst h1
    have := kin_le s
    omega
  have HCK : Hid (∀ (A : Option Addr) (c : Nat) w, a.length ≤ c → IntsAt w A (revL s.size a) → Calls Try.prog 19 #[.string t, .slice A a.length c] w fun e w' => e = .returned (.int .i64 0) ∧ Below w.heap.size w w') := Lib.hid fun A c w hc hi => by
    have := Check_any t A c (revL s.size a) w (by rw [revL_len]; omega) (by rw [revL_len]; exact hc) hi
    rw [hcv, revL_len] at this
    exact this
  have HINa : Hid (∀ (A B : Option Addr) (c d : Nat) w, IntsAt w A a → IntsAt w B a → Calls Try.prog 24 #[.slice A a.length c, .slice B a.length d] w fun e w' => e = .returned (.bool true) ∧ ∃ n, w' = w.drewN n) := Lib.hid fun A B c d w h1 h2 => ints_yes A B c d a a.length w rfl (by omega) h1 h2
  have HINr : Hid (∀ (A B : Option Addr) (c d : Nat) w, IntsAt w A r → IntsAt w B r → Calls Try.prog 24 #[.slice A r.length c, .slice B r.length d] w fun e w' => e = .returned (.bool true) ∧ ∃ n, w' = w.drewN n) := Lib.hid fun A B c d w h1 h2 => ints_yes A B c d r r.length w rfl (by omega) h1 h2
  rw [← hab] at HLT
  have HAR : Hid (∀ i, i < a.length → 1 ≤ geti a i ∧ geti a i < (s.size : Int)) := Lib.hid fun i hi => by
    have := cutV_in (first := 1) (by omega) (cut_asc a.length 1 haA) i hi
    omega
  have HVL := Lib.hid (revL_len s.size a)
  clear hcv hrf haA haF hur hr hua hab hb ha hak hren hueq hrev
  generalize hL : a.length = L at *
  generalize hR : r.length = R at *
  have HL := Lib.hid hL
  have HR := Lib.hid hR
  clear hL hR
  go_wp2_with (go_at_call 16; fail)
  refine (HLS.out _).mono ?_
  rintro e w3 ⟨A3, c3, rfl, hc3, i3, b3⟩
  have I3 := Lib.hid i3
  replace b1 := b1.trans (b3.mono b1.size)
  clear i3 b3
  go_wp2_with (go_at_call 16; fail)
  refine (HLT.out _).mono ?_
  rintro e w4 ⟨A4, c4, rfl, hc4, -, b4⟩
  replace I3 := Lib.hid (I3.out.below b4)
  replace b1 := b1.trans (b4.mono b1.size)
  clear b4
  go_wp2_with (go_at_call 16; fail)
  refine (HLU.out _).mono ?_
  rintro e w5 ⟨A5, c5, rfl, hc5, i5, b5⟩
  replace I3 := Lib.hid (I3.out.below b5)
  have I5 := Lib.hid i5
  replace b1 := b1.trans (b5.mono b1.size)
  clear b5 i5
  go_wp2_with (go_at_call 33; fail)
  refine (HRS.out _).mono ?_
  rintro e w6 ⟨A6, c6, rfl, hc6, i6, b6⟩
  replace I3 := Lib.hid (I3.out.below b6)
  replace I5 := Lib.hid (I5.out.below b6)
  have I6 := Lib.hid i6
  replace b1 := b1.trans (b6.mono b1.size)
  clear b6 i6
  go_wp2_with (go_at_call 33; fail)
  refine (HRU.out _).mono ?_
  rintro e w7 ⟨A7, c7, rfl, hc7, i7, b7⟩
  replace I3 := Lib.hid (I3.out.below b7)
  replace I5 := Lib.hid (I5.out.below b7)
  replace I6 := Lib.hid (I6.out.below b7)
  have I7 := Lib.hid i7
  replace b1 := b1.trans (b7.mono b1.size)
  clear b7 i7
  have hKK : Hid (K = K) := Lib.hid rfl
  go_wp2_with (go_at_call 29; fail)
  refine (HWS.out _).mono ?_
  rintro e w8 ⟨rfl, b8⟩
  replace I3 := Lib.hid (I3.out.below b8)
  replace I5 := Lib.hid (I5.out.below b8)
  replace I6 := Lib.hid (I6.out.below b8)
  replace I7 := Lib.hid (I7.out.below b8)
  replace b1 := b1.trans (b8.mono b1.size)
  clear b8
  go_wp2_with (go_at_call 29; fail)
  refine (HWT.out _).mono ?_
  rintro e w9 ⟨rfl, b9⟩
  replace I3 := Lib.hid (I3.out.below b9)
  replace I5 := Lib.hid (I5.out.below b9)
  replace I6 := Lib.hid (I6.out.below b9)
  replace I7 := Lib.hid (I7.out.below b9)
  replace b1 := b1.trans (b9.mono b1.size)
  clear b9
  go_wp2_with (go_at_call 24; fail)
  refine (HINa.out _ _ _ _ _ I3.out I5.out).mono ?_
  rintro e wa ⟨rfl, n1, rfl⟩
  replace I3 := Lib.hid (I3.out.drewN n1)
  replace I6 := Lib.hid (I6.out.drewN n1)
  replace I7 := Lib.hid (I7.out.drewN n1)
  replace b1 := b1.trans (below_drewN n1)
  generalize World.drewN _ n1 = wa at *
  go_wp2_with (go_at_call 24; fail)
  refine (HINr.out _ _ _ _ _ I6.out I7.out).mono ?_
  rintro e wb ⟨rfl, n2, rfl⟩
  replace I3 := Lib.hid (I3.out.drewN n2)
  replace b1 := b1.trans (below_drewN n2)
  generalize World.drewN _ n2 = wb at *
  have HB1 := Lib.hid b1
  have hbw := b1.size
  clear b1
  obtain ⟨j0, ji, jz0, jz1, jz2⟩ := info_parts info3
  go_wp2
  go_loopw [22, 23] (fun v i wr => ∃ k : Nat, k ≤ L ∧ i = .int .i64 ((L : Int) - 1 - k) ∧ wr.ownsRow wb.heap.size 3 1 v k (iv ((revL s.size a).take k)) ∧ Below wb.heap.size wb wr) (fun _ i _ => (intOf i + 1).toNat)
  case atStart => exact ⟨0, by omega, by simp, ⟨rfl, .inl ⟨rfl, rfl⟩⟩, Below.refl _ _⟩
  case round =>
    obtain ⟨k, hk, rfl, own, b4⟩ := hrel
    by_cases h : k < L
    · obtain ⟨j, hj⟩ : ∃ j : Nat, (L : Int) - 1 - k = j := ⟨L - 1 - k, by omega⟩
      have hjL : j < L := by omega
      obtain ⟨bq, oq, rfl, hbq, hcq⟩ := (I3.out.below b4) (by rw [HL.out]; omega)
      have c0 := hcq j (by rw [HL.out]; exact hjL)
      have hrg := HAR.out j hjL
      have HSN := Lib.hid (revL_snoc (n := s.size) (x := a) (k := k) (by rw [HL.out]; exact h))
      rw [HL.out, show L - 1 - k = j by omega] at HSN
      have hlen : ((revL s.size a).take k).length = k := by rw [List.length_take, HVL.out]; omega
      generalize geti a j = q at *
      have hbs := b4.size
      have hnr : Row (wr.alloc (.cells #[.int .i64 ((s.size : Int) - q)] 3)) wr.heap.size 3 [.int .i64 ((s.size : Int) - q)] := row_new rfl
      have HJ := Lib.hid hj
      have HLN := Lib.hid hlen
      rw [hj]
      clear hj hcq hlen
      go_wp2_with (at_builtin; refine wpList_append_own_at _ rfl (.tmp 123) (.tmp 131) 23 rfl wb.heap.size 3 j0 (.int .i64 0) 1 8 Try.underlying23 ji jz0 jz1 jz2 rfl (by decide) _ _ _ rfl (own.alloc _) ⟨wr.heap.size, 0, none⟩ 1 1 [.int .i64 ((s.size : Int) - q)] rfl rfl (news_one hnr) (by simp [Value.oneCell']) (by unfold maxLen; omega) (by omega) (by simp; omega) ?_; intro v2 w2 o2 hg2 _ _)
      have b2 := app1' own hbs hg2
      go_roundw
      case rel =>
        refine ⟨k + 1, by omega, ?_, ?_, b4.trans b2⟩
        · have := HJ.out
          exact congrArg (Value.int .i64) (by omega)
        · rw [HSN.out, iv_snoc]; exact o2
      case measure => simp [intOf]
    · obtain rfl : k = L := by omega
      have hj : (k : Int) - 1 - k = -1 := by omega
      rw [hj]
      rw [List.take_of_length_le (by rw [HVL.out]; omega)] at own
      obtain ⟨Aq, cq, hvq, -, hcq, iq⟩ := own_intsI own
      rw [HVL.out] at hvq hcq
      subst hvq
      clear own hj
      go_wp2_with (first
        | (go_at_call 19; with_reducible refine (HCK.out _ _ _ hcq iq).mono ?_; rintro e wc ⟨rfl, bc⟩; replace b4 := b4.trans (bc.mono b4.size); clear bc)
        | (go_at_call 20; with_reducible refine (HAW.out _).mono ?_; rintro e wd ⟨rfl, bd⟩; replace b4 := b4.trans (bd.mono b4.size); clear bd))
      go_ret
      exact ⟨rfl, HB1.out.trans (b4.mono hbw)⟩
end Go.Proofs.Ytopeppnajbnfgaa
