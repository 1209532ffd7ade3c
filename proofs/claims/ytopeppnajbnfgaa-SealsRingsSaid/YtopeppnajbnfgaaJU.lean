/- The reference's search in rings. -/
import Derived.Test.YtopeppnajbnfgaaJT
import Derived.Test.YtopeppnajbnfgaaHD
namespace Go.Proofs.Ytopeppnajbnfgaa
open Go.RowKit
set_option maxHeartbeats 1000000
set_option maxRecDepth 100000
def fromR (p : List Int) : Nat := if p.length = 0 then 0 else (geti p (p.length - 1)).toNat + 1
theorem cutR_snoc {n q : Nat} {p : List Int} (h : cutV 0 n p = true) (h1 : fromR p ≤ q) (h2 : q < n) : cutV 0 n (p ++ [(q : Int)]) = true := by
  have h := of_decide_eq_true h
  refine decide_eq_true fun i hi => ?_
  rw [List.length_append, List.length_singleton] at hi
  rcases Nat.lt_or_ge i p.length with hl | hl
  · have := h i hl
    unfold okCut fromC at this ⊢
    rw [geti_app_left hl]
    split
    · rename_i h0; rw [if_pos h0] at this; exact this
    · rename_i h0; rw [if_neg h0] at this; rw [geti_app_left (by omega)]; exact this
  · obtain rfl : i = p.length := by omega
    unfold okCut fromC
    unfold fromR at h1
    rw [geti_app_last]
    split
    · rename_i h0; rw [if_pos h0] at h1; exact ⟨by omega, by omega⟩
    · rename_i h0
      rw [if_neg h0] at h1
      rw [geti_app_left (by omega)]
      exact ⟨by omega, by omega⟩
theorem fromR_snoc (p : List Int) (q : Nat) : fromR (p ++ [(q : Int)]) = q + 1 := by
  unfold fromR
  rw [List.length_append, List.length_singleton, if_neg (by omega), Nat.add_sub_cancel, geti_app_last]
  rfl
theorem ring_zero (s : ByteArray) (hs : s.size ≤ 24) (ho : ∀ i, i < s.size → okC s i) (hev : evV s = true) (A : Option Addr) (c : Nat) (p : List Int) (w : World) (hpe : p.length % 2 = 0) (hcut : cutV 0 s.size p = true) (hx : IntsAt w A p) :
    Calls Try.prog 46 #[.string s, .slice A p.length c, .int .i64 0, .bool true] w (SRes s 0 p (fromR p) w) := by
  have HF := Lib.hid (FairRing_any s A c p w hs ho hev hcut hpe hx)
  have HX : ∀ f, exts s.size 0 p f = [p] := fun f => rfl
  cases hf : fairV s p
  · rw [hf] at HF
    have HE := Lib.hid hf
    clear hf
    go_enter Try.func46, Try.ntmps46
    go_wp2_with (go_at_call 36; with_reducible refine HF.out.mono ?_; rintro e w1 ⟨rfl, b1⟩)
    exact bodyPost_ret (v := .tuple #[.slice A p.length c, .bool false]) (by simp [results, Try.results46]) rfl ⟨b1, .inr ⟨by rw [HX]; simp [HE.out], _, rfl⟩⟩
  · rw [hf] at HF
    have HE := Lib.hid hf
    clear hf
    go_enter Try.func46, Try.ntmps46
    go_wp2_with (go_at_call 36; with_reducible refine HF.out.mono ?_; rintro e w1 ⟨rfl, b1⟩)
    exact bodyPost_ret (v := .tuple #[.slice A p.length c, .bool true]) (by simp [results, Try.results46]) rfl ⟨b1, .inl ⟨p, A, c, by rw [HX]; simp [HE.out], rfl, hx.below b1⟩⟩
theorem ringsearch_some (s : ByteArray) (hs : s.size ≤ 24) (m : Nat) (hm : m < 4) (g o c f : Nat) (p : List Int) (w : World) (hpl : p.length + (m + 1) ≤ 4 ∧ (p.length + (m + 1)) % 2 = 0) (_hpc : p.length ≤ c) (hcut : cutV 0 s.size p = true) (hx : IntsAt w (some ⟨g, o, none⟩) p) (hfp : fromR p = f) (z : Int) (hzm : z = m + 1)
    (ih : ∀ (A : Option Addr) (c : Nat) (p : List Int) (w : World), p.length + m ≤ 4 ∧ (p.length + m) % 2 = 0 → p.length ≤ c → SlAt A c p → cutV 0 s.size p = true → IntsAt w A p → Calls Try.prog 46 #[.string s, .slice A p.length c, .int .i64 m, .bool true] w (SRes s m p (fromR p) w)) :
    Calls Try.prog 46 #[.string s, .slice (some ⟨g, o, none⟩) p.length c, .int .i64 z, .bool true] w (SRes s (m + 1) p f w) := by
  obtain ⟨i0, hi, hz0, hz1, hz2⟩ := info_parts info3
  have ih := Lib.hid ih
  subst hfp
  generalize hfp : fromR p = f
  have g0 : (z == 0) = false := by rw [beq_eq_false_iff_ne]; omega
  have hzl : 1 ≤ z := by omega
  have hzh : z ≤ 4 := by omega
  have HZ := Lib.hid hzm
  clear hzm
  rcases Nat.eq_zero_or_pos p.length with hp0 | hp0
  · have hf1 : f = 0 := by rw [← hfp]; unfold fromR; rw [if_pos hp0]
    have gp : decide ((p.length : Int) > 0) = false := decide_eq_false (by omega)
    have gp2 : decide (0 < p.length) = false := decide_eq_false (by omega)
    have gp3 : decide ((0 : Int) < p.length) = false := decide_eq_false (by omega)
    have HP0 := Lib.hid hp0
    clear hp0
    go_enter Try.func46, Try.ntmps46
    go_wp2
    go_loopw [11] (fun i wr => ∃ q : Nat, i = .int .i64 q ∧ f ≤ q ∧ (q ≤ s.size ∨ q = f) ∧ Hid ((extsTo s.size m p f (q - f)).find? (fairV s) = none) ∧ Below w.heap.size w wr) (fun i _ => 100 - (intOf i).toNat)
    case atStart => exact ⟨f, by first | rfl | (rw [hf1]; rfl), Nat.le_refl _, .inr rfl, Lib.hid (by rw [Nat.sub_self]; rfl), Below.refl _ _⟩
    case round =>
      obtain ⟨q, rfl, hfq, hq, HN, b0⟩ := hrel
      by_cases hlt : q < s.size
      · have g1 : decide ((q : Int) < s.size) = true := decide_eq_true (by omega)
        have hnr : ∀ W : World, Row (W.alloc (.cells #[.int .i64 (q : Int)] 3)) W.heap.size 3 [.int .i64 (q : Int)] := fun W => row_new rfl
        have hz := b0.size
        have hnew := Lib.hid (show ∀ j u, (iv p)[j]? = some u → wr.cell? ((⟨g, o, none⟩ : Addr).add j) = some u by have := (hx.below b0).news p.length; rwa [List.take_length] at this)
        go_wp2_with (first
          | ((with_reducible refine (?_ : wpList _ _ _ (Oper.mk (some 46) _ _ _ _ _ :: _) _ _)); go_loud (refine wpList_append_own_at _ rfl (.tmp 44) (.tmp 45) 23 rfl w.heap.size 3 i0 (.int .i64 0) 1 8 Try.underlying23 hi hz0 hz1 hz2 rfl (by decide) (.slice none 0 0) 0 [] rfl ⟨rfl, .inl ⟨rfl, rfl⟩⟩ ⟨g, o, none⟩ p.length c (iv p) rfl (by rw [iv_len]; omega) hnew.out (iv_one p) (by unfold maxLen; omega) (by omega) hz ?_; intro v1 w1 o1 hg1 _ _; have b1 := b0.trans ((Below.refl _ _).grown hg1 hz (by simp [Value.ownBlock])); have hzq := b1.size))
          | ((with_reducible refine (?_ : wpList _ _ _ (Oper.mk (some 52) _ _ _ _ _ :: _) _ _)); go_loud (refine wpList_append_own_at _ rfl (.tmp 49) (.tmp 51) 23 rfl w.heap.size 3 i0 (.int .i64 0) 1 8 Try.underlying23 hi hz0 hz1 hz2 rfl (by decide) _ _ _ rfl (o1.alloc _) ⟨w1.heap.size, 0, none⟩ 1 1 [.int .i64 (q : Int)] rfl rfl (news_one (hnr w1)) (by simp [Value.oneCell']) (by unfold maxLen; omega) (by omega) (by simp; omega) ?_; intro v2 w2 o2 hg2 _ _)))
        have b2 := b1.trans (app1' o1 b1.size hg2)
        obtain ⟨B, d, rfl, hld, ix, sl⟩ := own_sl (v := v2) (xs := p ++ [(q : Int)]) (by rw [iv_snoc]; exact o2)
        have HI := Lib.hid (ih.out B d (p ++ [(q : Int)]) w2 (by simp only [List.length_append, List.length_singleton]; omega) hld sl (cutR_snoc hcut (by omega) hlt) ix)
        rw [fromR_snoc, show ((m : Nat) : Int) = z - 1 by rw [HZ.out]; omega] at HI
        refine HI.out.mono ?_
        rintro e w3 ⟨b3, hr⟩
        have HNX := Lib.hid (find_next hfq HN.out)
        rcases hr with ⟨x, B2, d2, hf2, rfl, hix⟩ | ⟨hf2, v, rfl⟩
        · have HST := Lib.hid (find_stop hfq hlt (HNX.out.trans hf2))
          clear HI hf2
          go_wp2
          exact bodyPost_ret (v := .tuple #[.slice B2 x.length d2, .bool true]) (by simp [results, Try.results46]) rfl ⟨b2.trans (b3.mono b2.size), .inl ⟨x, B2, d2, HST.out, rfl, hix⟩⟩
        · have HNO := Lib.hid (HNX.out.trans hf2)
          clear HI hf2
          go_wp2
          go_roundw
          case rel => exact ⟨q + 1, by go_num, by omega, .inl (by omega), HNO, b2.trans (b3.mono b2.size)⟩
          case measure => simp [intOf]; omega
      · have g1 : decide ((q : Int) < s.size) = false := decide_eq_false (by omega)
        have HE := Lib.hid (show (exts s.size (m + 1) p f).find? (fairV s) = none by rw [exts_eq, show s.size - f = q - f by omega]; exact HN.out)
        go_wp2
        exact bodyPost_ret (v := .tuple #[.slice none 0 0, .bool false]) (by simp [results, Try.results46]) rfl ⟨b0, .inr ⟨HE.out, _, rfl⟩⟩
  · obtain ⟨b', o', e, hb', hcs⟩ := hx hp0
    injection e with e
    injection e with e1 e2
    subst e1 e2
    have c0 := hcs (p.length - 1) (by omega)
    have hfc : f = (geti p (p.length - 1)).toNat + 1 := by rw [← hfp]; unfold fromR; rw [if_neg (by omega)]
    have hok := (of_decide_eq_true hcut : ∀ i, i < p.length → okCut 0 s.size p i) (p.length - 1) (by omega)
    have hin := cutV_in (first := 0) (by omega) hcut (p.length - 1) (by omega)
    have hf1 : (geti p (p.length - 1)) + 1 = (f : Int) := by rw [hfc]; omega
    have hy1 : 0 ≤ geti p (p.length - 1) := by omega
    have hy2 : geti p (p.length - 1) ≤ 1000 := by omega
    clear hok hin hcs hfc
    have HF1 := Lib.hid hf1
    clear hf1
    generalize geti p (p.length - 1) = y at *
    have gp : decide ((p.length : Int) > 0) = true := decide_eq_true (by omega)
    have gp2 : decide (0 < p.length) = true := decide_eq_true (by omega)
    have gp3 : decide ((0 : Int) < p.length) = true := decide_eq_true (by omega)
    have hpp : 1 ≤ p.length := hp0
    have HP0 := Lib.hid hp0
    clear hp0
    go_enter Try.func46, Try.ntmps46
    go_wp2
    go_loopw [11] (fun i wr => ∃ q : Nat, i = .int .i64 q ∧ f ≤ q ∧ (q ≤ s.size ∨ q = f) ∧ Hid ((extsTo s.size m p f (q - f)).find? (fairV s) = none) ∧ Below w.heap.size w wr) (fun i _ => 100 - (intOf i).toNat)
    case atStart => exact ⟨f, by rw [HF1.out], Nat.le_refl _, .inr rfl, Lib.hid (by rw [Nat.sub_self]; rfl), Below.refl _ _⟩
    case round =>
      obtain ⟨q, rfl, hfq, hq, HN, b0⟩ := hrel
      by_cases hlt : q < s.size
      · have g1 : decide ((q : Int) < s.size) = true := decide_eq_true (by omega)
        have hnr : ∀ W : World, Row (W.alloc (.cells #[.int .i64 (q : Int)] 3)) W.heap.size 3 [.int .i64 (q : Int)] := fun W => row_new rfl
        have hz := b0.size
        have hnew := Lib.hid (show ∀ j u, (iv p)[j]? = some u → wr.cell? ((⟨g, o, none⟩ : Addr).add j) = some u by have := (hx.below b0).news p.length; rwa [List.take_length] at this)
        go_wp2_with (first
          | ((with_reducible refine (?_ : wpList _ _ _ (Oper.mk (some 46) _ _ _ _ _ :: _) _ _)); go_loud (refine wpList_append_own_at _ rfl (.tmp 44) (.tmp 45) 23 rfl w.heap.size 3 i0 (.int .i64 0) 1 8 Try.underlying23 hi hz0 hz1 hz2 rfl (by decide) (.slice none 0 0) 0 [] rfl ⟨rfl, .inl ⟨rfl, rfl⟩⟩ ⟨g, o, none⟩ p.length c (iv p) rfl (by rw [iv_len]; omega) hnew.out (iv_one p) (by unfold maxLen; omega) (by omega) hz ?_; intro v1 w1 o1 hg1 _ _; have b1 := b0.trans ((Below.refl _ _).grown hg1 hz (by simp [Value.ownBlock])); have hzq := b1.size))
          | ((with_reducible refine (?_ : wpList _ _ _ (Oper.mk (some 52) _ _ _ _ _ :: _) _ _)); go_loud (refine wpList_append_own_at _ rfl (.tmp 49) (.tmp 51) 23 rfl w.heap.size 3 i0 (.int .i64 0) 1 8 Try.underlying23 hi hz0 hz1 hz2 rfl (by decide) _ _ _ rfl (o1.alloc _) ⟨w1.heap.size, 0, none⟩ 1 1 [.int .i64 (q : Int)] rfl rfl (news_one (hnr w1)) (by simp [Value.oneCell']) (by unfold maxLen; omega) (by omega) (by simp; omega) ?_; intro v2 w2 o2 hg2 _ _)))
        have b2 := b1.trans (app1' o1 b1.size hg2)
        obtain ⟨B, d, rfl, hld, ix, sl⟩ := own_sl (v := v2) (xs := p ++ [(q : Int)]) (by rw [iv_snoc]; exact o2)
        have HI := Lib.hid (ih.out B d (p ++ [(q : Int)]) w2 (by simp only [List.length_append, List.length_singleton]; omega) hld sl (cutR_snoc hcut (by omega) hlt) ix)
        rw [fromR_snoc, show ((m : Nat) : Int) = z - 1 by rw [HZ.out]; omega] at HI
        refine HI.out.mono ?_
        rintro e w3 ⟨b3, hr⟩
        have HNX := Lib.hid (find_next hfq HN.out)
        rcases hr with ⟨x, B2, d2, hf2, rfl, hix⟩ | ⟨hf2, v, rfl⟩
        · have HST := Lib.hid (find_stop hfq hlt (HNX.out.trans hf2))
          clear HI hf2
          go_wp2
          exact bodyPost_ret (v := .tuple #[.slice B2 x.length d2, .bool true]) (by simp [results, Try.results46]) rfl ⟨b2.trans (b3.mono b2.size), .inl ⟨x, B2, d2, HST.out, rfl, hix⟩⟩
        · have HNO := Lib.hid (HNX.out.trans hf2)
          clear HI hf2
          go_wp2
          go_roundw
          case rel => exact ⟨q + 1, by go_num, by omega, .inl (by omega), HNO, b2.trans (b3.mono b2.size)⟩
          case measure => simp [intOf]; omega
      · have g1 : decide ((q : Int) < s.size) = false := decide_eq_false (by omega)
        have HE := Lib.hid (show (exts s.size (m + 1) p f).find? (fairV s) = none by rw [exts_eq, show s.size - f = q - f by omega]; exact HN.out)
        go_wp2
        exact bodyPost_ret (v := .tuple #[.slice none 0 0, .bool false]) (by simp [results, Try.results46]) rfl ⟨b0, .inr ⟨HE.out, _, rfl⟩⟩
theorem ring_none' (s : ByteArray) (hs : s.size ≤ 24) (m : Nat) (hm : m < 4) (f : Nat) (w : World) (hfp : f = 0) (hme : (m + 1) % 2 = 0) (z : Int) (hzm : z = m + 1)
    (ih : ∀ (A : Option Addr) (c : Nat) (p : List Int) (w : World), p.length + m ≤ 4 ∧ (p.length + m) % 2 = 0 → p.length ≤ c → SlAt A c p → cutV 0 s.size p = true → IntsAt w A p → Calls Try.prog 46 #[.string s, .slice A p.length c, .int .i64 m, .bool true] w (SRes s m p (fromR p) w)) :
    Calls Try.prog 46 #[.string s, .slice none 0 0, .int .i64 z, .bool true] w (SRes s (m + 1) [] f w) := by
  obtain ⟨i0, hi, hz0, hz1, hz2⟩ := info_parts info3
  have ih := Lib.hid ih
  have g0 : (z == 0) = false := by rw [beq_eq_false_iff_ne]; omega
  have hzl : 1 ≤ z := by omega
  have hzh : z ≤ 4 := by omega
  have HZ := Lib.hid hzm
  clear hzm
  have hf1 := hfp
  have hcut : cutV 0 s.size [] = true := decide_eq_true fun i hi => absurd hi (by simp)
  obtain ⟨p, hp⟩ : ∃ p : List Int, p = [] := ⟨_, rfl⟩
  rw [← hp] at hcut ⊢
  have hfn : fromR p = f := by rw [hp, hfp]; rfl
  have HP := Lib.hid hp
  have HPL := Lib.hid (show p.length = 0 by rw [hp]; rfl)
  clear hp
  go_enter Try.func46, Try.ntmps46
  go_wp2
  go_loopw [11] (fun i wr => ∃ q : Nat, i = .int .i64 q ∧ f ≤ q ∧ (q ≤ s.size ∨ q = f) ∧ Hid ((extsTo s.size m p f (q - f)).find? (fairV s) = none) ∧ Below w.heap.size w wr) (fun i _ => 100 - (intOf i).toNat)
  case atStart => exact ⟨f, by first | rfl | (rw [hf1]; rfl), Nat.le_refl _, .inr rfl, Lib.hid (by rw [Nat.sub_self]; rfl), Below.refl _ _⟩
  case round =>
    obtain ⟨q, rfl, hfq, hq, HN, b0⟩ := hrel
    by_cases hlt : q < s.size
    · have g1 : decide ((q : Int) < s.size) = true := decide_eq_true (by omega)
      have hnr : ∀ W : World, Row (W.alloc (.cells #[.int .i64 (q : Int)] 3)) W.heap.size 3 [.int .i64 (q : Int)] := fun W => row_new rfl
      have hz := b0.size
      go_wp2_with ((with_reducible refine (?_ : wpList _ _ _ (Oper.mk (some 52) _ _ _ _ _ :: _) _ _)); go_loud (refine wpList_append_own_at _ rfl (.tmp 49) (.tmp 51) 23 rfl w.heap.size 3 i0 (.int .i64 0) 1 8 Try.underlying23 hi hz0 hz1 hz2 rfl (by decide) (.slice none 0 0) 0 [] rfl ⟨rfl, .inl ⟨rfl, rfl⟩⟩ ⟨wr.heap.size, 0, none⟩ 1 1 [.int .i64 (q : Int)] rfl rfl (news_one (hnr wr)) (by simp [Value.oneCell']) (by unfold maxLen; omega) (by omega) (by simp; omega) ?_; intro v2 w2 o2 hg2 _ _))
      have b2 := b0.trans (app1' (⟨rfl, .inl ⟨rfl, rfl⟩⟩ : wr.ownsRow w.heap.size 3 1 (.slice none 0 0) 0 []) b0.size hg2)
      obtain ⟨B, d, rfl, hld, ix, sl⟩ := own_sl (v := v2) (xs := p ++ [(q : Int)]) (by rw [HP.out]; exact o2)
      have HI := Lib.hid (ih.out B d (p ++ [(q : Int)]) w2 (by rw [HP.out]; simp only [List.nil_append, List.length_cons, List.length_nil]; omega) hld sl (cutR_snoc hcut (by omega) hlt) ix)
      rw [fromR_snoc, show ((m : Nat) : Int) = z - 1 by rw [HZ.out]; omega] at HI
      refine HI.out.mono ?_
      rintro e w3 ⟨b3, hr⟩
      have HNX := Lib.hid (find_next hfq HN.out)
      rcases hr with ⟨x, B2, d2, hf2, rfl, hix⟩ | ⟨hf2, v, rfl⟩
      · have HST := Lib.hid (find_stop hfq hlt (HNX.out.trans hf2))
        clear HI hf2
        go_wp2
        exact bodyPost_ret (v := .tuple #[.slice B2 x.length d2, .bool true]) (by simp [results, Try.results46]) rfl ⟨b2.trans (b3.mono b2.size), .inl ⟨x, B2, d2, HST.out, rfl, hix⟩⟩
      · have HNO := Lib.hid (HNX.out.trans hf2)
        clear HI hf2
        go_wp2
        go_roundw
        case rel => exact ⟨q + 1, by go_num, by omega, .inl (by omega), HNO, b2.trans (b3.mono b2.size)⟩
        case measure => simp [intOf]; omega
    · have g1 : decide ((q : Int) < s.size) = false := decide_eq_false (by omega)
      have HE := Lib.hid (show (exts s.size (m + 1) p f).find? (fairV s) = none by rw [exts_eq, show s.size - f = q - f by omega]; exact HN.out)
      go_wp2
      exact bodyPost_ret (v := .tuple #[.slice none 0 0, .bool false]) (by simp [results, Try.results46]) rfl ⟨b0, .inr ⟨HE.out, _, rfl⟩⟩
theorem ring_any (s : ByteArray) (hs : s.size ≤ 24) (ho : ∀ i, i < s.size → okC s i) (hev : evV s = true) : ∀ (m : Nat), m ≤ 4 → ∀ (A : Option Addr) (c : Nat) (p : List Int) (w : World), p.length + m ≤ 4 ∧ (p.length + m) % 2 = 0 → p.length ≤ c → SlAt A c p → cutV 0 s.size p = true → IntsAt w A p →
    Calls Try.prog 46 #[.string s, .slice A p.length c, .int .i64 m, .bool true] w (SRes s m p (fromR p) w)
  | 0, _, A, c, p, w, hp, _, _, hcut, hx => ring_zero s hs ho hev A c p w hp.2 hcut hx
  | m + 1, hm, A, c, p, w, hpl, hpc, hA, hcut, hx => by
    have ih := ring_any s hs ho hev m (by omega)
    rcases hA with ⟨g, o, rfl⟩ | ⟨rfl, rfl, rfl⟩
    · exact ringsearch_some s hs m (by omega) g o c (fromR p) p w hpl hpc hcut hx rfl ((m + 1 : Nat) : Int) (by omega) ih
    · exact ring_none' s hs m (by omega) 0 w rfl (by simpa using hpl.2) ((m + 1 : Nat) : Int) (by omega) ih
end Go.Proofs.Ytopeppnajbnfgaa
