/- The reference's count of fair lists. -/
import Derived.Test.YtopeppnajbnfgaaHE
namespace Go.Proofs.Ytopeppnajbnfgaa
open Go.RowKit
set_option maxHeartbeats 1000000
set_option maxRecDepth 100000
/-- How many fair lists begin with p and have m more positions from f on. -/
def wL (s : ByteArray) (m : Nat) (p : List Int) (f : Nat) : Nat := ((exts s.size m p f).filter (fairV s)).length
def wT (s : ByteArray) (m : Nat) (p : List Int) (f i : Nat) : Nat := ((extsTo s.size m p f i).filter (fairV s)).length
theorem wT_next {s : ByteArray} {m f q : Nat} {p : List Int} (h : f ≤ q) : wT s m p f (q + 1 - f) = wT s m p f (q - f) + wL s m (p ++ [(q : Int)]) (q + 1) := by
  obtain ⟨i, rfl⟩ := Nat.exists_eq_add_of_le h
  unfold wT wL
  rw [show f + i + 1 - f = i + 1 by omega, show f + i - f = i by omega, extsTo_succ, List.filter_append, List.length_append]
theorem exts_len {n : Nat} (hn : n ≤ 24) : ∀ (k : Nat) (p : List Int) (f : Nat), (exts n k p f).length ≤ 24 ^ k
  | 0, p, f => by simp [exts]
  | k + 1, p, f => by
    rw [exts_eq]
    have h : ∀ i, (extsTo n k p f i).length ≤ i * 24 ^ k := fun i => by
      induction i with
      | zero => simp [extsTo]
      | succ i ih =>
        rw [extsTo_succ, List.length_append, Nat.succ_mul]
        have := exts_len hn k (p ++ [((f + i : Nat) : Int)]) (f + i + 1)
        omega
    have h2 := h (n - f)
    have h3 : (n - f) * 24 ^ k ≤ 24 * 24 ^ k := Nat.mul_le_mul_right _ (by omega)
    rw [Nat.pow_succ, Nat.mul_comm (24 ^ k) 24]
    omega
theorem wL_le {s : ByteArray} (hs : s.size ≤ 24) {m : Nat} (hm : m ≤ 4) (p : List Int) (f : Nat) : wL s m p f ≤ 331776 := by
  have h := exts_len hs m p f
  have h2 := List.length_filter_le (fairV s) (exts s.size m p f)
  have h3 : (24 : Nat) ^ m ≤ 24 ^ 4 := Nat.pow_le_pow_right (by omega) hm
  unfold wL
  omega
theorem wT_le {s : ByteArray} (hs : s.size ≤ 24) {m f i : Nat} (hm : m < 4) (p : List Int) (hi : i ≤ s.size - f) : wT s m p f i ≤ 331776 := by
  have h := wL_le hs (m := m + 1) (by omega) p f
  obtain ⟨t, ht⟩ := extsTo_pre s.size m p f hi
  unfold wL at h
  rw [exts_eq, ← ht, List.filter_append, List.length_append] at h
  unfold wT; omega
abbrev WRes (s : ByteArray) (m : Nat) (p : List Int) (f : Nat) (w : World) (e : Ending) (w' : World) : Prop := e = .returned (.int .i64 (wL s m p f)) ∧ Below w.heap.size w w'
theorem ways_zero (s : ByteArray) (hs : s.size ≤ 24) (ho : ∀ i, i < s.size → okC s i) (hev : evV s = true) (A : Option Addr) (c : Nat) (p : List Int) (w : World) (hcut : cutV 1 s.size p = true) (hx : IntsAt w A p) :
    Calls Try.prog 32 #[.string s, .slice A p.length c, .int .i64 0] w (WRes s 0 p (fromN p) w) := by
  have HF := Lib.hid (RefFair_any s A c p w hs ho hcut hx)
  have HE := fair_ref hs hev hcut
  cases hf : refFair s p
  · rw [hf] at HF HE
    have HX := Lib.hid (show wL s 0 p (fromN p) = 0 by unfold wL; show ([p].filter (fairV s)).length = 0; simp [HE])
    go_enter Try.func32, Try.ntmps32
    go_wp2_with (go_at_call 22; with_reducible refine HF.out.mono ?_; rintro e w1 ⟨rfl, b1⟩)
    exact bodyPost_ret (v := .int .i64 0) (by simp [results, Try.results32]) rfl ⟨by rw [HX.out]; rfl, b1⟩
  · rw [hf] at HF HE
    have HX := Lib.hid (show wL s 0 p (fromN p) = 1 by unfold wL; show ([p].filter (fairV s)).length = 1; simp [HE])
    go_enter Try.func32, Try.ntmps32
    go_wp2_with (go_at_call 22; with_reducible refine HF.out.mono ?_; rintro e w1 ⟨rfl, b1⟩)
    exact bodyPost_ret (v := .int .i64 1) (by simp [results, Try.results32]) rfl ⟨by rw [HX.out]; rfl, b1⟩
theorem ways_some (s : ByteArray) (hs : s.size ≤ 24) (m : Nat) (hm : m < 4) (g o c f : Nat) (p : List Int) (w : World) (hpl : p.length + (m + 1) ≤ 4) (_hpc : p.length ≤ c) (hcut : cutV 1 s.size p = true) (hx : IntsAt w (some ⟨g, o, none⟩) p) (hfp : fromN p = f) (z : Int) (hzm : z = m + 1)
    (ih : ∀ (A : Option Addr) (c : Nat) (p : List Int) (w : World), p.length + m ≤ 4 → p.length ≤ c → SlAt A c p → cutV 1 s.size p = true → IntsAt w A p → Calls Try.prog 32 #[.string s, .slice A p.length c, .int .i64 m] w (WRes s m p (fromN p) w)) :
    Calls Try.prog 32 #[.string s, .slice (some ⟨g, o, none⟩) p.length c, .int .i64 z] w (WRes s (m + 1) p f w) := by
  obtain ⟨i0, hi, hz0, hz1, hz2⟩ := info_parts info3
  have ih := Lib.hid ih
  subst hfp
  generalize hfp : fromN p = f
  have g0 : (z == 0) = false := by rw [beq_eq_false_iff_ne]; omega
  have hzl : 1 ≤ z := by omega
  have hzh : z ≤ 4 := by omega
  have HZ := Lib.hid hzm
  clear hzm
  rcases Nat.eq_zero_or_pos p.length with hp0 | hp0
  · have hf1 : f = 1 := by rw [← hfp]; unfold fromN; rw [if_pos hp0]
    have gp : decide ((p.length : Int) > 0) = false := decide_eq_false (by omega)
    have gp2 : decide (0 < p.length) = false := decide_eq_false (by omega)
    have gp3 : decide ((0 : Int) < p.length) = false := decide_eq_false (by omega)
    have HP0 := Lib.hid hp0
    clear hp0
    go_enter Try.func32, Try.ntmps32
    go_wp2
    go_loopw [8, 9] (fun v i wr => ∃ q y : Nat, v = .int .i64 y ∧ i = .int .i64 q ∧ f ≤ q ∧ (q ≤ s.size ∨ q = f) ∧ y ≤ 331776 ∧ Hid (wT s m p f (q - f) = y) ∧ Below w.heap.size w wr) (fun _ i _ => 100 - (intOf i).toNat)
    case atStart => exact ⟨f, 0, rfl, by first | rfl | (rw [hf1]; rfl), Nat.le_refl _, .inr rfl, by omega, Lib.hid (by rw [Nat.sub_self]; rfl), Below.refl _ _⟩
    case round =>
      obtain ⟨q, y0, rfl, rfl, hfq, hq, hy0, HN, b0⟩ := hrel
      by_cases hlt : q < s.size
      · have g1 : decide ((q : Int) < s.size) = true := decide_eq_true (by omega)
        have hnr : ∀ W : World, Row (W.alloc (.cells #[.int .i64 (q : Int)] 3)) W.heap.size 3 [.int .i64 (q : Int)] := fun W => row_new rfl
        have hz := b0.size
        have hnew := Lib.hid (show ∀ j u, (iv p)[j]? = some u → wr.cell? ((⟨g, o, none⟩ : Addr).add j) = some u by have := (hx.below b0).news p.length; rwa [List.take_length] at this)
        go_wp2_with (first
          | ((with_reducible refine (?_ : wpList _ _ _ (Oper.mk (some 35) _ _ _ _ _ :: _) _ _)); go_loud (refine wpList_append_own_at _ rfl (.tmp 33) (.tmp 34) 23 rfl w.heap.size 3 i0 (.int .i64 0) 1 8 Try.underlying23 hi hz0 hz1 hz2 rfl (by decide) (.slice none 0 0) 0 [] rfl ⟨rfl, .inl ⟨rfl, rfl⟩⟩ ⟨g, o, none⟩ p.length c (iv p) rfl (by rw [iv_len]; omega) hnew.out (iv_one p) (by unfold maxLen; omega) (by omega) hz ?_; intro v1 w1 o1 hg1 _ _; have b1 := b0.trans ((Below.refl _ _).grown hg1 hz (by simp [Value.ownBlock])); have hzq := b1.size))
          | ((with_reducible refine (?_ : wpList _ _ _ (Oper.mk (some 41) _ _ _ _ _ :: _) _ _)); go_loud (refine wpList_append_own_at _ rfl (.tmp 38) (.tmp 40) 23 rfl w.heap.size 3 i0 (.int .i64 0) 1 8 Try.underlying23 hi hz0 hz1 hz2 rfl (by decide) _ _ _ rfl (o1.alloc _) ⟨w1.heap.size, 0, none⟩ 1 1 [.int .i64 (q : Int)] rfl rfl (news_one (hnr w1)) (by simp [Value.oneCell']) (by unfold maxLen; omega) (by omega) (by simp; omega) ?_; intro v2 w2 o2 hg2 _ _)))
        have b2 := b1.trans (app1' o1 b1.size hg2)
        obtain ⟨B, d, rfl, hld, ix, sl⟩ := own_sl (v := v2) (xs := p ++ [(q : Int)]) (by rw [iv_snoc]; exact o2)
        have HI := Lib.hid (ih.out B d (p ++ [(q : Int)]) w2 (by simp; omega) hld sl (cutV_snoc hcut (by omega) hlt) ix)
        rw [fromN_snoc, show ((m : Nat) : Int) = z - 1 by rw [HZ.out]; omega] at HI
        refine HI.out.mono ?_
        rintro e w3 ⟨rfl, b3⟩
        have HNX := Lib.hid (wT_next (s := s) (m := m) (p := p) hfq)
        have hb1 := wT_le hs (m := m) (f := f) (i := q + 1 - f) (by omega) p (by omega)
        rw [wT_next hfq, HN.out] at hb1
        generalize wL s m (p ++ [(q : Int)]) (q + 1) = u at *
        clear HI
        go_wp2
        go_roundw
        case rel => exact ⟨q + 1, y0 + u, by go_num, by go_num, by omega, .inl (by omega), hb1, Lib.hid (by rw [HNX.out, HN.out]), b2.trans (b3.mono b2.size)⟩
        case measure => simp [intOf]; omega
      · have g1 : decide ((q : Int) < s.size) = false := decide_eq_false (by omega)
        have HE := Lib.hid (show wL s (m + 1) p f = y0 by rw [← HN.out]; unfold wL wT; rw [exts_eq, show s.size - f = q - f by omega])
        go_wp2
        exact bodyPost_ret (v := .int .i64 y0) (by simp [results, Try.results32]) rfl ⟨by rw [HE.out], b0⟩
  · obtain ⟨b', o', e, hb', hcs⟩ := hx hp0
    injection e with e
    injection e with e1 e2
    subst e1 e2
    have c0 := hcs (p.length - 1) (by omega)
    have hfc : f = (geti p (p.length - 1)).toNat + 1 := by rw [← hfp]; unfold fromN; rw [if_neg (by omega)]
    have hok := (of_decide_eq_true hcut : ∀ i, i < p.length → okCut 1 s.size p i) (p.length - 1) (by omega)
    have hin := cutV_in (first := 1) (by omega) hcut (p.length - 1) (by omega)
    have hf1 : (geti p (p.length - 1)) + 1 = (f : Int) := by rw [hfc]; omega
    have hy1 : 0 ≤ geti p (p.length - 1) := by omega
    have hy2 : geti p (p.length - 1) ≤ 1000 := by omega
    clear hok hin hcs hfc
    have HF1 := Lib.hid hf1
    clear hf1
    generalize geti p (p.length - 1) = y at *
    have gp : decide ((p.length : Int) > 0) = true := decide_eq_true (by omega)
    have gp2 : decide (0 < p.length) = true := decide_eq_true (by omega)
    have gp3 : decide ((0 : Int) < p.length) = true := decide_eq_true (by omega)
    have hpp : 1 ≤ p.length := hp0
    have HP0 := Lib.hid hp0
    clear hp0
    go_enter Try.func32, Try.ntmps32
    go_wp2
    go_loopw [8, 9] (fun v i wr => ∃ q y : Nat, v = .int .i64 y ∧ i = .int .i64 q ∧ f ≤ q ∧ (q ≤ s.size ∨ q = f) ∧ y ≤ 331776 ∧ Hid (wT s m p f (q - f) = y) ∧ Below w.heap.size w wr) (fun _ i _ => 100 - (intOf i).toNat)
    case atStart => exact ⟨f, 0, rfl, by rw [HF1.out], Nat.le_refl _, .inr rfl, by omega, Lib.hid (by rw [Nat.sub_self]; rfl), Below.refl _ _⟩
    case round =>
      obtain ⟨q, y0, rfl, rfl, hfq, hq, hy0, HN, b0⟩ := hrel
      by_cases hlt : q < s.size
      · have g1 : decide ((q : Int) < s.size) = true := decide_eq_true (by omega)
        have hnr : ∀ W : World, Row (W.alloc (.cells #[.int .i64 (q : Int)] 3)) W.heap.size 3 [.int .i64 (q : Int)] := fun W => row_new rfl
        have hz := b0.size
        have hnew := Lib.hid (show ∀ j u, (iv p)[j]? = some u → wr.cell? ((⟨g, o, none⟩ : Addr).add j) = some u by have := (hx.below b0).news p.length; rwa [List.take_length] at this)
        go_wp2_with (first
          | ((with_reducible refine (?_ : wpList _ _ _ (Oper.mk (some 35) _ _ _ _ _ :: _) _ _)); go_loud (refine wpList_append_own_at _ rfl (.tmp 33) (.tmp 34) 23 rfl w.heap.size 3 i0 (.int .i64 0) 1 8 Try.underlying23 hi hz0 hz1 hz2 rfl (by decide) (.slice none 0 0) 0 [] rfl ⟨rfl, .inl ⟨rfl, rfl⟩⟩ ⟨g, o, none⟩ p.length c (iv p) rfl (by rw [iv_len]; omega) hnew.out (iv_one p) (by unfold maxLen; omega) (by omega) hz ?_; intro v1 w1 o1 hg1 _ _; have b1 := b0.trans ((Below.refl _ _).grown hg1 hz (by simp [Value.ownBlock])); have hzq := b1.size))
          | ((with_reducible refine (?_ : wpList _ _ _ (Oper.mk (some 41) _ _ _ _ _ :: _) _ _)); go_loud (refine wpList_append_own_at _ rfl (.tmp 38) (.tmp 40) 23 rfl w.heap.size 3 i0 (.int .i64 0) 1 8 Try.underlying23 hi hz0 hz1 hz2 rfl (by decide) _ _ _ rfl (o1.alloc _) ⟨w1.heap.size, 0, none⟩ 1 1 [.int .i64 (q : Int)] rfl rfl (news_one (hnr w1)) (by simp [Value.oneCell']) (by unfold maxLen; omega) (by omega) (by simp; omega) ?_; intro v2 w2 o2 hg2 _ _)))
        have b2 := b1.trans (app1' o1 b1.size hg2)
        obtain ⟨B, d, rfl, hld, ix, sl⟩ := own_sl (v := v2) (xs := p ++ [(q : Int)]) (by rw [iv_snoc]; exact o2)
        have HI := Lib.hid (ih.out B d (p ++ [(q : Int)]) w2 (by simp; omega) hld sl (cutV_snoc hcut (by omega) hlt) ix)
        rw [fromN_snoc, show ((m : Nat) : Int) = z - 1 by rw [HZ.out]; omega] at HI
        refine HI.out.mono ?_
        rintro e w3 ⟨rfl, b3⟩
        have HNX := Lib.hid (wT_next (s := s) (m := m) (p := p) hfq)
        have hb1 := wT_le hs (m := m) (f := f) (i := q + 1 - f) (by omega) p (by omega)
        rw [wT_next hfq, HN.out] at hb1
        generalize wL s m (p ++ [(q : Int)]) (q + 1) = u at *
        clear HI
        go_wp2
        go_roundw
        case rel => exact ⟨q + 1, y0 + u, by go_num, by go_num, by omega, .inl (by omega), hb1, Lib.hid (by rw [HNX.out, HN.out]), b2.trans (b3.mono b2.size)⟩
        case measure => simp [intOf]; omega
      · have g1 : decide ((q : Int) < s.size) = false := decide_eq_false (by omega)
        have HE := Lib.hid (show wL s (m + 1) p f = y0 by rw [← HN.out]; unfold wL wT; rw [exts_eq, show s.size - f = q - f by omega])
        go_wp2
        exact bodyPost_ret (v := .int .i64 y0) (by simp [results, Try.results32]) rfl ⟨by rw [HE.out], b0⟩
theorem ways_none (s : ByteArray) (hs : s.size ≤ 24) (m : Nat) (hm : m < 4) (f : Nat) (w : World) (hfp : f = 1) (z : Int) (hzm : z = m + 1)
    (ih : ∀ (A : Option Addr) (c : Nat) (p : List Int) (w : World), p.length + m ≤ 4 → p.length ≤ c → SlAt A c p → cutV 1 s.size p = true → IntsAt w A p → Calls Try.prog 32 #[.string s, .slice A p.length c, .int .i64 m] w (WRes s m p (fromN p) w)) :
    Calls Try.prog 32 #[.string s, .slice none 0 0, .int .i64 z] w (WRes s (m + 1) [] f w) := by
  obtain ⟨i0, hi, hz0, hz1, hz2⟩ := info_parts info3
  have ih := Lib.hid ih
  have g0 : (z == 0) = false := by rw [beq_eq_false_iff_ne]; omega
  have hzl : 1 ≤ z := by omega
  have hzh : z ≤ 4 := by omega
  have HZ := Lib.hid hzm
  clear hzm
  have hf1 := hfp
  have hcut : cutV 1 s.size [] = true := decide_eq_true fun i hi => absurd hi (by simp)
  obtain ⟨p, hp⟩ : ∃ p : List Int, p = [] := ⟨_, rfl⟩
  rw [← hp] at hcut ⊢
  have hfn : fromN p = f := by rw [hp, hfp]; rfl
  have HP := Lib.hid hp
  have HPL := Lib.hid (show p.length = 0 by rw [hp]; rfl)
  clear hp
  go_enter Try.func32, Try.ntmps32
  go_wp2
  go_loopw [8, 9] (fun v i wr => ∃ q y : Nat, v = .int .i64 y ∧ i = .int .i64 q ∧ f ≤ q ∧ (q ≤ s.size ∨ q = f) ∧ y ≤ 331776 ∧ Hid (wT s m p f (q - f) = y) ∧ Below w.heap.size w wr) (fun _ i _ => 100 - (intOf i).toNat)
  case atStart => exact ⟨f, 0, rfl, by first | rfl | (rw [hf1]; rfl), Nat.le_refl _, .inr rfl, by omega, Lib.hid (by rw [Nat.sub_self]; rfl), Below.refl _ _⟩
  case round =>
    obtain ⟨q, y0, rfl, rfl, hfq, hq, hy0, HN, b0⟩ := hrel
    by_cases hlt : q < s.size
    · have g1 : decide ((q : Int) < s.size) = true := decide_eq_true (by omega)
      have hnr : ∀ W : World, Row (W.alloc (.cells #[.int .i64 (q : Int)] 3)) W.heap.size 3 [.int .i64 (q : Int)] := fun W => row_new rfl
      have hz := b0.size
      go_wp2_with ((with_reducible refine (?_ : wpList _ _ _ (Oper.mk (some 41) _ _ _ _ _ :: _) _ _)); go_loud (refine wpList_append_own_at _ rfl (.tmp 38) (.tmp 40) 23 rfl w.heap.size 3 i0 (.int .i64 0) 1 8 Try.underlying23 hi hz0 hz1 hz2 rfl (by decide) (.slice none 0 0) 0 [] rfl ⟨rfl, .inl ⟨rfl, rfl⟩⟩ ⟨wr.heap.size, 0, none⟩ 1 1 [.int .i64 (q : Int)] rfl rfl (news_one (hnr wr)) (by simp [Value.oneCell']) (by unfold maxLen; omega) (by omega) (by simp; omega) ?_; intro v2 w2 o2 hg2 _ _))
      have b2 := b0.trans (app1' (⟨rfl, .inl ⟨rfl, rfl⟩⟩ : wr.ownsRow w.heap.size 3 1 (.slice none 0 0) 0 []) b0.size hg2)
      obtain ⟨B, d, rfl, hld, ix, sl⟩ := own_sl (v := v2) (xs := p ++ [(q : Int)]) (by rw [HP.out]; exact o2)
      have HI := Lib.hid (ih.out B d (p ++ [(q : Int)]) w2 (by rw [HP.out]; simp; omega) hld sl (cutV_snoc hcut (by omega) hlt) ix)
      rw [fromN_snoc, show ((m : Nat) : Int) = z - 1 by rw [HZ.out]; omega] at HI
      refine HI.out.mono ?_
      rintro e w3 ⟨rfl, b3⟩
      have HNX := Lib.hid (wT_next (s := s) (m := m) (p := p) hfq)
      have hb1 := wT_le hs (m := m) (f := f) (i := q + 1 - f) (by omega) p (by omega)
      rw [wT_next hfq, HN.out] at hb1
      generalize wL s m (p ++ [(q : Int)]) (q + 1) = u at *
      clear HI
      go_wp2
      go_roundw
      case rel => exact ⟨q + 1, y0 + u, by go_num, by go_num, by omega, .inl (by omega), hb1, Lib.hid (by rw [HNX.out, HN.out]), b2.trans (b3.mono b2.size)⟩
      case measure => simp [intOf]; omega
    · have g1 : decide ((q : Int) < s.size) = false := decide_eq_false (by omega)
      have HE := Lib.hid (show wL s (m + 1) p f = y0 by rw [← HN.out]; unfold wL wT; rw [exts_eq, show s.size - f = q - f by omega])
      go_wp2
      exact bodyPost_ret (v := .int .i64 y0) (by simp [results, Try.results32]) rfl ⟨by rw [HE.out], b0⟩
theorem ways_any (s : ByteArray) (hs : s.size ≤ 24) (ho : ∀ i, i < s.size → okC s i) (hev : evV s = true) : ∀ (m : Nat), m ≤ 4 → ∀ (A : Option Addr) (c : Nat) (p : List Int) (w : World), p.length + m ≤ 4 → p.length ≤ c → SlAt A c p → cutV 1 s.size p = true → IntsAt w A p →
    Calls Try.prog 32 #[.string s, .slice A p.length c, .int .i64 m] w (WRes s m p (fromN p) w)
  | 0, _, A, c, p, w, _, _, _, hcut, hx => ways_zero s hs ho hev A c p w hcut hx
  | m + 1, hm, A, c, p, w, hpl, hpc, hA, hcut, hx => by
    have ih := ways_any s hs ho hev m (by omega)
    rcases hA with ⟨g, o, rfl⟩ | ⟨rfl, rfl, rfl⟩
    · exact ways_some s hs m (by omega) g o c (fromN p) p w hpl hpc hcut hx rfl ((m + 1 : Nat) : Int) (by omega) ih
    · exact ways_none s hs m (by omega) 1 w rfl ((m + 1 : Nat) : Int) (by omega) ih
theorem RefWays_any (s : ByteArray) (w : World) (hc : chV s = true) (hev : evV s = true) (m : Nat) (hm : m ≤ 4) : Calls Try.prog 32 #[.string s, .slice none 0 0, .int .i64 m] w fun e w' => e = .returned (.int .i64 (wL s m [] 1)) ∧ Below w.heap.size w w' :=
  ways_any s (chV_size hc) (of_decide_eq_true hc).2 hev m hm none 0 [] w (by simp; omega) (by simp) (.inr ⟨rfl, rfl, rfl⟩) (decide_eq_true fun i hi => absurd hi (by simp)) (fun h => absurd h (by simp))
end Go.Proofs.Ytopeppnajbnfgaa
