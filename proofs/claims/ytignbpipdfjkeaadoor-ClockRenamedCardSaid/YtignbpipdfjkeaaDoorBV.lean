/- tame: a machine made from any lists. -/
import Derived.Test.YtignbpipdfjkeaaDoorBH
import Derived.Test.YtignbpipdfjkeaaDoorBF
namespace Go.Proofs.YtignbpipdfjkeaaDoor
open Go.RowKit
set_option maxHeartbeats 2000000
set_option maxRecDepth 100000
def tmF (L : List (List Int)) (n b q : Nat) : Int := (modI (geti (getl L b) q) n : Nat)
def tmE (L : List (List Int)) (n b : Nat) : Nat := if b < L.length then min n (getl L b).length else 0
def tmR (L : List (List Int)) (n b : Nat) : List Int := slP (fun q => tmF L n b q) n (tmE L n b)
def tmP (L : List (List Int)) (n b : Nat) : List (List Int) := (List.range b).map (tmR L n)
theorem tmP_len (L : List (List Int)) (n b : Nat) : (tmP L n b).length = b := by simp [tmP]
theorem tmP_succ (L : List (List Int)) (n b : Nat) : tmP L n (b + 1) = tmP L n b ++ [tmR L n b] := by simp [tmP, List.range_succ]
theorem tmR_len (L : List (List Int)) (n b : Nat) : (tmR L n b).length = n := slP_len _ _ _
theorem tmP_ok (L : List (List Int)) {n k : Nat} (h1 : 1 ≤ n) (h9 : n ≤ 9) (k1 : 1 ≤ k) (k4 : k ≤ 4) : IsMI (tmP L n k) := by
  have hr : ∀ i, i < k → getl (tmP L n k) i = tmR L n i := fun i hi => by
    unfold getl tmP
    rw [List.getD_eq_getElem?_getD, List.getElem?_map, List.getElem?_range hi]; rfl
  have hn : nS (tmP L n k) = n := by unfold nS; rw [hr 0 (by omega), tmR_len]
  have hv : ∀ i q, i < k → q < n → 0 ≤ gat (tmP L n k) i q ∧ gat (tmP L n k) i q < n := fun i q hi hq => by
    unfold gat
    rw [hr i hi]
    unfold tmR
    rw [geti_slP hq]
    split
    · have := modI_lt (geti (getl L i) q) (n := n) (by omega)
      unfold tmF
      omega
    · omega
  exact ⟨by rw [tmP_len]; exact k1, by rw [tmP_len]; exact k4, by rw [hn]; exact h1, by rw [hn]; exact h9, fun i hi => by rw [tmP_len] at hi; rw [hn, hr i hi, tmR_len],
    fun i q hi hq => by rw [tmP_len] at hi; rw [hn] at hq; exact (hv i q hi hq).1, fun i q hi hq => by rw [tmP_len] at hi; rw [hn] at hq ⊢; exact (hv i q hi hq).2⟩
theorem own_of_row {w : World} {g b n : Nat} {xs : List Int} (h : Row w g 3 (iv xs)) (hb : b ≤ g) (hl : xs.length = n) (hm : n ≤ 1000) : w.ownsRow b 3 1 (.slice (some ⟨g, 0, none⟩) n n) xs.length (iv xs) := by
  subst hl
  have h1 : (iv xs).length = xs.length * 1 := by rw [iv_len]; omega
  have h2 : xs.length ≤ maxLen := by unfold maxLen; omega
  have h3 : (iv xs).toArray.size = xs.length * 1 := by rw [List.size_toArray]; exact h1
  have h4 : (iv xs).toArray.toList.take (xs.length * 1) = iv xs := List.take_of_length_le (by show (iv xs).length ≤ _; omega)
  exact ⟨h1, .inr ⟨g, xs.length, (iv xs).toArray, rfl, hb, row_heap h, Nat.le_refl _, h2, h3, h4⟩⟩
theorem tame_yes (A : Option Addr) (c n : Nat) (w : World) (M : List (List Int)) (HT : Hid (Calls Tryd.prog 16 #[.slice A n c] w (TabM w M)))
    (HRM : Hid (∀ V A c, RowsAt V A M → Calls Tryd.prog 21 #[.slice A M.length c] V fun e w' => e = .returned (.bool true) ∧ V = w')) :
    Calls Tryd.prog 44 #[.slice A n c] w (TabM w M) := by
  go_enter Tryd.func44, Tryd.ntmps44
  go_wp2_with (first
    | (go_at_call 16; refine HT.out.mono ?_; rintro e w1 ⟨A1, c1, rfl, ra, b1⟩)
    | (go_at_call 21; refine (HRM.out _ _ _ ra).mono ?_; rintro e w4 ⟨rfl, rfl⟩))
  go_ret
  exact ⟨_, _, rfl, ra, b1⟩
theorem tame_0 (A : Option Addr) (c : Nat) (L M : List (List Int)) (n k : Nat) (w : World) (N : Nat) (hN : L.length = N) (hx : N ≤ c) (hc : c ≤ maxLen) (ha : RowsIn w A L) (HT : Hid (∀ V, Below w.heap.size w V → Calls Tryd.prog 16 #[.slice A N c] V (TabM V M)))
    (HRM : Hid (∀ V A c, RowsAt V A M → Calls Tryd.prog 21 #[.slice A M.length c] V fun e w' => e = .returned (.bool false) ∧ V = w')) (hk : 1 + modI ((N : Int) - 1) 4 = k) (h0 : N = 0) (hn3 : n = 3) :
    Calls Tryd.prog 44 #[.slice A N c] w (TabM w (tmP L n k)) := by
  unfold maxLen at hc
  obtain ⟨k0, ki, kz0, kz1, kz2⟩ := info_parts info29
  have HA := Lib.hid (fun V (hV : Below w.heap.size w V) => ha.below hV)
  have HMK : Hid (∀ V, Calls Tryd.prog 48 #[.int .i64 ((N : Int) - 1), .int .i64 4] V fun e w' => e = .returned (.int .i64 (modI ((N : Int) - 1) 4 : Nat)) ∧ V = w') := Lib.hid (fun V => mod_any ((N : Int) - 1) 4 V (by omega) (by omega))
  have hkm := modI_lt ((N : Int) - 1) (n := 4) (by omega)
  have b0 := Below.refl w.heap.size w
  have HT0 := Lib.hid (HT.out w b0)
  have g0 : decide (0 < N) = false := decide_eq_false (by omega)
  clear h0
  clear ha HT
  generalize modI ((N : Int) - 1) 4 = kk at *
  go_enter Tryd.func44, Tryd.ntmps44
  go_wp2_with (first
    | (go_at_call 16; refine HT0.out.mono ?_; rintro e w1 ⟨A1, c1, rfl, ra, b1⟩; replace b0 := b0.trans (b1.mono b0.size))
    | (go_at_call 21; refine (HRM.out _ _ _ ra).mono ?_; rintro e w4 ⟨rfl, rfl⟩)
    | (go_at_call 48; refine (HMK.out _).mono ?_; rintro e w5 ⟨rfl, rfl⟩))
  rw [show (1 : Int) + (kk : Int) = (k : Int) by omega]
  rw [show (3 : Int) = (n : Int) by omega]
  have hn1 : 1 ≤ n := by omega
  have hn9 : n ≤ 9 := by omega
  have hk1 : 1 ≤ k := by omega
  have hk4 : k ≤ 4 := by omega
  clear hn3 hk hkm
  have o0 : w1.ownsRow w.heap.size 29 1 (.slice none 0 0) 0 [] := ⟨rfl, .inl ⟨rfl, rfl⟩⟩
  have R0' : Hid (RowsOwn w1 w.heap.size [] (tmP L n 0)) := Lib.hid ⟨rfl, fun j hj => absurd hj (by simp [tmP])⟩
  go_loopw [6, 7] (fun v i wr => ∃ (b : Nat) (cs : List Value), b ≤ k ∧ i = .int .i64 b ∧ wr.ownsRow w.heap.size 29 1 v b cs ∧ Hid (RowsOwn wr w.heap.size cs (tmP L n b)) ∧ Below w.heap.size w wr) (fun _ i _ => k - (intOf i).toNat)
  case atStart => exact ⟨0, [], by omega, rfl, o0, R0', b0⟩
  case round =>
    clear o0 R0' b0
    obtain ⟨b, cs, hb, rfl, o0, HR, b0⟩ := hrel
    obtain ⟨w0, hw0⟩ : ∃ w0, w0 = wr := ⟨_, rfl⟩
    subst hw0
    obtain ⟨A2, c2, rfl⟩ := own_head o0
    by_cases hlt : b < k
    · have g1 : decide (b < k) = true := decide_eq_true hlt
      have hmk := make_ints n (by omega)
      have HTK := Lib.hid (tmP_succ L n b)
      have hbs := b0.size
      have HA2 := Lib.hid (fun V (hV : Below w0.heap.size w0 V) => HA.out V (b0.trans (hV.mono hbs)))
      have HRL : Hid (tmR L n b = slP (fun q => tmF L n b q) n (tmE L n b)) := Lib.hid rfl
      have HTE : Hid (tmE L n b = if b < N then min n (getl L b).length else 0) := Lib.hid (by rw [← hN]; rfl)
      have H0 : Hid (slP (fun q => tmF L n b q) n 0 = List.replicate n 0) := Lib.hid (slP_zero _ n)
      have HST := Lib.hid (fun q (hq : q < n) => slP_step (fun q => tmF L n b q) hq)
      have HLN := Lib.hid (slP_len (fun q => tmF L n b q) n)
      have HF : Hid (∀ q, tmF L n b q = (modI (geti (getl L b) q) n : Nat)) := Lib.hid (fun q => rfl)
      have HO := Lib.hid o0
      clear o0
      have q1 : Row (w0.alloc (.cells (iv (List.replicate n 0)).toArray 3)) w0.heap.size 3 (iv (slP (fun q => tmF L n b q) n 0)) := by rw [H0.out]; exact row_new rfl
      have b1 : Below w0.heap.size w0 (w0.alloc (.cells (iv (List.replicate n 0)).toArray 3)) := (Below.refl _ w0).alloc (Nat.le_refl _) _
      generalize tmE L n b = E at *
      go_wp2
      clear hmk H0
      generalize World.alloc w0 _ = W1 at *
      go_loopw [9] (fun i wr => ∃ q : Nat, i = .int .i64 q ∧ q ≤ n ∧ q ≤ E ∧ Row wr w0.heap.size 3 (iv (slP (fun q => tmF L n b q) n q)) ∧ Below w0.heap.size w0 wr) (fun i _ => n - (intOf i).toNat)
      case atStart => exact ⟨0, rfl, by omega, by omega, q1, b1⟩
      case round =>
        clear q1 b1
        obtain ⟨q, rfl, hq, hqE, q1, b1⟩ := hrel
        by_cases hqe : q < E
        · have hE := HTE.out
          have hbL : b < N := by
            rcases Nat.lt_or_ge b N with h | h
            · exact h
            · rw [if_neg (by omega)] at hE; omega
          rw [if_pos hbL] at hE
          have hqn : q < n := by omega
          have hql : q < (getl L b).length := by omega
          have g2 : decide (q < n) = true := decide_eq_true hqn
          have g3 : decide (b < N) = true := decide_eq_true hbL
          obtain ⟨bA, oA, hAe, hbA, hcs⟩ := (HA2.out wr b1) (by omega)
          cases hAe
          obtain ⟨B, cB, d1, -, -, h2⟩ := hcs b (by omega)
          obtain ⟨bB, oB, hBe, -, hcB⟩ := h2 (by omega)
          subst hBe
          have d2 := hcB q hql
          have e1 := ivR q1 (i := q) (by rw [HLN.out]; exact hqn)
          have f1 := q1.free q
          have HMD := Lib.hid (mod_any (geti (getl L b) q) n wr (by omega) (by omega))
          have HF1 := Lib.hid (HF.out q)
          have HS1 := Lib.hid (HST.out q hqn)
          have g4 : decide (q < (getl L b).length) = true := decide_eq_true hql
          generalize geti (getl L b) q = x at *
          generalize (getl L b).length = len at *
          clear hcs hcB h2 hE HTE
          go_wp2_with (go_at_call 48; refine HMD.out.mono ?_; rintro e w2 ⟨rfl, rfl⟩)
          go_roundw
          case rel =>
            refine ⟨q + 1, by go_num, by omega, by omega, ?_, b1.setCell (by dsimp only; omega) _⟩
            have h := q1.set q (.int .i64 (modI x n : Nat))
            rw [iv_set, ← HF1.out, HS1.out] at h
            rw [← HF1.out]
            exact h
          case measure => simp [intOf]; omega
        · obtain rfl : q = E := by omega
          have hE := HTE.out
          have b6 := b0.trans (b1.mono hbs)
          have OO := Lib.hid (HO.out.kept' b1)
          have ox := own_of_row (b := w.heap.size) (n := n) q1 hbs (HLN.out q) (by omega)
          rw [← HRL.out] at ox
          have RX := Lib.hid ((HR.out.below b1).add ox)
          have hb6 := b6.size
          clear ox HR HO HRL
          have hnr : Row (wr.alloc (.cells #[.slice (some ⟨w0.heap.size, 0, none⟩) n n] 29)) wr.heap.size 29 [.slice (some ⟨w0.heap.size, 0, none⟩) n n] := row_new rfl
          by_cases hn : q < n
          · have g2 : decide (q < n) = true := decide_eq_true hn
            by_cases hbL : b < N
            · have g3 : decide (b < N) = true := decide_eq_true hbL
              rw [if_pos hbL] at hE
              have g4 : decide (q < (getl L b).length) = false := decide_eq_false (by omega)
              obtain ⟨bA, oA, hAe, hbA, hcs⟩ := (HA2.out wr b1) (by omega)
              cases hAe
              obtain ⟨B, cB, d1, -, -, h2⟩ := hcs b (by omega)
              generalize (getl L b).length = len at *
              clear hcs h2 hE HTE
              go_wp2_with (at_builtin; refine wpList_append_own_at _ rfl (.tmp 69) (.tmp 71) 22 rfl w.heap.size 29 k0 (.slice none 0 0) 1 24 Tryd.underlying22 ki kz0 kz1 kz2 rfl (by decide) _ _ _ rfl (OO.out.alloc _) ⟨wr.heap.size, 0, none⟩ 1 1 [.slice (some ⟨w0.heap.size, 0, none⟩) n n] rfl rfl (news_one hnr) (by simp [Value.oneCell']) (by unfold maxLen; omega) (by omega) (by simp; omega) ?_; intro v8 w8 o8 hg8 _ _)
              have b8 := b6.trans (app1' OO.out b6.size hg8)
              go_roundw
              case rel =>
                refine ⟨b + 1, cs ++ [.slice (some ⟨w0.heap.size, 0, none⟩) n n], by omega, by go_num, o8, Lib.hid ?_, b8⟩
                rw [HTK.out]
                exact (RX.out.below ((Below.refl _ _).alloc (Nat.le_refl _) _)).grown (OO.out.alloc _) (by decide) hg8
              case measure => simp [intOf]; omega
            · have g3 : decide (b < N) = false := decide_eq_false hbL
              clear hE HTE
              go_wp2_with (at_builtin; refine wpList_append_own_at _ rfl (.tmp 69) (.tmp 71) 22 rfl w.heap.size 29 k0 (.slice none 0 0) 1 24 Tryd.underlying22 ki kz0 kz1 kz2 rfl (by decide) _ _ _ rfl (OO.out.alloc _) ⟨wr.heap.size, 0, none⟩ 1 1 [.slice (some ⟨w0.heap.size, 0, none⟩) n n] rfl rfl (news_one hnr) (by simp [Value.oneCell']) (by unfold maxLen; omega) (by omega) (by simp; omega) ?_; intro v8 w8 o8 hg8 _ _)
              have b8 := b6.trans (app1' OO.out b6.size hg8)
              go_roundw
              case rel =>
                refine ⟨b + 1, cs ++ [.slice (some ⟨w0.heap.size, 0, none⟩) n n], by omega, by go_num, o8, Lib.hid ?_, b8⟩
                rw [HTK.out]
                exact (RX.out.below ((Below.refl _ _).alloc (Nat.le_refl _) _)).grown (OO.out.alloc _) (by decide) hg8
              case measure => simp [intOf]; omega
          · have g2 : decide (q < n) = false := decide_eq_false hn
            clear hE HTE
            go_wp2_with (at_builtin; refine wpList_append_own_at _ rfl (.tmp 69) (.tmp 71) 22 rfl w.heap.size 29 k0 (.slice none 0 0) 1 24 Tryd.underlying22 ki kz0 kz1 kz2 rfl (by decide) _ _ _ rfl (OO.out.alloc _) ⟨wr.heap.size, 0, none⟩ 1 1 [.slice (some ⟨w0.heap.size, 0, none⟩) n n] rfl rfl (news_one hnr) (by simp [Value.oneCell']) (by unfold maxLen; omega) (by omega) (by simp; omega) ?_; intro v8 w8 o8 hg8 _ _)
            have b8 := b6.trans (app1' OO.out b6.size hg8)
            go_roundw
            case rel =>
              refine ⟨b + 1, cs ++ [.slice (some ⟨w0.heap.size, 0, none⟩) n n], by omega, by go_num, o8, Lib.hid ?_, b8⟩
              rw [HTK.out]
              exact (RX.out.below ((Below.refl _ _).alloc (Nat.le_refl _) _)).grown (OO.out.alloc _) (by decide) hg8
            case measure => simp [intOf]; omega
    · obtain rfl : b = k := by omega
      have g1 : decide (b < b) = false := decide_eq_false hlt
      go_wp2
      go_ret
      refine ⟨A2, c2, ?_, rows_at HR.out o0, b0⟩
      rw [tmP_len]; rfl
theorem tame_1 (A : Option Addr) (c : Nat) (L M : List (List Int)) (n k : Nat) (w : World) (N : Nat) (hN : L.length = N) (hx : N ≤ c) (hc : c ≤ maxLen) (ha : RowsIn w A L) (HT : Hid (∀ V, Below w.heap.size w V → Calls Tryd.prog 16 #[.slice A N c] V (TabM V M)))
    (HRM : Hid (∀ V A c, RowsAt V A M → Calls Tryd.prog 21 #[.slice A M.length c] V fun e w' => e = .returned (.bool false) ∧ V = w')) (hk : 1 + modI ((N : Int) - 1) 4 = k) (h0 : 0 < N) (R0 : Nat) (hR0 : (getl L 0).length = R0) (hn3 : 1 + modI ((R0 : Int) - 1) 9 = n) :
    Calls Tryd.prog 44 #[.slice A N c] w (TabM w (tmP L n k)) := by
  unfold maxLen at hc
  obtain ⟨k0, ki, kz0, kz1, kz2⟩ := info_parts info29
  have HA := Lib.hid (fun V (hV : Below w.heap.size w V) => ha.below hV)
  have HMK : Hid (∀ V, Calls Tryd.prog 48 #[.int .i64 ((N : Int) - 1), .int .i64 4] V fun e w' => e = .returned (.int .i64 (modI ((N : Int) - 1) 4 : Nat)) ∧ V = w') := Lib.hid (fun V => mod_any ((N : Int) - 1) 4 V (by omega) (by omega))
  have hkm := modI_lt ((N : Int) - 1) (n := 4) (by omega)
  have HMN : Hid (∀ V, Calls Tryd.prog 48 #[.int .i64 ((R0 : Int) - 1), .int .i64 9] V fun e w' => e = .returned (.int .i64 (modI ((R0 : Int) - 1) 9 : Nat)) ∧ V = w') := Lib.hid (fun V => mod_any ((R0 : Int) - 1) 9 V (by omega) (by omega))
  have hnm := modI_lt ((R0 : Int) - 1) (n := 9) (by omega)
  have hr0 : R0 ≤ 9223372036854775807 := by
    obtain ⟨_, _, _, _, hcs⟩ := ha (by omega)
    obtain ⟨_, cB, _, h3, h4, _⟩ := hcs 0 (by omega)
    unfold maxLen at h4
    omega
  have HD : Hid (∀ V, Below w.heap.size w V → ∃ bA oA B cB, A = some ⟨bA, oA, none⟩ ∧ V.cell? ⟨bA, oA, none⟩ = some (.slice B R0 cB)) := Lib.hid (fun V hV => by
    obtain ⟨bA, oA, e, _, hcs⟩ := ha.below hV (by omega)
    obtain ⟨B, cB, d1, _⟩ := hcs 0 (by omega)
    rw [hR0, Nat.add_zero] at d1
    exact ⟨bA, oA, B, cB, e, d1⟩)
  have b0 := Below.refl w.heap.size w
  have HT0 := Lib.hid (HT.out w b0)
  have g0 : decide (0 < N) = true := decide_eq_true h0
  clear ha HT
  generalize modI ((N : Int) - 1) 4 = kk at *
  generalize modI ((R0 : Int) - 1) 9 = nn at *
  go_enter Tryd.func44, Tryd.ntmps44
  go_wp2_with (first
    | (go_at_call 16; refine HT0.out.mono ?_; rintro e w1 ⟨A1, c1, rfl, ra, b1⟩; replace b0 := b0.trans (b1.mono b0.size))
    | (go_at_call 21; refine (HRM.out _ _ _ ra).mono ?_; rintro e w4 ⟨rfl, rfl⟩)
    | (go_at_call 48; first | ((with_reducible refine (HMK.out _).mono ?_); rintro e w5 ⟨rfl, rfl⟩; obtain ⟨bA0, oA0, B0, cB0, hAe, d0⟩ := HD.out _ b0; subst hAe) | ((with_reducible refine (HMN.out _).mono ?_); rintro e w6 ⟨rfl, rfl⟩)))
  clear d0
  rw [show (1 : Int) + (kk : Int) = (k : Int) by omega]
  rw [show (1 : Int) + (nn : Int) = (n : Int) by omega]
  have hn1 : 1 ≤ n := by omega
  have hn9 : n ≤ 9 := by omega
  have hk1 : 1 ≤ k := by omega
  have hk4 : k ≤ 4 := by omega
  clear hn3 hk hkm
  have o0 : w1.ownsRow w.heap.size 29 1 (.slice none 0 0) 0 [] := ⟨rfl, .inl ⟨rfl, rfl⟩⟩
  have R0' : Hid (RowsOwn w1 w.heap.size [] (tmP L n 0)) := Lib.hid ⟨rfl, fun j hj => absurd hj (by simp [tmP])⟩
  go_loopw [6, 7] (fun v i wr => ∃ (b : Nat) (cs : List Value), b ≤ k ∧ i = .int .i64 b ∧ wr.ownsRow w.heap.size 29 1 v b cs ∧ Hid (RowsOwn wr w.heap.size cs (tmP L n b)) ∧ Below w.heap.size w wr) (fun _ i _ => k - (intOf i).toNat)
  case atStart => exact ⟨0, [], by omega, rfl, o0, R0', b0⟩
  case round =>
    clear o0 R0' b0
    obtain ⟨b, cs, hb, rfl, o0, HR, b0⟩ := hrel
    obtain ⟨w0, hw0⟩ : ∃ w0, w0 = wr := ⟨_, rfl⟩
    subst hw0
    obtain ⟨A2, c2, rfl⟩ := own_head o0
    by_cases hlt : b < k
    · have g1 : decide (b < k) = true := decide_eq_true hlt
      have hmk := make_ints n (by omega)
      have HTK := Lib.hid (tmP_succ L n b)
      have hbs := b0.size
      have HA2 := Lib.hid (fun V (hV : Below w0.heap.size w0 V) => HA.out V (b0.trans (hV.mono hbs)))
      have HRL : Hid (tmR L n b = slP (fun q => tmF L n b q) n (tmE L n b)) := Lib.hid rfl
      have HTE : Hid (tmE L n b = if b < N then min n (getl L b).length else 0) := Lib.hid (by rw [← hN]; rfl)
      have H0 : Hid (slP (fun q => tmF L n b q) n 0 = List.replicate n 0) := Lib.hid (slP_zero _ n)
      have HST := Lib.hid (fun q (hq : q < n) => slP_step (fun q => tmF L n b q) hq)
      have HLN := Lib.hid (slP_len (fun q => tmF L n b q) n)
      have HF : Hid (∀ q, tmF L n b q = (modI (geti (getl L b) q) n : Nat)) := Lib.hid (fun q => rfl)
      have HO := Lib.hid o0
      clear o0
      have q1 : Row (w0.alloc (.cells (iv (List.replicate n 0)).toArray 3)) w0.heap.size 3 (iv (slP (fun q => tmF L n b q) n 0)) := by rw [H0.out]; exact row_new rfl
      have b1 : Below w0.heap.size w0 (w0.alloc (.cells (iv (List.replicate n 0)).toArray 3)) := (Below.refl _ w0).alloc (Nat.le_refl _) _
      generalize tmE L n b = E at *
      go_wp2
      clear hmk H0
      generalize World.alloc w0 _ = W1 at *
      go_loopw [9] (fun i wr => ∃ q : Nat, i = .int .i64 q ∧ q ≤ n ∧ q ≤ E ∧ Row wr w0.heap.size 3 (iv (slP (fun q => tmF L n b q) n q)) ∧ Below w0.heap.size w0 wr) (fun i _ => n - (intOf i).toNat)
      case atStart => exact ⟨0, rfl, by omega, by omega, q1, b1⟩
      case round =>
        clear q1 b1
        obtain ⟨q, rfl, hq, hqE, q1, b1⟩ := hrel
        by_cases hqe : q < E
        · have hE := HTE.out
          have hbL : b < N := by
            rcases Nat.lt_or_ge b N with h | h
            · exact h
            · rw [if_neg (by omega)] at hE; omega
          rw [if_pos hbL] at hE
          have hqn : q < n := by omega
          have hql : q < (getl L b).length := by omega
          have g2 : decide (q < n) = true := decide_eq_true hqn
          have g3 : decide (b < N) = true := decide_eq_true hbL
          obtain ⟨bA, oA, hAe, hbA, hcs⟩ := (HA2.out wr b1) (by omega)
          cases hAe
          obtain ⟨B, cB, d1, -, -, h2⟩ := hcs b (by omega)
          obtain ⟨bB, oB, hBe, -, hcB⟩ := h2 (by omega)
          subst hBe
          have d2 := hcB q hql
          have e1 := ivR q1 (i := q) (by rw [HLN.out]; exact hqn)
          have f1 := q1.free q
          have HMD := Lib.hid (mod_any (geti (getl L b) q) n wr (by omega) (by omega))
          have HF1 := Lib.hid (HF.out q)
          have HS1 := Lib.hid (HST.out q hqn)
          have g4 : decide (q < (getl L b).length) = true := decide_eq_true hql
          generalize geti (getl L b) q = x at *
          generalize (getl L b).length = len at *
          clear hcs hcB h2 hE HTE
          go_wp2_with (go_at_call 48; refine HMD.out.mono ?_; rintro e w2 ⟨rfl, rfl⟩)
          go_roundw
          case rel =>
            refine ⟨q + 1, by go_num, by omega, by omega, ?_, b1.setCell (by dsimp only; omega) _⟩
            have h := q1.set q (.int .i64 (modI x n : Nat))
            rw [iv_set, ← HF1.out, HS1.out] at h
            rw [← HF1.out]
            exact h
          case measure => simp [intOf]; omega
        · obtain rfl : q = E := by omega
          have hE := HTE.out
          have b6 := b0.trans (b1.mono hbs)
          have OO := Lib.hid (HO.out.kept' b1)
          have ox := own_of_row (b := w.heap.size) (n := n) q1 hbs (HLN.out q) (by omega)
          rw [← HRL.out] at ox
          have RX := Lib.hid ((HR.out.below b1).add ox)
          have hb6 := b6.size
          clear ox HR HO HRL
          have hnr : Row (wr.alloc (.cells #[.slice (some ⟨w0.heap.size, 0, none⟩) n n] 29)) wr.heap.size 29 [.slice (some ⟨w0.heap.size, 0, none⟩) n n] := row_new rfl
          by_cases hn : q < n
          · have g2 : decide (q < n) = true := decide_eq_true hn
            by_cases hbL : b < N
            · have g3 : decide (b < N) = true := decide_eq_true hbL
              rw [if_pos hbL] at hE
              have g4 : decide (q < (getl L b).length) = false := decide_eq_false (by omega)
              obtain ⟨bA, oA, hAe, hbA, hcs⟩ := (HA2.out wr b1) (by omega)
              cases hAe
              obtain ⟨B, cB, d1, -, -, h2⟩ := hcs b (by omega)
              generalize (getl L b).length = len at *
              clear hcs h2 hE HTE
              go_wp2_with (at_builtin; refine wpList_append_own_at _ rfl (.tmp 69) (.tmp 71) 22 rfl w.heap.size 29 k0 (.slice none 0 0) 1 24 Tryd.underlying22 ki kz0 kz1 kz2 rfl (by decide) _ _ _ rfl (OO.out.alloc _) ⟨wr.heap.size, 0, none⟩ 1 1 [.slice (some ⟨w0.heap.size, 0, none⟩) n n] rfl rfl (news_one hnr) (by simp [Value.oneCell']) (by unfold maxLen; omega) (by omega) (by simp; omega) ?_; intro v8 w8 o8 hg8 _ _)
              have b8 := b6.trans (app1' OO.out b6.size hg8)
              go_roundw
              case rel =>
                refine ⟨b + 1, cs ++ [.slice (some ⟨w0.heap.size, 0, none⟩) n n], by omega, by go_num, o8, Lib.hid ?_, b8⟩
                rw [HTK.out]
                exact (RX.out.below ((Below.refl _ _).alloc (Nat.le_refl _) _)).grown (OO.out.alloc _) (by decide) hg8
              case measure => simp [intOf]; omega
            · have g3 : decide (b < N) = false := decide_eq_false hbL
              clear hE HTE
              go_wp2_with (at_builtin; refine wpList_append_own_at _ rfl (.tmp 69) (.tmp 71) 22 rfl w.heap.size 29 k0 (.slice none 0 0) 1 24 Tryd.underlying22 ki kz0 kz1 kz2 rfl (by decide) _ _ _ rfl (OO.out.alloc _) ⟨wr.heap.size, 0, none⟩ 1 1 [.slice (some ⟨w0.heap.size, 0, none⟩) n n] rfl rfl (news_one hnr) (by simp [Value.oneCell']) (by unfold maxLen; omega) (by omega) (by simp; omega) ?_; intro v8 w8 o8 hg8 _ _)
              have b8 := b6.trans (app1' OO.out b6.size hg8)
              go_roundw
              case rel =>
                refine ⟨b + 1, cs ++ [.slice (some ⟨w0.heap.size, 0, none⟩) n n], by omega, by go_num, o8, Lib.hid ?_, b8⟩
                rw [HTK.out]
                exact (RX.out.below ((Below.refl _ _).alloc (Nat.le_refl _) _)).grown (OO.out.alloc _) (by decide) hg8
              case measure => simp [intOf]; omega
          · have g2 : decide (q < n) = false := decide_eq_false hn
            clear hE HTE
            go_wp2_with (at_builtin; refine wpList_append_own_at _ rfl (.tmp 69) (.tmp 71) 22 rfl w.heap.size 29 k0 (.slice none 0 0) 1 24 Tryd.underlying22 ki kz0 kz1 kz2 rfl (by decide) _ _ _ rfl (OO.out.alloc _) ⟨wr.heap.size, 0, none⟩ 1 1 [.slice (some ⟨w0.heap.size, 0, none⟩) n n] rfl rfl (news_one hnr) (by simp [Value.oneCell']) (by unfold maxLen; omega) (by omega) (by simp; omega) ?_; intro v8 w8 o8 hg8 _ _)
            have b8 := b6.trans (app1' OO.out b6.size hg8)
            go_roundw
            case rel =>
              refine ⟨b + 1, cs ++ [.slice (some ⟨w0.heap.size, 0, none⟩) n n], by omega, by go_num, o8, Lib.hid ?_, b8⟩
              rw [HTK.out]
              exact (RX.out.below ((Below.refl _ _).alloc (Nat.le_refl _) _)).grown (OO.out.alloc _) (by decide) hg8
            case measure => simp [intOf]; omega
    · obtain rfl : b = k := by omega
      have g1 : decide (b < b) = false := decide_eq_false hlt
      go_wp2
      go_ret
      refine ⟨A2, c2, ?_, rows_at HR.out o0, b0⟩
      rw [tmP_len]; rfl
theorem tame_any (A : Option Addr) (c : Nat) (L : List (List Int)) (w : World) (hx : L.length ≤ c) (hc : c ≤ maxLen) (ha : RowsIn w A L) :
    ∃ M, IsMI M ∧ ∀ V, Below w.heap.size w V → Calls Tryd.prog 44 #[.slice A L.length c] V (TabM V M) := by
  obtain ⟨M, hl, hT⟩ := tabM_any A c L w hx hc ha
  have HRM := Lib.hid (fun (V : World) A c ha => refMachine_any A c M V hl ha)
  cases hk : okM M
  · rw [hk] at HRM
    have k4 := modI_lt ((L.length : Int) - 1) (n := 4) (by omega)
    by_cases h0 : L.length = 0
    · exact ⟨tmP L 3 _, tmP_ok L (by omega) (by omega) (by omega) (by omega), fun V hV => tame_0 A c L M 3 _ V _ rfl hx hc (ha.below hV) (Lib.hid (fun U hU => hT U (hV.trans (hU.mono hV.size)))) HRM rfl h0 rfl⟩
    · have n9 := modI_lt (((getl L 0).length : Int) - 1) (n := 9) (by omega)
      exact ⟨tmP L _ _, tmP_ok L (by omega) (by omega) (by omega) (by omega), fun V hV => tame_1 A c L M _ _ V _ rfl hx hc (ha.below hV) (Lib.hid (fun U hU => hT U (hV.trans (hU.mono hV.size)))) HRM rfl (by omega) _ rfl rfl⟩
  · rw [hk] at HRM
    exact ⟨M, okM_iff.1 hk, fun V hV => tame_yes A c L.length V M (Lib.hid (hT V hV)) HRM⟩
end Go.Proofs.YtignbpipdfjkeaaDoor
