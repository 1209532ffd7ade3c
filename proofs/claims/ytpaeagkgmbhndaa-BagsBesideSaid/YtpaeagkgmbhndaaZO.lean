/- Parts BM BN of the proof, in this order. -/
import Derived.Test.YtpaeagkgmbhndaaZK
import Derived.Test.YtpaeagkgmbhndaaZN
/- A graph made from any list. -/
namespace Go.Proofs.Ytpaeagkgmbhndaa
open Go.RowKit
attribute [local go_sem] Oper.semAt_some
set_option maxHeartbeats 1000000
set_option maxRecDepth 100000
theorem modI_lt (x : Int) {n : Nat} (h : 0 < n) : modI x n < n := Nat.mod_lt _ h
theorem news_two {W : World} {g : Nat} {t : TypeId} {x y : Value} (h : Row W g t [x, y]) : ∀ j u, [x, y][j]? = some u → W.cell? ((⟨g, 0, none⟩ : Addr).add j) = some u := by
  intro j u hj
  rw [WideShapes.add_plain, Nat.zero_add, h.cell, hj]
theorem app1' {W w5 : World} {n₀ : Nat} {e : TypeId} {z k : Nat} {v1 : Value} {xs : List Value} (h1 : W.ownsRow n₀ e z v1 k xs) (hn : n₀ ≤ W.heap.size) {o : Obj} (hgr : (W.alloc o).grownBy w5 v1.ownBlock) : Below n₀ W w5 := (app1 h1 hn hgr).1
theorem pv_snoc (ps : List (Int × Int)) (x y : Int) : pv (ps ++ [(x, y)]) = pv ps ++ [.int .i64 x, .int .i64 y] := by simp [pv]
theorem Graph_snoc (n : Int) (A : Option Addr) (c : Nat) (own : List (Int × Int)) (x y : Int) (w : World) (hl : own.length ≤ 130) (ha : PairsAt w A (own ++ [(x, y)])) :
    Calls Try.prog 16 #[.int .i64 n, .slice A (own.length + 1) c] w fun e w' => e = .returned (.bool (readF n (own ++ [(x, y)])).isSome) ∧ Below w.heap.size w w' := by
  have := Graph_any n A c (own ++ [(x, y)]) w (by simp; omega) ha
  rw [List.length_append] at this
  exact this
/-- A graph, or none yet. -/
def TameI (m : Nat) (k : Nat) (own : List (Int × Int)) : Prop := own.length ≤ k ∧ ∃ gs, readF m own = some gs
theorem TameI.start {m : Nat} (h : 1 ≤ m) (hm : m ≤ 16) : TameI m 0 [] := ⟨Nat.zero_le _, Z16, by unfold readF; rw [if_pos (by omega)]; rfl⟩
theorem tame_any (m : Nat) (A : Option Addr) (c : Nat) (es : List (Int × Int)) (w : World) (_hx : es.length ≤ c) (_hc : c ≤ maxLen) (ha : PairsAt w A es) (h1 : 1 ≤ m) (hm : m ≤ 16) :
    Calls Try.prog 37 #[.slice A es.length c, .int .i64 m] w fun e w' => ∃ v own gs, e = .returned v ∧ own.length ≤ 130 ∧ readF m own = some gs ∧ w'.ownsRow w.heap.size 67 2 v own.length (pv own) ∧ Below w.heap.size w w' := by
  obtain ⟨i0, hi, hz0, hz1, hz2⟩ := info_parts info67k
  unfold maxLen at _hc
  go_enter Try.func37, Try.ntmps37
  go_wp2
  go_loopw [5, 6] (fun o i wr => ∃ (k : Nat) (own : List (Int × Int)), k ≤ es.length ∧ k ≤ 130 ∧ i = .int .i64 k ∧ TameI m k own ∧ wr.ownsRow w.heap.size 67 2 o own.length (pv own) ∧ Below w.heap.size w wr) (fun _ i _ => es.length - (intOf i).toNat)
  case atStart => exact ⟨0, [], by omega, by omega, rfl, TameI.start h1 hm, ⟨rfl, .inl ⟨rfl, rfl⟩⟩, Below.refl _ _⟩
  case round =>
    obtain ⟨k, own, hk, hk130, rfl, ht, ho, hb⟩ := hrel
    have HT := Lib.hid ht
    obtain ⟨hol, gs, hgs⟩ := ht
    have HG := Lib.hid hgs
    clear hgs
    obtain ⟨A0, c0, rfl, -, hc0, p0⟩ := own_pairs ho
    have hc0m : c0 ≤ maxLen := by
      rcases ho.2 with ⟨h, _⟩ | ⟨g, cap, cur, h, _, _, _, hcm, _⟩
      · injection h with _ _ h; omega
      · injection h with _ _ h; omega
    by_cases hlt : k < es.length ∧ k < 130
    · obtain ⟨hlt, hlt2⟩ := hlt
      have HED := Lib.hid (fun (W : World) (hW : Below wr.heap.size wr W) => edges_any A0 c0 own W hc0 hc0m (p0.below hW))
      have HTK := Lib.hid (List.take_of_length_le (show own.length ≤ 130 by omega))
      obtain ⟨B, o, rfl, hB, hcc⟩ := (ha.below hb) (by omega)
      obtain ⟨x0, y0⟩ := hcc k hlt
      clear hcc p0 hc0 hc0m
      have ha1 := modI_lt (pA es k) h1
      have ha2 := modI_lt (pB es k) h1
      generalize pA es k = x at *
      generalize pB es k = y at *
      generalize hax : modI x m = a at *
      generalize hby : modI y m = b at *
      have HX := Lib.hid (fun w => by have := mod_any x m w h1 (by omega); rw [hax] at this; exact this : ∀ w, Calls Try.prog 36 #[.int .i64 x, .int .i64 m] w fun e w' => e = .returned (.int .i64 (a : Nat)) ∧ w = w')
      have HY := Lib.hid (fun w => by have := mod_any y m w h1 (by omega); rw [hby] at this; exact this : ∀ w, Calls Try.prog 36 #[.int .i64 y, .int .i64 m] w fun e w' => e = .returned (.int .i64 (b : Nat)) ∧ w = w')
      clear hax hby
      go_wp2
      go_quiet ((go_at_call 36; first | (with_reducible exact quiet_same (HX.out _)) | (with_reducible exact quiet_same (HY.out _))))
      rcases Nat.lt_trichotomy a b with hab | hab | hab
      · have E1 := Lib.hid (show (own ++ [((((a : Nat) : Int), ((b : Nat) : Int)))]).length = own.length + 1 by simp)
        cases hq : (readF m (own ++ [((((a : Nat) : Int), ((b : Nat) : Int)))])).isSome
        all_goals
          have HQ := Lib.hid hq
          clear hq
          go_wp2_with (first
            | (go_at_call 14; refine (HED.out _ (below_drewN nq)).mono ?_; rintro e w1 ⟨v1, n1, rfl, o1, b1⟩; rw [HTK.out] at o1; obtain ⟨A1, c1, rfl, rfl, -, p1⟩ := own_pairs o1; have hb1 : Below wr.heap.size wr w1 := (below_drewN nq).trans b1; have hz1' : wr.heap.size ≤ w1.heap.size := hb1.size)
            | (at_builtin; refine wpList_append_own_at _ rfl (.tmp 35) (.tmp 43) 22 rfl wr.heap.size 67 i0 _ 2 16 Try.underlying22 hi hz0 hz1 hz2 rfl (by omega) _ _ _ rfl (o1.alloc _) ⟨w1.heap.size, 0, none⟩ 1 1 [.int .i64 (a : Nat), .int .i64 (b : Nat)] rfl rfl (news_two (row_new rfl)) (by simp [Value.oneCell']) (by unfold maxLen; omega) (by omega) (by simp; omega) ?_; intro v2 w2 o2 hg2 _ _; have b2 := app1' o1 hz1' hg2; rw [← pv_snoc] at o2; obtain ⟨A2, c2, e2, -, -, p2⟩ := own_pairs o2; rw [E1.out] at e2; subst e2; have hb2 := hb1.trans b2; clear o1 p1 hg2 b2)
            | (go_at_call 16; refine (Graph_snoc m A2 c2 own a b _ (by omega) p2).mono ?_; rintro e w3 ⟨rfl, b3⟩; rw [HQ.out]; have hb3 := hb2.trans (b3.mono hb2.size); have hb4 := hb.trans (hb3.mono hb.size); have o3 := o2.kept' b3; have ho3 := ho.kept' hb3))
        · go_roundw
          case rel => exact ⟨k + 1, own, by omega, by omega, by go_num, ⟨by omega, _, HG.out⟩, ho3, hb4⟩
          case measure => simp [intOf]; omega
        · go_roundw
          case rel => exact ⟨k + 1, own ++ [((((a : Nat) : Int), ((b : Nat) : Int)))], by omega, by omega, by go_num, ⟨by rw [E1.out]; omega, Option.isSome_iff_exists.1 HQ.out⟩, by rw [E1.out]; exact own_mono o3 hb.size, hb4⟩
          case measure => simp [intOf]; omega
      · subst hab
        have E1 := Lib.hid (show (own ++ [((((a : Nat) : Int), ((a : Nat) : Int)))]).length = own.length + 1 by simp)
        cases hq : (readF m (own ++ [((((a : Nat) : Int), ((a : Nat) : Int)))])).isSome
        all_goals
          have HQ := Lib.hid hq
          clear hq
          go_wp2_with (first
            | (go_at_call 14; refine (HED.out _ (below_drewN nq)).mono ?_; rintro e w1 ⟨v1, n1, rfl, o1, b1⟩; rw [HTK.out] at o1; obtain ⟨A1, c1, rfl, rfl, -, p1⟩ := own_pairs o1; have hb1 : Below wr.heap.size wr w1 := (below_drewN nq).trans b1; have hz1' : wr.heap.size ≤ w1.heap.size := hb1.size)
            | (at_builtin; refine wpList_append_own_at _ rfl (.tmp 35) (.tmp 43) 22 rfl wr.heap.size 67 i0 _ 2 16 Try.underlying22 hi hz0 hz1 hz2 rfl (by omega) _ _ _ rfl (o1.alloc _) ⟨w1.heap.size, 0, none⟩ 1 1 [.int .i64 (a : Nat), .int .i64 (a : Nat)] rfl rfl (news_two (row_new rfl)) (by simp [Value.oneCell']) (by unfold maxLen; omega) (by omega) (by simp; omega) ?_; intro v2 w2 o2 hg2 _ _; have b2 := app1' o1 hz1' hg2; rw [← pv_snoc] at o2; obtain ⟨A2, c2, e2, -, -, p2⟩ := own_pairs o2; rw [E1.out] at e2; subst e2; have hb2 := hb1.trans b2; clear o1 p1 hg2 b2)
            | (go_at_call 16; refine (Graph_snoc m A2 c2 own a a _ (by omega) p2).mono ?_; rintro e w3 ⟨rfl, b3⟩; rw [HQ.out]; have hb3 := hb2.trans (b3.mono hb2.size); have hb4 := hb.trans (hb3.mono hb.size); have o3 := o2.kept' b3; have ho3 := ho.kept' hb3))
        · go_roundw
          case rel => exact ⟨k + 1, own, by omega, by omega, by go_num, ⟨by omega, _, HG.out⟩, ho3, hb4⟩
          case measure => simp [intOf]; omega
        · go_roundw
          case rel => exact ⟨k + 1, own ++ [((((a : Nat) : Int), ((a : Nat) : Int)))], by omega, by omega, by go_num, ⟨by rw [E1.out]; omega, Option.isSome_iff_exists.1 HQ.out⟩, by rw [E1.out]; exact own_mono o3 hb.size, hb4⟩
          case measure => simp [intOf]; omega
      · have E1 := Lib.hid (show (own ++ [((((b : Nat) : Int), ((a : Nat) : Int)))]).length = own.length + 1 by simp)
        cases hq : (readF m (own ++ [((((b : Nat) : Int), ((a : Nat) : Int)))])).isSome
        all_goals
          have HQ := Lib.hid hq
          clear hq
          go_wp2_with (first
            | (go_at_call 14; refine (HED.out _ (below_drewN nq)).mono ?_; rintro e w1 ⟨v1, n1, rfl, o1, b1⟩; rw [HTK.out] at o1; obtain ⟨A1, c1, rfl, rfl, -, p1⟩ := own_pairs o1; have hb1 : Below wr.heap.size wr w1 := (below_drewN nq).trans b1; have hz1' : wr.heap.size ≤ w1.heap.size := hb1.size)
            | (at_builtin; refine wpList_append_own_at _ rfl (.tmp 35) (.tmp 43) 22 rfl wr.heap.size 67 i0 _ 2 16 Try.underlying22 hi hz0 hz1 hz2 rfl (by omega) _ _ _ rfl (o1.alloc _) ⟨w1.heap.size, 0, none⟩ 1 1 [.int .i64 (b : Nat), .int .i64 (a : Nat)] rfl rfl (news_two (row_new rfl)) (by simp [Value.oneCell']) (by unfold maxLen; omega) (by omega) (by simp; omega) ?_; intro v2 w2 o2 hg2 _ _; have b2 := app1' o1 hz1' hg2; rw [← pv_snoc] at o2; obtain ⟨A2, c2, e2, -, -, p2⟩ := own_pairs o2; rw [E1.out] at e2; subst e2; have hb2 := hb1.trans b2; clear o1 p1 hg2 b2)
            | (go_at_call 16; refine (Graph_snoc m A2 c2 own b a _ (by omega) p2).mono ?_; rintro e w3 ⟨rfl, b3⟩; rw [HQ.out]; have hb3 := hb2.trans (b3.mono hb2.size); have hb4 := hb.trans (hb3.mono hb.size); have o3 := o2.kept' b3; have ho3 := ho.kept' hb3))
        · go_roundw
          case rel => exact ⟨k + 1, own, by omega, by omega, by go_num, ⟨by omega, _, HG.out⟩, ho3, hb4⟩
          case measure => simp [intOf]; omega
        · go_roundw
          case rel => exact ⟨k + 1, own ++ [((((b : Nat) : Int), ((a : Nat) : Int)))], by omega, by omega, by go_num, ⟨by rw [E1.out]; omega, Option.isSome_iff_exists.1 HQ.out⟩, by rw [E1.out]; exact own_mono o3 hb.size, hb4⟩
          case measure => simp [intOf]; omega
    · by_cases hlt3 : k < es.length
      · have hlt4 : ¬ k < 130 := fun h => hlt ⟨hlt3, h⟩
        clear hlt
        go_wp2
        go_ret
        exact ⟨_, own, gs, rfl, by omega, HG.out, ho, hb⟩
      · clear hlt
        go_wp2
        go_ret
        exact ⟨_, own, gs, rfl, by omega, HG.out, ho, hb⟩
end Go.Proofs.Ytpaeagkgmbhndaa
/- BagsHeads returns true: the walk. -/
namespace Go.Proofs.Ytpaeagkgmbhndaa
open Go.RowKit
set_option maxHeartbeats 1000000
set_option maxRecDepth 100000
/-- The heads in a set. -/
def headsIn (hs : List Int) (s k : Nat) : Int := sumN 16 (fun v => if sHas s v = true then (getn (cntT hs k) v : Int) else 0)
theorem headsIn_step {hs : List Int} {s k x : Nat} (hk : k < hs.length) (hx : geti hs k = x) (hx16 : x < 16) : headsIn hs s (k + 1) = headsIn hs s k + if sHas s x = true then 1 else 0 := by
  unfold headsIn
  have h : sumN 16 (fun v => if sHas s v = true then (getn (cntT hs (k + 1)) v : Int) else 0) = sumN 16 (fun v => (if sHas s v = true then (getn (cntT hs k) v : Int) else 0) + (if v = x then (if sHas s x = true then 1 else 0) else 0)) := by
    refine sumN_congr 16 fun v _ => ?_
    rw [cntT_succ hk, hx, getn_set (by rw [cntT_len]; simpa using hx16)]
    simp only [Int.toNat_natCast]
    by_cases e : x = v
    · subst e; rw [if_pos rfl, if_pos rfl]; by_cases e2 : sHas s x = true <;> simp [e2]
    · have e' : ¬ v = x := fun h => e h.symm
      rw [if_neg e, if_neg e', Int.add_zero]
  rw [h, sumN_add, sumN_one, if_pos hx16]
theorem ins_heads {m : Nat} {es : List (Int × Int)} {gs : List Nat} (h : readF m es = some gs) {hs : List Int} (hh : HeadsP es hs) {s : Nat} (hs0 : s < 65536) : ∀ k, k ≤ es.length → (insT es (natI (ms s)) k : Int) ≤ headsIn hs s k := by
  have hm : m ≤ 16 := by have := readF_ok h; omega
  intro k
  induction k with
  | zero =>
    intro _
    show ((0 : Nat) : Int) ≤ _
    unfold headsIn
    exact sumN_nn 16 (fun i _ => by split <;> omega)
  | succ k ih =>
    intro hk
    have ih := ih (by omega)
    have he := readF_edges h (k := k) (by omega)
    obtain ⟨x, hx⟩ : ∃ x : Nat, geti hs k = x := ⟨(geti hs k).toNat, by rcases hh.2 k (by omega) with e | e <;> omega⟩
    have hx16 : x < 16 := by rcases hh.2 k (by omega) with e | e <;> omega
    rw [headsIn_step (by rw [hh.1]; omega) hx hx16, insT]
    by_cases hin : pA es k ∈ natI (ms s) ∧ pB es k ∈ natI (ms s)
    · have : sHas s x = true := by
        rw [← ms_has hs0, ← hx]
        rcases hh.2 k (by omega) with e | e
        · rw [e]; exact hin.1
        · rw [e]; exact hin.2
      rw [if_pos hin, if_pos this]; omega
    · rw [if_neg hin]; split <;> omega
/-- No orientation is lower. -/
theorem heads_least {m : Nat} {es : List (Int × Int)} {gs : List Nat} (h : readF m es = some gs) {s p q : Nat} (d : Dens m gs s p q) {hs : List Int} (hh : HeadsP es hs) {G : Nat} (hG : ∀ v, v < 16 → getn (cntT hs es.length) v ≤ G) : (p + q - 1) / q ≤ G := by
  have h1 := ins_heads h hh d.lt es.length (Nat.le_refl _)
  have h2 : headsIn hs s es.length ≤ (G : Int) * pc 16 s := by
    rw [pc_sum, ← sumN_mul]
    unfold headsIn
    have mono : ∀ {f g : Nat → Int} n, (∀ i, i < n → f i ≤ g i) → sumN n f ≤ sumN n g := by
      intro f g n
      induction n with
      | zero => intro _; exact Int.le_refl _
      | succ n ih => intro h; rw [sumN_s, sumN_s]; have := ih (fun i hi => h i (by omega)); have := h n (by omega); omega
    refine mono 16 fun v hv => ?_
    have := hG v hv
    split
    · rw [Int.mul_one]; omega
    · rw [Int.mul_zero]; omega
  have h3 : insT es (natI (ms s)) es.length ≤ G * pc 16 s := by
    have : (insT es (natI (ms s)) es.length : Int) ≤ ((G * pc 16 s : Nat) : Int) := by rw [Int.natCast_mul]; omega
    omega
  obtain ⟨q0, _, _, h4⟩ := den_terms d.lt d.ne d.den
  rw [ends_ins h (xs := natI (ms s)) (fun v => ms_has d.lt)] at h4
  have hps := pc_pos d.lt d.ne
  have h5 : p ≤ G * q := by
    refine Nat.le_of_mul_le_mul_right (c := pc 16 s) ?_ hps
    rw [h4]
    calc insT es (natI (ms s)) es.length * q ≤ G * pc 16 s * q := Nat.mul_le_mul_right _ h3
      _ = G * q * pc 16 s := by ac_rfl
  refine Nat.le_of_lt_succ ((Nat.div_lt_iff_lt_mul q0).2 ?_)
  have : (G + 1) * q = G * q + q := Nat.succ_mul G q
  show p + q - 1 < (G + 1) * q
  omega
theorem iv_snoc (xs : List Int) (x : Int) : iv (xs ++ [x]) = iv xs ++ [.int .i64 x] := by simp [iv]
theorem geti_snoc (xs : List Int) (x : Int) (j : Nat) : geti (xs ++ [x]) j = if j < xs.length then geti xs j else if j = xs.length then x else 0 := by
  unfold geti
  rw [List.getD_eq_getElem?_getD, List.getD_eq_getElem?_getD, List.getElem?_append]
  split
  · rfl
  · split
    · rename_i h; subst h; simp
    · rw [List.getElem?_eq_none (by simp; omega)]; rfl
theorem BagsHeads_any (n : Int) (A : Option Addr) (c : Nat) (es : List (Int × Int)) (B : Option Addr) (d : Nat) (xs : List Int) (w : World) (hx : es.length ≤ c) (hc : c ≤ maxLen) (ha : PairsAt w A es) (hx2 : xs.length ≤ d) (hd : d ≤ maxLen) (hb : IntsAt w B xs) :
    Calls Try.prog 12 #[.int .i64 n, .slice A es.length c, .slice B xs.length d] w fun e w' => e = .returned (.bool true) ∧ Below w.heap.size w w' := by
  obtain ⟨i0, hi, hz0, hz1, hz2⟩ := info_parts info3
  have hml := modI_lt n (show 0 < 10 by omega)
  have HM := Lib.hid (mod_any n 10 w (by omega) (by omega))
  generalize modI n 10 = m0 at *
  obtain ⟨m, hmm⟩ : ∃ m : Nat, m = 1 + m0 := ⟨_, rfl⟩
  have HMM := Lib.hid (show (1 + (m0 : Int)) = (m : Int) by omega)
  have hm1 : 1 ≤ m := by omega
  have hm16 : m ≤ 16 := by omega
  clear hmm
  have HT := Lib.hid (tame_any m A c es w hx hc ha hm1 hm16)
  have hd2 : xs.length ≤ 9223372036854775807 := by unfold maxLen at hd; omega
  clear hx hc ha hx2 hd
  go_enter Try.func12, Try.ntmps12
  go_wp2_with (first
    | (go_at_call 36; refine HM.out.mono ?_; rintro e w' ⟨rfl, rfl⟩)
    | (go_at_call 37; rw [HMM.out]; refine HT.out.mono ?_; rintro e w1 ⟨v1, own, gs, rfl, hol, hgs, o1, b1⟩; obtain ⟨A1, c1, rfl, -, -, p1⟩ := own_pairs o1; have HG := Lib.hid hgs; clear o1 hgs)
    | (go_at_call 27; refine (Orient_some m A1 c1 own gs _ (by omega) p1 HG.out).mono ?_; rintro e w2 ⟨v2, v3, hs, ts, s, p, q, rfl, hO, o2, o3, b2⟩; obtain ⟨A2, c2, e2, -, i2⟩ := own_ints o2; obtain ⟨A3, c3, e3, -, i3⟩ := own_ints o3; have hnl := natI_len hs; have hnt := natI_len ts; rw [← hnl] at e2; subst e2 e3; have p2 := p1.below b2; have b3 := b1.trans (b2.mono b1.size); have HO := Lib.hid hO; obtain ⟨G, hg1, hg2, hg3, hg4, hg5⟩ := height_nat HG.out hO.heads; have HG1 := Lib.hid hg1; have HG3 := Lib.hid hg3; have HG4 := Lib.hid hg4; have HG5 := Lib.hid hg5; clear p1 b1 b2 o2 o3 i3 hO hg1 hg2 hg3 hg4 hg5 hnl hnt)
    | (go_at_call 31; refine (Height_yes (c := c1) (d := c2) (by omega) p2 i2 HG.out HO.out.heads).mono ?_; rintro e w3 ⟨rfl, b4⟩; rw [HG1.out]; have p3 := p2.below b4; have b5 := b3.trans (b4.mono b3.size); clear p2 i2 b3 b4))
  go_loopw [13, 14] (fun o i wr => ∃ (k : Nat) (hd : List Int), k ≤ own.length ∧ i = .int .i64 k ∧ hd.length = k ∧ (∀ j, j < k → geti hd j = pA own j ∨ geti hd j = pB own j) ∧ wr.ownsRow w3.heap.size 3 1 o k (iv hd) ∧ Below w3.heap.size w3 wr) (fun _ i _ => own.length - (intOf i).toNat)
  case atStart => exact ⟨0, [], by omega, rfl, rfl, fun j hj => absurd hj (by omega), ⟨rfl, .inl ⟨rfl, rfl⟩⟩, Below.refl _ _⟩
  case round =>
    obtain ⟨k, hd', hk, rfl, hl, hall, ho, hbr⟩ := hrel
    obtain ⟨A4, c4, e4, -, -, i4⟩ := own_intsI ho
    subst e4
    have HL := Lib.hid hl
    have HA := Lib.hid hall
    have hzr := hbr.size
    have hlk : hd'.length ≤ 130 := by omega
    clear hl hall
    by_cases hlt : k < own.length
    · obtain ⟨B0, o, rfl, hB, hcc⟩ := (p3.below hbr) (by omega)
      obtain ⟨x0, y0⟩ := hcc k hlt
      clear hcc i4
      generalize hxa : pA own k = x at *
      generalize hyb : pB own k = y at *
      have XA := Lib.hid hxa
      have YB := Lib.hid hyb
      clear hxa hyb
      cases q1 : decide (k < xs.length)
      · go_wp2_with (at_builtin; refine wpList_append_own_at _ rfl (.tmp 66) (.tmp 68) 24 rfl w3.heap.size 3 i0 (.int .i64 0) 1 8 Try.underlying24 hi hz0 hz1 hz2 rfl (by decide) _ _ _ rfl (ho.alloc _) ⟨wr.heap.size, 0, none⟩ 1 1 [.int .i64 x] rfl rfl (cell_one_new _ _ _) (by simp [Value.oneCell']) (by unfold maxLen; omega) (by omega) (by simp; omega) ?_; intro v9 w9 hn9 hg9 _ _; have hb9 := (app1 ho hzr hg9).1)
        go_roundw
        case rel => exact ⟨k + 1, hd' ++ [x], by omega, by go_num, by simp [HL.out], fun j hj => by
          rw [geti_snoc]
          by_cases e : j < hd'.length
          · rw [if_pos e]; exact HA.out j (by rw [← HL.out]; exact e)
          · rw [if_neg e, if_pos (by have := HL.out; omega), show j = k by have := HL.out; omega]
            exact .inl XA.out.symm, by rw [iv_snoc]; exact hn9, hbr.trans hb9⟩
        case measure => simp [intOf]; omega
      · have hkx := of_decide_eq_true q1
        obtain ⟨B5, o5, rfl, hB5, hc5⟩ := (hb.below (b5.trans (hbr.mono b5.size))) (by omega)
        have z0 := hc5 k hkx
        clear hc5
        have hm2 := modI_lt (geti xs k) (show 0 < 2 by omega)
        have HM2 := Lib.hid (mod_any (geti xs k) 2 wr (by omega) (by omega))
        generalize geti xs k = z at *
        generalize modI z 2 = r at *
        cases q2 : ((r : Int) == 1)
        · go_wp2_with (first
            | (go_at_call 36; refine HM2.out.mono ?_; rintro e w' ⟨rfl, rfl⟩)
            | (at_builtin; refine wpList_append_own_at _ rfl (.tmp 66) (.tmp 68) 24 rfl w3.heap.size 3 i0 (.int .i64 0) 1 8 Try.underlying24 hi hz0 hz1 hz2 rfl (by decide) _ _ _ rfl (ho.alloc _) ⟨wr.heap.size, 0, none⟩ 1 1 [.int .i64 x] rfl rfl (cell_one_new _ _ _) (by simp [Value.oneCell']) (by unfold maxLen; omega) (by omega) (by simp; omega) ?_; intro v9 w9 hn9 hg9 _ _; have hb9 := (app1 ho hzr hg9).1))
          go_roundw
          case rel => exact ⟨k + 1, hd' ++ [x], by omega, by go_num, by simp [HL.out], fun j hj => by
            rw [geti_snoc]
            by_cases e : j < hd'.length
            · rw [if_pos e]; exact HA.out j (by rw [← HL.out]; exact e)
            · rw [if_neg e, if_pos (by have := HL.out; omega), show j = k by have := HL.out; omega]
              exact .inl XA.out.symm, by rw [iv_snoc]; exact hn9, hbr.trans hb9⟩
          case measure => simp [intOf]; omega
        · go_wp2_with (first
            | (go_at_call 36; refine HM2.out.mono ?_; rintro e w' ⟨rfl, rfl⟩)
            | (at_builtin; refine wpList_append_own_at _ rfl (.tmp 66) (.tmp 68) 24 rfl w3.heap.size 3 i0 (.int .i64 0) 1 8 Try.underlying24 hi hz0 hz1 hz2 rfl (by decide) _ _ _ rfl (ho.alloc _) ⟨wr.heap.size, 0, none⟩ 1 1 [.int .i64 y] rfl rfl (cell_one_new _ _ _) (by simp [Value.oneCell']) (by unfold maxLen; omega) (by omega) (by simp; omega) ?_; intro v9 w9 hn9 hg9 _ _; have hb9 := (app1 ho hzr hg9).1))
          go_roundw
          case rel => exact ⟨k + 1, hd' ++ [y], by omega, by go_num, by simp [HL.out], fun j hj => by
            rw [geti_snoc]
            by_cases e : j < hd'.length
            · rw [if_pos e]; exact HA.out j (by rw [← HL.out]; exact e)
            · rw [if_neg e, if_pos (by have := HL.out; omega), show j = k by have := HL.out; omega]
              exact .inr YB.out.symm, by rw [iv_snoc]; exact hn9, hbr.trans hb9⟩
          case measure => simp [intOf]; omega
    · obtain rfl : k = own.length := by omega
      have HHD := Lib.hid (show HeadsP own hd' from ⟨HL.out, HA.out⟩)
      obtain ⟨G2, hg1, hg2, -, -, -⟩ := height_nat HG.out HHD.out
      have HG6 := Lib.hid hg1
      have hle : G ≤ G2 := by
        obtain ⟨v, hv, e⟩ := HG3.out
        have h1 := HO.out.low v hv
        have h2 := heads_least HG.out HO.out.dens HHD.out hg2
        omega
      have hpos : 0 < G ↔ 0 < ts.length := by
        by_cases hp : p = 0
        · obtain ⟨e1, -, e3⟩ := HO.out.zero hp
          have := HG5.out e1
          subst e3
          simp [this]
        · obtain ⟨e1, e2⟩ := HO.out.pos (by omega)
          have h1 := HG4.out e2
          have h2 := List.length_pos_iff.2 (ms_ne HO.out.dens.lt HO.out.dens.ne)
          rw [← e1] at h2
          exact ⟨fun _ => h2, fun _ => h1⟩
      have HLE := Lib.hid hle
      have HPP := Lib.hid hpos
      clear hg1 hg2 hpos hle
      go_wp2_with (first
        | (go_at_call 31; refine (Height_yes (c := c1) (d := c4) (by omega) (p3.below hbr) i4 HG.out HHD.out).mono ?_; rintro e w4 ⟨rfl, b6⟩; rw [HG6.out]; have b6a := b5.trans (hbr.mono b5.size); have b7 := b6a.trans (b6.mono b6a.size))
        | (go_at_call 18; refine (awake_any _).mono ?_; rintro e w5 ⟨rfl, b8⟩))
      · go_ret
        exact ⟨rfl, b7.trans (b8.mono b7.size)⟩
end Go.Proofs.Ytpaeagkgmbhndaa
