/- The reference's own order of removing. -/
import Derived.Test.YtmfpegadcecknaaBA
import Derived.Test.YtmfpegadcecknaaP
namespace Go.Proofs.Ytmfpegadcecknaa
open Go.RowKit
set_option maxHeartbeats 1000000
set_option maxRecDepth 100000
theorem upTo_low {S m : Nat} (h : ∀ v, sHas S v = true → v < m) : ∀ d, upTo S (m + d) = upTo S m
  | 0 => rfl
  | d + 1 => by
    rw [← Nat.add_assoc, upTo_no (by cases e : sHas S (m + d); · rfl
                                     · have := h _ e; omega), upTo_low h d]
theorem upTo_ms {S m : Nat} (hm : m ≤ 16) (h : ∀ v, sHas S v = true → v < m) : upTo S m = ms S := by
  have := upTo_low h (16 - m)
  rw [show m + (16 - m) = 16 by omega] at this
  exact this.symm
/-- The loneliest of the members below j. -/
structure InI (gs : List Nat) (S j : Nat) (b : Int) (f : Nat) : Prop where
  no : upTo S j = [] → b = -1 ∧ f = 0
  yes : upTo S j ≠ [] → b = loneB gs S (upTo S j) ∧ f = loneF gs S (upTo S j)
theorem InI.start (gs : List Nat) (S : Nat) : InI gs S 0 (-1) 0 := ⟨fun _ => ⟨rfl, rfl⟩, fun h => absurd rfl h⟩
theorem InI.skip {gs : List Nat} {S j : Nat} {b : Int} {f : Nat} (h : InI gs S j b f) (hs : sHas S j = false) : InI gs S (j + 1) b f := by
  have e := upTo_no hs
  exact ⟨fun h0 => h.no (by rw [← e]; exact h0), fun h0 => by rw [e] at h0 ⊢; exact h.yes h0⟩
theorem InI.step {gs : List Nat} {S j : Nat} {b : Int} {f : Nat} (h : InI gs S j b f) (hs : sHas S j = true) (hn : nb gs S j < 16) :
    ((b < 0 ∨ nb gs S j < f) → InI gs S (j + 1) j (nb gs S j)) ∧ (¬ (b < 0 ∨ nb gs S j < f) → InI gs S (j + 1) b f) := by
  have e := upTo_yes hs
  have hne : upTo S (j + 1) ≠ [] := by rw [e]; simp
  by_cases h0 : upTo S j = []
  · obtain ⟨rfl, rfl⟩ := h.no h0
    have hl := lone_yes (gs := gs) (s := S) (xs := []) (v := j) (by show nb gs S j < 16; exact hn)
    refine ⟨fun _ => ⟨fun hh => absurd hh hne, fun _ => ?_⟩, fun hh => absurd (.inl (by omega)) hh⟩
    rw [e, h0]; exact ⟨by rw [hl.1], hl.2.symm⟩
  · obtain ⟨hb, hf⟩ := h.yes h0
    refine ⟨fun hh => ⟨fun hh => absurd hh hne, fun _ => ?_⟩, fun hh => ⟨fun hh => absurd hh hne, fun _ => ?_⟩⟩
    · have h1 : nb gs S j < loneF gs S (upTo S j) := by rcases hh with hh | hh <;> omega
      rw [e]; obtain ⟨l1, l2⟩ := lone_yes h1; exact ⟨by rw [l1], l2.symm⟩
    · have h1 : ¬ nb gs S j < loneF gs S (upTo S j) := fun h2 => hh (.inr (by omega))
      rw [e]; obtain ⟨l1, l2⟩ := lone_no h1; exact ⟨by rw [l1]; exact hb, by rw [l2]; exact hf⟩
/-- The first t steps of removing. -/
structure PeelI (gs : List Nat) (m S : Nat) (L : List (Nat × Nat)) (M : Nat) : Prop where
  eq : peelL gs m (sAll m) = L ++ peelL gs (m - L.length) S
  le : L.length ≤ m
  lt : S < 65536
  cnt : pc 16 S = m - L.length
  low : ∀ v, sHas S v = true → v < m
  m0 : L.length = 0 → M = 0
  m1 : 0 < L.length → (M : Int) = maxTo (natI (lftF m gs)) L.length
theorem PeelI.start (gs : List Nat) {m : Nat} (hm : m ≤ 16) : PeelI gs m (sAll m) [] 0 :=
  ⟨rfl, Nat.zero_le _, all_lt hm, pc_all hm, fun u hu => by unfold sHas at hu; rw [all_bit] at hu; simpa using hu, fun _ => rfl, fun h => absurd h (by simp)⟩
theorem PeelI.step {gs : List Nat} {m S : Nat} {L : List (Nat × Nat)} {M : Nat} (h : PeelI gs m S L M) (hI : Irr gs) (hlt : L.length < m) :
    S ≠ 0 ∧ loneB gs S (ms S) < 16 ∧ loneB gs S (ms S) < m ∧ loneF gs S (ms S) < 16 ∧ PeelI gs m (sWithout S (loneB gs S (ms S))) (L ++ [(loneB gs S (ms S), loneF gs S (ms S))]) (if M < loneF gs S (ms S) then loneF gs S (ms S) else M) := by
  have h0 : S ≠ 0 := fun e => by
    have h1 := h.cnt
    subst e
    have h2 : pc 16 0 = 0 := by decide
    omega
  obtain ⟨hb16, hbS⟩ := lone_mem hI h.lt h0
  obtain ⟨_, hs2, _⟩ := lone_spec gs S (ms S) (fun v hv => nb_lt hI (mem_ms.1 hv).1)
  have hf := (hs2 (ms_ne h.lt h0)).2
  have hfl : loneF gs S (ms S) < 16 := by rw [hf]; exact nb_lt hI hb16
  have heq : peelL gs (m - L.length) S = (loneB gs S (ms S), loneF gs S (ms S)) :: peelL gs (m - (L.length + 1)) (sWithout S (loneB gs S (ms S))) := by
    rw [show m - L.length = (m - (L.length + 1)) + 1 by omega, peelL]
  have hpw := pc_without h.lt hb16 hbS
  have hlow := h.low _ hbS
  have hle := h.cnt
  have hlf : lftF m gs = L.map (·.2) ++ loneF gs S (ms S) :: (peelL gs (m - (L.length + 1)) (sWithout S (loneB gs S (ms S)))).map (·.2) := by
    unfold lftF; rw [h.eq, heq]; simp
  have hg : getn (lftF m gs) L.length = loneF gs S (ms S) := by
    rw [hlf]; unfold getn; rw [List.getD_eq_getElem?_getD, List.getElem?_append_right (by simp)]; simp
  generalize loneB gs S (ms S) = b at *
  generalize loneF gs S (ms S) = f at *
  refine ⟨h0, hb16, hlow, hfl, ⟨by rw [h.eq, heq]; simp, by simp; omega, without_lt h.lt, by simp; omega, fun v hv => ?_, fun hh => by simp at hh, fun _ => ?_⟩⟩
  · have := without_bit S b v h.lt hb16
    unfold sHas at hv; rw [this] at hv; simp at hv
    exact h.low v hv.1
  · have e : (L ++ [(b, f)]).length = L.length + 1 := by simp
    rw [e, maxTo, geti_natI, hg]
    rcases Nat.eq_zero_or_pos L.length with h1 | h1
    · have hM := h.m0 h1
      rw [h1] at hg ⊢
      have e0 : maxTo (natI (lftF m gs)) 0 = (f : Int) := by show geti _ 0 = _; rw [geti_natI, hg]
      rw [e0]
      split <;> split <;> omega
    · rw [← h.m1 h1]
      split <;> split <;> omega
theorem PeelI.done {gs : List Nat} {m S : Nat} {L : List (Nat × Nat)} {M : Nat} (h : PeelI gs m S L M) (hm : 1 ≤ m) (hl : ¬ L.length < m) : L.length = m ∧ L.map (·.1) = ordF m gs ∧ (M : Int) = maxTo (natI (lftF m gs)) m := by
  have h1 := h.le
  have e : L.length = m := by omega
  have h2 := h.eq
  rw [e, Nat.sub_self, peelL, List.append_nil] at h2
  refine ⟨e, by unfold ordF; rw [h2], ?_⟩
  have := h.m1 (by omega)
  rw [e] at this; exact this
theorem news_one {W : World} {g : Nat} {t : TypeId} {x : Value} (h : Row W g t [x]) : ∀ j u, [x][j]? = some u → W.cell? ((⟨g, 0, none⟩ : Addr).add j) = some u := by
  intro j u hj
  rw [WideShapes.add_plain, Nat.zero_add, h.cell, hj]
theorem RefPeel_any (m : Nat) (A : Option Addr) (c : Nat) (es : List (Int × Int)) (gs : List Nat) (w : World) (hx : es.length ≤ 1000000) (ha : PairsAt w A es) (h : readF m es = some gs) :
    Calls Try.prog 34 #[.int .i64 m, .slice A es.length c] w fun e w' => ∃ v, e = .returned (.tuple #[v, .int .i64 (maxTo (natI (lftF m gs)) m)]) ∧ w'.ownsRow w.heap.size 3 1 v m (intv (ordF m gs)) ∧ Below w.heap.size w w' := by
  obtain ⟨i0, hi, hz0, hz1, hz2⟩ := info_parts info3
  obtain ⟨j0, ji, jz0, jz1, jz2⟩ := info_parts info4
  obtain ⟨hm1, hm2, hg, hI⟩ := readF_ok h
  have hm : m ≤ 16 := by omega
  have hm1' : 1 ≤ m := by omega
  have HH := Lib.hid h
  have HII := Lib.hid hI
  clear h hm1 hm2 hg hI
  go_enter Try.func34, Try.ntmps34
  go_wp2_with (first
    | (at_make; refine wpList_make_full _ rfl _ _ 97 rfl w.heap.size 4 j0 (.bool false) 1 Try.underlying97 ji jz0 jz1 .i64 .i64 _ _ m rfl rfl rfl rfl (by rw [jz2]; omega) (by unfold maxLen; omega) (Nat.le_refl _) ?_; intro w5 o5 hg5; have r5 := own_made4 o5; have hb5 : Below w.heap.size w w5 := (Below.refl _ _).grown hg5 (Nat.le_refl _) (by simp); clear o5 hg5))
  go_loopw [7] (fun j W => ∃ t : Nat, t ≤ m ∧ j = .int .i64 t ∧ Row W w.heap.size 4 (bcells m fun u => decide (u < t)) ∧ Below w.heap.size w W) (fun j _ => m - (intOf j).toNat)
  case atStart => exact ⟨0, by omega, rfl, by simpa using r5, hb5⟩
  case round =>
    clear r5 hb5
    obtain ⟨t, ht, rfl, r6, hb6⟩ := hrel
    by_cases htm : t < m
    · have c6 : wr.cell? ⟨w.heap.size, t, none⟩ = some (.bool (decide (t < t))) := by rw [r6.cell, bcells_at _ htm]
      have f6 := r6.free t
      go_wp2
      go_roundw
      case rel =>
        refine ⟨t + 1, by omega, by go_num, ?_, hb6.setCell (by dsimp only; omega) _⟩
        have := r6.set t (.bool true)
        rw [bcells_set] at this
        rwa [bcells_congr (g := fun u => decide (u < t + 1)) (fun i _ => by by_cases e : i = t <;> simp [e]; omega)] at this
      case measure => simp [intOf]; omega
    · obtain rfl : t = m := by omega
      have r7 : Row wr w.heap.size 4 (bcells t (sHas (sAll t))) := by
        rwa [bcells_congr (g := sHas (sAll t)) (fun i hi => by unfold sHas; rw [all_bit])] at r6
      clear r6
      go_wp2
      go_loopg [8, 9] t (fun n o q W => ∃ (S : Nat) (L : List (Nat × Nat)) (M : Nat), n = t - L.length ∧ q = .int .i64 M ∧ PeelI gs t S L M ∧ W.ownsRow (w.heap.size + 1) 3 1 o L.length (intv (L.map (·.1))) ∧ Row W w.heap.size 4 (bcells t (sHas S)) ∧ Below w.heap.size w W)
      case atStart => exact ⟨sAll t, [], 0, rfl, rfl, PeelI.start gs hm, ⟨rfl, .inl ⟨rfl, rfl⟩⟩, r7, hb6⟩
      case round =>
        clear r7 hb6
        obtain ⟨S, L, M, hn, rfl, hp, ho, r7, hb7⟩ := hrel
        have HN := Lib.hid hn
        have HP := Lib.hid hp
        have hLl := hp.le
        obtain ⟨A', c', e', hl', hi'⟩ := own_ints ho
        rw [List.length_map] at e'
        subst e'
        clear hn hp hl' hi'
        by_cases hlt : L.length < t
        · obtain ⟨g1, g2, g3, g4, g5⟩ := HP.out.step HII.out hlt
          have G5 := Lib.hid g5
          have HUP := Lib.hid (upTo_ms hm HP.out.low)
          have HMS := Lib.hid (ms_ne HP.out.lt g1)
          clear g5
          obtain ⟨wo, rfl⟩ : ∃ wo : World, wo = wr := ⟨_, rfl⟩
          go_wp2
          go_loopw [10, 11, 12] (fun b f j W => ∃ (u : Nat) (bi : Int) (fi : Nat), u ≤ t ∧ j = .int .i64 u ∧ b = .int .i64 bi ∧ f = .int .i64 fi ∧ InI gs S u bi fi ∧ (∃ n, W = wo.drewN n)) (fun _ _ j _ => t - (intOf j).toNat)
          case atStart => exact ⟨0, -1, 0, by omega, rfl, rfl, rfl, InI.start gs S, 0, rfl⟩
          case round =>
            obtain ⟨u, bi, fi, hu, rfl, rfl, rfl, hin, nq, rfl⟩ := hrel
            have HIN := Lib.hid hin
            clear hin
            by_cases hut : u < t
            · have c7 : (wo.drewN nq).cell? ⟨w.heap.size, u, none⟩ = some (.bool (sHas S u)) := by rw [(r7.drewN nq).cell, bcells_at _ hut]
              have pa := (ha.below hb7).below (below_drewN (w := wo) nq)
              have hnb16 : nb gs S u < 16 := nb_lt HII.out (by omega)
              cases hs : sHas S u
              · rw [hs] at c7
                have HS := Lib.hid hs
                clear hs
                go_wp2
                go_roundw
                case rel => exact ⟨u + 1, bi, fi, by omega, by go_num, rfl, rfl, HIN.out.skip HS.out, nq, rfl⟩
                case measure => simp [intOf]; omega
              · rw [hs] at c7
                obtain ⟨s1, s2⟩ := HIN.out.step hs hnb16
                have S1 := Lib.hid s1
                have S2 := Lib.hid s2
                have HNB := Lib.hid (fun W pa r => neighbors_any t A c es gs w.heap.size S u W hx pa HH.out r)
                have r8 := r7.drewN nq
                clear s1 s2 hs
                cases q1 : decide (bi < 0) <;> cases q2 : decide (nb gs S u < fi)
                all_goals
                  go_wp2_with (go_at_call 55; refine (HNB.out _ pa r8).mono ?_; rintro e w' ⟨rfl, rfl⟩)
                  go_roundw
                  case measure => simp [intOf]; omega
                  case rel =>
                    first
                      | exact ⟨u + 1, bi, fi, by omega, by go_num, rfl, rfl, S2.out (by have := of_decide_eq_false q1; have := of_decide_eq_false q2; omega), nq, rfl⟩
                      | exact ⟨u + 1, u, nb gs S u, by omega, by go_num, rfl, rfl, S1.out (by first | exact .inl (of_decide_eq_true q1) | exact .inr (of_decide_eq_true q2)), nq, rfl⟩
            · obtain rfl : u = t := by omega
              obtain ⟨hbi, hfi⟩ := HIN.out.yes (by rw [HUP.out]; exact HMS.out)
              rw [HUP.out] at hbi hfi
              subst hbi
              subst hfi
              generalize loneB gs S (ms S) = b at *
              generalize loneF gs S (ms S) = f at *
              have c7 : (wo.drewN nq).cell? ⟨w.heap.size, b, none⟩ = some (.bool (sHas S b)) := by rw [(r7.drewN nq).cell, bcells_at _ g3]
              have f7 := (r7.drewN nq).free b
              have r8 := (r7.drewN nq).set b (.bool false)
              have o8 : ((wo.drewN nq).setCell ⟨w.heap.size, b, none⟩ (.bool false)).ownsRow (w.heap.size + 1) 3 1 (.slice A' L.length c') L.length (intv (L.map (·.1))) := own_set (w := wo.drewN nq) ho (by dsimp only; omega) (.bool false)
              have hlt7 := r7.lt
              have hb8 := (hb7.trans (below_drewN nq)).setCell (p := ⟨w.heap.size, b, none⟩) (Nat.le_refl _) (.bool false)
              clear r7 ho hb7
              by_cases hMf : M < f
              · go_wp2_with (at_builtin; refine wpList_append_own_at _ rfl (.tmp 54) (.tmp 56) 24 rfl (w.heap.size + 1) 3 i0 (.int .i64 0) 1 8 Try.underlying24 hi hz0 hz1 hz2 rfl (by decide) _ _ _ rfl (o8.alloc _) ⟨wo.heap.size, 0, none⟩ 1 1 [.int .i64 b] rfl rfl (news_one (row_new (by simp))) (by simp [Value.oneCell']) (by unfold maxLen; omega) (by omega) (by simp; omega) ?_; intro v9 w9 hn9 hg9 _ hat9)
                obtain ⟨hb9, hrow9⟩ := app1 o8 (by simp; omega) hg9
                have r9 := hrow9 _ _ _ (by decide) r8
                rw [bcells_set, bcells_congr (g := sHas (sWithout S b)) (fun i _ => by
                  have := without_bit S b i HP.out.lt g2
                  unfold sHas
                  rw [this]
                  by_cases e : i = b
                  · subst e; simp
                  · simp [e, Ne.symm e])] at r9
                have e1 : (L ++ [(b, f)]).length = L.length + 1 := by simp
                have e2 : intv ((L ++ [(b, f)]).map (·.1)) = intv (L.map (·.1)) ++ [.int .i64 b] := by simp [intv]
                have E1 := Lib.hid e1
                have E2 := Lib.hid e2
                clear e1 e2
                go_roundg (u - (L.length + 1))
                case rel => exact ⟨sWithout S b, L ++ [(b, f)], f, by rw [E1.out], rfl, by have := G5.out; rwa [if_pos hMf] at this, by rw [E1.out, E2.out]; exact hn9, r9, hb8.trans (hb9.mono (by omega))⟩
                case measure => rw [HN.out]; omega
              · go_wp2_with (at_builtin; refine wpList_append_own_at _ rfl (.tmp 54) (.tmp 56) 24 rfl (w.heap.size + 1) 3 i0 (.int .i64 0) 1 8 Try.underlying24 hi hz0 hz1 hz2 rfl (by decide) _ _ _ rfl (o8.alloc _) ⟨wo.heap.size, 0, none⟩ 1 1 [.int .i64 b] rfl rfl (news_one (row_new (by simp))) (by simp [Value.oneCell']) (by unfold maxLen; omega) (by omega) (by simp; omega) ?_; intro v9 w9 hn9 hg9 _ hat9)
                obtain ⟨hb9, hrow9⟩ := app1 o8 (by simp; omega) hg9
                have r9 := hrow9 _ _ _ (by decide) r8
                rw [bcells_set, bcells_congr (g := sHas (sWithout S b)) (fun i _ => by
                  have := without_bit S b i HP.out.lt g2
                  unfold sHas
                  rw [this]
                  by_cases e : i = b
                  · subst e; simp
                  · simp [e, Ne.symm e])] at r9
                have e1 : (L ++ [(b, f)]).length = L.length + 1 := by simp
                have e2 : intv ((L ++ [(b, f)]).map (·.1)) = intv (L.map (·.1)) ++ [.int .i64 b] := by simp [intv]
                have E1 := Lib.hid e1
                have E2 := Lib.hid e2
                clear e1 e2
                go_roundg (u - (L.length + 1))
                case rel => exact ⟨sWithout S b, L ++ [(b, f)], M, by rw [E1.out], rfl, by have := G5.out; rwa [if_neg hMf] at this, by rw [E1.out, E2.out]; exact hn9, r9, hb8.trans (hb9.mono (by omega))⟩
                case measure => rw [HN.out]; omega
        · obtain ⟨d1, d2, d3⟩ := HP.out.done hm1' hlt
          have D2 := Lib.hid d2
          have D3 := Lib.hid d3
          have D1 := Lib.hid d1
          clear d1 d2 d3
          go_wp2
          go_ret2
          have o9 := own_mono ho (b' := w.heap.size) (by omega)
          rw [D2.out, D1.out] at o9
          refine ⟨_, ?_, o9, hb7⟩
          rw [← D3.out, D1.out]; rfl
end Go.Proofs.Ytmfpegadcecknaa
