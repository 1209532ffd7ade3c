/- SumsAlways: the walk. -/
import Derived.Test.YtokjdadgdfmffaaND
namespace Go.Proofs.Ytokjdadgdfmffaa
open Go.RowKit Ols
set_option maxHeartbeats 2000000
set_option maxRecDepth 100000
theorem RowsIn.at {w : World} {A : Option Addr} {L : List (List Int)} (h : RowsIn w A L) : RowsAt w A L ∧ ∀ i, i < L.length → (getl L i).length ≤ 9223372036854775807 := by
  constructor
  · intro hp
    obtain ⟨b, o, e, hb, hc⟩ := h hp
    refine ⟨b, o, e, hb, fun i hi => ?_⟩
    obtain ⟨B, c, h1, _, _, h2⟩ := hc i hi
    exact ⟨B, c, h1, h2⟩
  · intro i hi
    obtain ⟨b, o, e, hb, hc⟩ := h (by omega)
    obtain ⟨B, c, h1, h3, h4, h2⟩ := hc i hi
    unfold maxLen at h4
    omega
theorem els_rl {m n : Nat} {L : List (List Int)} (h : Els m n L) (hl : L.length ≤ 60) : rlV m n L = true := decide_eq_true ⟨hl, fun i hi => (h i hi).1⟩
theorem SumsAlways_any (A0 : Option Addr) (c0 : Nat) (gs : List Int) (A1 : Option Addr) (c1 : Nat) (L : List (List Int)) (w : World)
    (hx0 : gs.length ≤ c0) (hc0 : c0 ≤ maxLen) (ha0 : IntsAt w A0 gs) (hx1 : L.length ≤ c1) (hc1 : c1 ≤ maxLen) (ha1 : RowsIn w A1 L) :
    Calls Try.prog 7 #[.slice A0 gs.length c0, .slice A1 L.length c1] w fun e w' => e = .returned (.bool true) ∧ Below w.heap.size w w' := by
  have hal : gs.length ≤ 9223372036854775807 := by unfold maxLen at hc0; omega
  have hbl : L.length ≤ 9223372036854775807 := by unfold maxLen at hc1; omega
  have HGR := Lib.hid (group_any A0 c0 gs w hal ha0)
  have HB := Lib.hid ha1
  have HAW := Lib.hid awake_any
  obtain ⟨k0, ki, kz0, kz1, kz2⟩ := info_parts info22
  clear ha0 ha1 hx0 hc0 hx1 hc1
  go_enter Try.func7, Try.ntmps7
  go_wp2_with (go_at_call 39; fail)
  refine HGR.out.mono ?_
  rintro e w1 ⟨v1, g, m, n, rfl, hG, o1, b1⟩
  obtain ⟨Ag, cg, rfl, -, -, ig⟩ := own_cap o1
  clear HGR o1
  have HEL := Lib.hid (elements_any Ag A1 cg c1 g L 60 m n w1 hG ⟨by omega, by omega⟩ hbl (HB.out.below b1).at.2 ig (HB.out.below b1).at.1)
  have HIG := Lib.hid ig
  have HG := Lib.hid hG
  clear hG ig HB
  go_wp2_with (go_at_call 40; fail)
  refine HEL.out.mono ?_
  rintro e w2 ⟨A3, c3, cs, L', rfl, hL1, hE, o3, r3, b3⟩
  have hl60 : L'.length ≤ 60 := by rw [hL1]; simp; omega
  have hv := els_rl hE hl60
  have HR := Lib.hid (rows_at r3 o3)
  have HIG2 := Lib.hid (HIG.out.below b3)
  replace b1 := b1.trans (b3.mono b1.size)
  have hrl2 : ∀ i, i < L'.length → (getl L' i).length ≤ 1000000 := fun i hi => by have := (hE i hi).2; omega
  have HBO := Lib.hid (fun w (h : IntsAt w Ag g) => Bound_yes Ag cg m n g w HG.out h)
  have hmn : 1 ≤ m ∧ m ≤ 24 ∧ 1 ≤ n ∧ n ≤ 24 := HG.out.1
  clear HEL HIG hL1 o3 r3 b3
  go_wp2_with (go_at_call 25; fail)
  refine (HBO.out _ HIG2.out).mono ?_
  rintro e w3 ⟨rfl, b3⟩
  replace HR := Lib.hid (HR.out.below b3)
  replace HIG2 := Lib.hid (HIG2.out.below b3)
  replace b1 := b1.trans (b3.mono b1.size)
  clear b3 HBO
  by_cases hz : zrL m n L' 0 0 = []
  · have HZ := Lib.hid (Zero_none Ag A3 cg c3 m n g L' w3 HG.out hrl2 HIG2.out HR.out hv hz)
    have hs := always_none HG.out hv hz
    have g1 : decide ((L'.length : Int) < (m : Int) + n - 1) = true := decide_eq_true (by omega)
    clear hrl2 hE hv hz
    go_wp2_with (go_at_call 16; fail)
    refine HZ.out.mono ?_
    rintro e w4 ⟨rfl, b4⟩
    replace b1 := b1.trans (b4.mono b1.size)
    clear b4
    go_wp2_with (go_at_call 20; with_reducible refine (HAW.out _).mono ?_; rintro e w5 ⟨rfl, b5⟩; replace b1 := b1.trans (b5.mono b1.size))
    go_ret
    exact ⟨rfl, b1⟩
  · have HZ := Lib.hid (Zero_some Ag A3 cg c3 m n g L' w3 HG.out hrl2 HIG2.out HR.out hv (List.length_pos_iff.2 hz))
    obtain ⟨Z, z1, z2, z3, z4, z5, z6, z7, z8⟩ := always_some HG.out hv hz
    rw [z1] at HZ
    have HZ2 : Hid (Calls Try.prog 16 #[.slice Ag g.length cg, .slice A3 L'.length c3] w3 fun e w' => ∃ b o c, e = .returned (.tuple #[.slice (some ⟨b, o, none⟩) Z.length c, .int .i64 0]) ∧ IntsAt w' (some ⟨b, o, none⟩) (Z.map fun x : Nat => (x : Int)) ∧ Below w3.heap.size w3 w') := Lib.hid (HZ.out.mono fun e w' ⟨b, o, c, h1, h2, h3⟩ => ⟨b, o, c, by rw [h1, List.length_map], h2, h3⟩)
    have hN2 := isG_len HG.out
    have HTO : Hid (∀ (b o c : Nat) w, IntsAt w Ag g → RowsAt w A3 L' → IntsAt w (some ⟨b, o, none⟩) (Z.map fun x : Nat => (x : Int)) → Calls Try.prog 41 #[.slice Ag g.length cg, .slice A3 L'.length c3, .slice (some ⟨b, o, none⟩) Z.length c] w fun e w' => ∃ gO, e = .returned (.tuple #[.slice (some ⟨gO, 0, none⟩) g.length g.length, .bool true]) ∧ IntsAt w' (some ⟨gO, 0, none⟩) (List.replicate g.length 0) ∧ Below w.heap.size w w') := Lib.hid fun b o c w h1 h2 h3 =>
      (total_any Ag A3 (some ⟨b, o, none⟩) cg c3 c g.length g L' Z w rfl hN2 (fun j hj => by
        obtain ⟨q, hq, q1, q2⟩ := isG_rng HG.out hj
        rw [hq]; omega) (by omega) (fun x hx => ⟨el_len HG.out (hE x hx).1, fun j hj => by
        have := el_rng HG.out (hE x hx).1 j hj
        obtain ⟨q, hq, q1, q2⟩ := isG_rng HG.out hj
        omega⟩) (by omega) z4 z5 h1 h2 h3).mono fun e w' ⟨gO, k1, k2, k3, k4⟩ => ⟨gO, k1, by rw [← z6]; exact row_intsL k3, k4⟩
    have HZE := Lib.hid (fun w => RefZero_any Ag cg g.length w (by omega))
    have HIN : Hid (∀ A B c d w, IntsAt w A (List.replicate g.length 0) → IntsAt w B (List.replicate g.length 0) → Calls Try.prog 23 #[.slice A g.length c, .slice B g.length d] w fun e w' => e = .returned (.bool true) ∧ ∃ n, w' = w.drewN n) := Lib.hid fun A B c d w h1 h2 => ints_yes A B c d (List.replicate g.length 0) g.length w (by simp) (by omega) h1 h2
    have hrl3 : ∀ i, i < (Z.tail.map (getl L')).length → (getl (Z.tail.map (getl L')) i).length ≤ 1000000 := fun i hi => by
      have hi2 : i < Z.tail.length := by simpa using hi
      have e : getl (Z.tail.map (getl L')) i = getl L' Z.tail[i] := by
        show (Z.tail.map (getl L')).getD i [] = _
        rw [List.getD_eq_getElem?_getD, List.getElem?_eq_getElem hi, Option.getD_some, List.getElem_map]
      rw [e]
      exact hrl2 _ (z5 _ (List.mem_of_mem_tail (List.getElem_mem hi2)))
    have HZN : Hid (∀ A c w, IntsAt w Ag g → RowsAt w A (Z.tail.map (getl L')) → Calls Try.prog 16 #[.slice Ag g.length cg, .slice A (Z.length - 1) c] w (NoneR w 6)) := Lib.hid fun A c w h1 h2 => by
      have := Zero_none Ag A cg c m n g (Z.tail.map (getl L')) w HG.out hrl3 h1 h2 z7 z8
      rwa [List.length_map, List.length_tail] at this
    have HZR := Lib.hid z5
    have HT : Hid (∀ j (h : j + 1 < Z.length), (Z.tail.take (j + 1)).map (getl L') = (Z.tail.take j).map (getl L') ++ [getl L' (Z[j + 1])]) := Lib.hid fun j h => by
      have hl : j < Z.tail.length := by rw [List.length_tail]; omega
      rw [List.take_succ_eq_append_getElem hl, List.map_append, List.getElem_tail]; rfl
    have HTF : Hid ((Z.tail.take (Z.length - 1)).map (getl L') = Z.tail.map (getl L')) := Lib.hid (by rw [List.take_of_length_le (by simp)])
    clear z1 z4 z5 z6 z7 z8 hrl2 hrl3 hE hv hz HZ
    obtain ⟨K, hK⟩ : ∃ K, Z.length = K := ⟨_, rfl⟩
    rw [hK] at HZ2 HTO HZN HTF z2 z3
    generalize g.length = N at *
    have hK60 : K ≤ 1000 := by omega
    have g1 : decide (K < 1) = false := decide_eq_false (by omega)
    have g1i : decide ((K : Int) < 1) = false := decide_eq_false (by omega)
    have g2 : decide ((m : Int) + n - 1 < (K : Int)) = false := decide_eq_false (by omega)
    have HK := Lib.hid hK
    clear hK
    go_wp2_with (go_at_call 16; fail)
    refine HZ2.out.mono ?_
    rintro e w4 ⟨bz, oz, cz, rfl, iz, b4⟩
    replace HR := Lib.hid (HR.out.below b4)
    replace HIG2 := Lib.hid (HIG2.out.below b4)
    replace b1 := b1.trans (b4.mono b1.size)
    have HIZ := Lib.hid iz
    clear b4 HZ2 iz
    go_wp2_with (go_at_call 41; fail)
    refine (HTO.out _ _ _ _ HIG2.out HR.out HIZ.out).mono ?_
    rintro e w5 ⟨gO, rfl, io, b5⟩
    replace HR := Lib.hid (HR.out.below b5)
    replace HIG2 := Lib.hid (HIG2.out.below b5)
    replace HIZ := Lib.hid (HIZ.out.below b5)
    replace b1 := b1.trans (b5.mono b1.size)
    have HIO := Lib.hid io
    clear b5 HTO io
    go_wp2_with (go_at_call 22; fail)
    refine (HZE.out _).mono ?_
    rintro e w6 ⟨A6, c6, rfl, i6, b6⟩
    replace HR := Lib.hid (HR.out.below b6)
    replace HIG2 := Lib.hid (HIG2.out.below b6)
    replace HIZ := Lib.hid (HIZ.out.below b6)
    replace HIO := Lib.hid (HIO.out.below b6)
    replace b1 := b1.trans (b6.mono b1.size)
    have HI6 := Lib.hid i6
    clear b6 HZE i6
    go_wp2_with (go_at_call 23; fail)
    refine (HIN.out _ _ _ _ _ HIO.out HI6.out).mono ?_
    rintro e w7 ⟨rfl, n7, rfl⟩
    replace HR := Lib.hid (HR.out.below (below_drewN n7))
    replace HIG2 := Lib.hid (HIG2.out.below (below_drewN n7))
    replace HIZ := Lib.hid (HIZ.out.below (below_drewN n7))
    replace b1 := b1.trans (below_drewN n7)
    clear HIO HI6 HIN
    generalize World.drewN _ n7 = W at *
    have HB1 := Lib.hid b1
    have hbW := b1.size
    clear b1 g1 g1i g2
    go_wp2
    go_loopw [13, 14] (fun v i wr => ∃ (j : Nat) (cs2 : List Value), i = .int .i64 ((j : Int) + 1) ∧ j + 1 ≤ K ∧ wr.ownsRow W.heap.size 22 1 v j cs2 ∧ RowsC W cs2 ((Z.tail.take j).map (getl L')) ∧ Below W.heap.size W wr) (fun _ i _ => K - (intOf i).toNat)
    case atStart => exact ⟨0, [], rfl, by omega, ⟨rfl, .inl ⟨rfl, rfl⟩⟩, RowsC.nil _, Below.refl _ _⟩
    case round =>
      obtain ⟨j, cs2, rfl, hj, ol, rc, bl⟩ := hrel
      by_cases hlt : j + 1 < K
      · have g1 : decide ((j : Int) + 1 < (K : Int)) = true := decide_eq_true (by omega)
        have hjZ : j + 1 < Z.length := by rw [HK.out]; exact hlt
        have hxr := HZR.out _ (List.getElem_mem hjZ)
        have HTJ := Lib.hid (HT.out j hjZ)
        obtain ⟨b', o', e', hb', hc'⟩ := (HIZ.out.below bl) (by rw [List.length_map]; omega)
        injection e' with e'
        injection e' with e1 e2
        subst e1 e2
        have cz := hc' (j + 1) (by rw [List.length_map]; exact hjZ)
        rw [geti_eq (by rw [List.length_map]; exact hjZ), List.getElem_map] at cz
        obtain ⟨bq, oq, hLe, hbq, hcq⟩ := HR.out (by omega)
        subst hLe
        obtain ⟨Br, cr, cl, ir⟩ := hcq _ hxr
        replace cl := cell_up bl hbq cl
        generalize Z[j + 1] = x at *
        generalize getl L' x = r at *
        have gxl : x < L'.length := hxr
        have hbm := bl.size
        have hnr : Row (wr.alloc (.cells #[.slice Br r.length cr] 22)) wr.heap.size 22 [.slice Br r.length cr] := row_new rfl
        have HIRr := Lib.hid ir
        have HJK := Lib.hid hlt
        clear hc' hcq ir hb' hbq
        go_wp2_with (at_builtin; refine wpList_append_own_at _ rfl (.tmp 81) (.tmp 89) 23 rfl W.heap.size 22 k0 (.slice none 0 0) 1 24 Try.underlying23 ki kz0 kz1 kz2 rfl (by decide) _ j _ rfl (ol.alloc _) ⟨wr.heap.size, 0, none⟩ 1 1 [.slice Br r.length cr] rfl rfl (news_one hnr) (by simp [Value.oneCell']) (by unfold maxLen; omega) (by omega) (by simp; omega) ?_; intro v8 w8 o8 hg8 _ _)
        have b8' := app1' ol hbm hg8
        go_roundw
        case rel => exact ⟨j + 1, _, by go_num, by have := HJK.out; omega, o8, by rw [HTJ.out]; exact rc.add HIRr.out, bl.trans b8'⟩
        case measure => simp [intOf]; omega
      · obtain rfl : K = j + 1 := by omega
        have g1 : decide ((j : Int) + 1 < ((j + 1 : Nat) : Int)) = false := decide_eq_false (by omega)
        rw [Nat.add_sub_cancel] at HTF HZN
        rw [HTF.out] at rc
        obtain ⟨Ar, cr, rfl, -⟩ := own_wr ol
        have HRA := Lib.hid (rowsC_at (rc.below bl) ol)
        have HGA := Lib.hid (HIG2.out.below bl)
        have b9 := HB1.out.trans (bl.mono hbW)
        clear ol rc bl
        go_wp2_with (go_at_call 16; fail)
        refine (HZN.out _ _ _ HGA.out HRA.out).mono ?_
        rintro e wx ⟨rfl, bx⟩
        replace b9 := b9.trans (bx.mono b9.size)
        clear bx
        go_wp2_with (go_at_call 20; with_reducible refine (HAW.out _).mono ?_; rintro e wy ⟨rfl, bY⟩; replace b9 := b9.trans (bY.mono b9.size))
        go_ret
        exact ⟨rfl, b9⟩
end Go.Proofs.Ytokjdadgdfmffaa
