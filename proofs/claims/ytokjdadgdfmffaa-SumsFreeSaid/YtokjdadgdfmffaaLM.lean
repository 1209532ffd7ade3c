/- SumsOrders, walked. -/
import Derived.Test.YtokjdadgdfmffaaLL
namespace Go.Proofs.Ytokjdadgdfmffaa
open Go.RowKit
set_option maxHeartbeats 1500000
set_option maxRecDepth 100000
/-- An element, turned. -/
def turnL (g xs : List Int) : List Int := List.zipWith (fun q x => (q - x) % q) g xs
theorem el_len {g xs : List Int} {m n : Nat} (hg : IsG g m n) (h : elV m n xs = true) : xs.length = g.length := by
  obtain ⟨_, ⟨rfl, h1⟩ | ⟨rfl, h1⟩, _⟩ := hg
  · match xs, h with
    | [y], _ => rfl
    | [x, y], h => exact absurd h1 (of_decide_eq_true h).1
  · match xs, h with
    | [y], h => have := (of_decide_eq_true h).1; omega
    | [x, y], _ => rfl
theorem el_rng {g xs : List Int} {m n : Nat} (hg : IsG g m n) (h : elV m n xs = true) : ∀ j, j < g.length → 0 ≤ geti xs j ∧ geti xs j < geti g j := by
  obtain ⟨_, ⟨rfl, h1⟩ | ⟨rfl, h1⟩, _⟩ := hg
  · match xs, h with
    | [y], h =>
      intro j hj
      obtain rfl : j = 0 := by simpa using hj
      exact (of_decide_eq_true h).2
    | [x, y], h => exact absurd h1 (of_decide_eq_true h).1
  · match xs, h with
    | [y], h => have := (of_decide_eq_true h).1; omega
    | [x, y], h =>
      intro j hj
      have hj2 : j < 2 := hj
      have h2 := of_decide_eq_true h
      obtain rfl | rfl : j = 0 ∨ j = 1 := by omega
      · exact h2.2.1
      · exact h2.2.2
theorem turn_at {g xs : List Int} {j : Nat} (h : j < g.length) (hl : xs.length = g.length) : geti (turnL g xs) j = (geti g j - geti xs j) % geti g j := by
  unfold geti turnL
  rw [List.getD_eq_getElem?_getD, List.getD_eq_getElem?_getD, List.getD_eq_getElem?_getD, List.getElem?_zipWith, List.getElem?_eq_getElem h, List.getElem?_eq_getElem (by omega)]
  rfl
theorem turn_el {g xs : List Int} {m n : Nat} (hg : IsG g m n) (h : elV m n xs = true) : elV m n (turnL g xs) = true := by
  refine soFar_el hg (by unfold turnL; rw [List.length_zipWith, el_len hg h]; omega) (fun j hj => ?_)
  have hl : (turnL g xs).length = g.length := by unfold turnL; rw [List.length_zipWith, el_len hg h]; omega
  have hjg : j < g.length := by omega
  obtain ⟨q, hq, q1, _⟩ := isG_rng hg hjg
  have e : geti (turnL g xs) j = (geti g j - geti xs j) % geti g j := by
    exact turn_at hjg (el_len hg h)
  rw [e, hq]
  exact ⟨Int.emod_nonneg _ (by omega), Int.emod_lt_of_pos _ (by omega)⟩
theorem turn_ord {g xs : List Int} {m n : Nat} (hg : IsG g m n) (h : elV m n xs = true) : ordV m n (elA m (turnL g xs)) (elB m (turnL g xs)) = ordV m n (elA m xs) (elB m xs) := by
  unfold ordV
  refine ordF_congr (fun k => ?_) _ _
  obtain ⟨_, ⟨rfl, h1⟩ | ⟨rfl, h1⟩, _⟩ := hg
  · match xs, h with
    | [y], _ =>
      subst h1
      show zt 1 n 0 ((n - y) % n) k ↔ zt 1 n 0 y k
      unfold zt
      rw [neg_iff]
    | [x, y], h => exact absurd h1 (of_decide_eq_true h).1
  · match xs, h with
    | [y], h => have := (of_decide_eq_true h).1; omega
    | [x, y], _ =>
      have hm : m ≠ 1 := by omega
      have e1 : elA m (turnL [(m : Int), (n : Int)] [x, y]) = (m - x) % m := by simp [turnL, elA, hm]
      have e2 : elB m (turnL [(m : Int), (n : Int)] [x, y]) = (n - y) % n := by simp [turnL, elB, hm]
      have e3 : elA m [x, y] = x := by simp [elA, hm]
      have e4 : elB m [x, y] = y := by simp [elB, hm]
      rw [e1, e2, e3, e4]
      unfold zt
      rw [neg_iff, neg_iff]
theorem turn_step (g xs : List Int) {t : Nat} (h : t < g.length) (hl : xs.length = g.length) : (turnL g xs).take (t + 1) = (turnL g xs).take t ++ [(geti g t - geti xs t) % geti g t] := by
  have h1 : t < (turnL g xs).length := by unfold turnL; rw [List.length_zipWith]; omega
  rw [List.take_succ_eq_append_getElem h1]
  rw [← geti_eq h1, turn_at h hl]
theorem rep_get {N : Nat} {xs : List Int} {i : Nat} (h : i < N) : getl (List.replicate N xs) i = xs := by
  unfold getl
  rw [List.getD_eq_getElem?_getD, List.getElem?_replicate, if_pos h]; rfl
theorem rep_valid {m n N : Nat} {xs : List Int} (hN : N ≤ 60) (h : elV m n xs = true) : rlV m n (List.replicate N xs) = true := by
  refine decide_eq_true ⟨by rw [List.length_replicate]; exact hN, fun i hi => ?_⟩
  rw [List.length_replicate] at hi
  rw [rep_get hi]; exact h
theorem rep_zr {m n N : Nat} {xs : List Int} : zrL m n (List.replicate N xs) 0 0 = shF m n 0 (List.replicate N (elA m xs, elB m xs)) 0 0 := by
  unfold zrL rlE
  rw [List.map_replicate]
theorem rep_rows {w : World} {C N c : Nat} {A B : Option Addr} {xs : List Int} {cx : Nat} (hu : w.ownsRow C 22 1 (.slice A N c) N (List.replicate N (Value.slice B xs.length cx))) (hx : IntsAt w B xs) : RowsAt w A (List.replicate N xs) := fun hp => by
  rw [List.length_replicate] at hp ⊢
  rcases hu.2 with ⟨h1, h0⟩ | ⟨g, cap, cur, h1, hb, hg, hc, _, hs, ht⟩
  · omega
  · injection h1 with h1 h2 h3
    subst h1 h3
    refine ⟨g, 0, rfl, (Array.getElem?_eq_some_iff.1 hg).1, fun j hj => ?_⟩
    rw [rep_get hj]
    refine ⟨B, cx, ?_, hx⟩
    have := hu.cells (g := g) rfl j (.slice B xs.length cx) (by rw [List.getElem?_replicate, if_pos hj])
    rw [WideShapes.add_plain] at this
    exact this
theorem SumsOrders_any (A : Option Addr) (c : Nat) (a : List Int) (B : Option Addr) (d : Nat) (b : List Int) (w : World) (hx : a.length ≤ c) (hc : c ≤ maxLen) (ha : IntsAt w A a) (hx' : b.length ≤ d) (hc' : d ≤ maxLen) (hb : IntsAt w B b) :
    Calls Try.prog 10 #[.slice A a.length c, .slice B b.length d] w fun e w' => e = .returned (.bool true) ∧ Below w.heap.size w w' := by
  have hal : a.length ≤ 9223372036854775807 := by unfold maxLen at hc; omega
  have hbl : b.length ≤ 9223372036854775807 := by unfold maxLen at hc'; omega
  have HGR := Lib.hid (group_any A c a w hal ha)
  have HB := Lib.hid hb
  obtain ⟨j0, ji, jz0, jz1, jz2⟩ := info_parts info3
  obtain ⟨k0, ki, kz0, kz1, kz2⟩ := info_parts info22
  clear ha hb hx hc hx' hc'
  go_enter Try.func10, Try.ntmps10
  go_wp2_with (go_at_call 39; fail)
  refine HGR.out.mono ?_
  rintro e w1 ⟨v1, g, m, n, rfl, hG, o1, b1⟩
  obtain ⟨Ag, cg, rfl, -, -, ig⟩ := own_cap o1
  clear HGR
  obtain ⟨hgr, hgg, h2⟩ := hG
  rcases hgg with ⟨rfl, h1⟩ | ⟨rfl, h1⟩
  · have hG : IsG [(n : Int)] m n := ⟨hgr, .inl ⟨rfl, h1⟩, h2⟩
    clear hgr h1 h2
    have ig0 := ig
    have W1b := b1
    have rr : Row (w1.alloc (.cells #[.slice B b.length d] 22)) w1.heap.size 22 [.slice B b.length d] := row_new rfl
    have ra : RowsAt (w1.alloc (.cells #[.slice B b.length d] 22)) (some ⟨w1.heap.size, 0, none⟩) [b] := fun _ => ⟨_, 0, rfl, by simp, fun i hi => by
      have h1 : i < 1 := hi
      obtain rfl : i = 0 := by omega
      rw [Nat.zero_add, rr.cell]
      exact ⟨B, d, rfl, (HB.out.below b1).alloc _⟩⟩
    have b2 := b1.alloc b1.size (.cells #[.slice B b.length d] 22)
    have ig2 := ig.alloc (.cells #[.slice B b.length d] 22)
    have HEL := Lib.hid (elements_any Ag (some ⟨w1.heap.size, 0, none⟩) cg 1 [(n : Int)] [b] 1 m n _ hG ⟨by omega, by omega⟩ (by simp) (fun i hi => by
      have h1 : i < 1 := hi
      obtain rfl : i = 0 := by omega
      exact hbl) ig2 ra)
    have HIG := Lib.hid ig2
    have HG := Lib.hid hG
    clear ra rr ig ig2 ig0 W1b b1 o1
    go_wp2_with (go_at_call 40; fail)
    refine HEL.out.mono ?_
    rintro e w2 ⟨A3, c3, cs, L', rfl, hL1, hE, o3, r3, b3⟩
    have hL1' : L'.length = 1 := by rw [hL1]; rfl
    obtain ⟨b4, o4, hAe, hb4, hc4⟩ := (rows_at r3 o3) (by omega)
    subst hAe
    obtain ⟨Bx, cx, hcx, hix⟩ := hc4 0 (by omega)
    rw [Nat.add_zero] at hcx
    obtain ⟨hv, hxl⟩ := hE 0 (by omega)
    generalize getl L' 0 = xs at *
    have hL0 : 0 < L'.length := by omega
    have HIG2 := Lib.hid (HIG.out.below b3)
    replace b3 := b2.trans (b3.mono b2.size)
    have HIX := Lib.hid hix
    have HV := Lib.hid hv
    have HORD := Lib.hid (Order_yes Ag Bx cg cx m n [(n : Int)] xs w2 hG (by omega) HIG2.out hix hv)
    have hos := ord_spec (elA m xs) (elB m xs) hG.1
    have hol := ord_last hG (elA m xs) (elB m xs)
    have hsr := sh_rep hG.1 (e := (elA m xs, elB m xs)) (elV_el hG.1 hv)
    dsimp only at hsr
    have htn := turn_ord hG hv
    have htv := turn_el hG hv
    have hrg := el_rng hG hv
    have hxg := el_len hG hv
    obtain ⟨N1, -, -⟩ := hos
    obtain ⟨N2, N3⟩ := hol
    have hn24 := hG.1.2.2.2
    generalize ordV m n (elA m xs) (elB m xs) = N at *
    have g1 : decide ((N : Int) < 1) = false := decide_eq_false (by omega)
    have g2 : decide (n < N) = false := decide_eq_false (by omega)
    have g3 : ((n : Int) % N != 0) = false := by
      have : (n : Int) % N = 0 := Int.emod_eq_zero_of_dvd (Int.natCast_dvd_natCast.2 N2)
      rw [this]; rfl
    have g3' : (n % N != 0) = false := by rw [Nat.mod_eq_zero_of_dvd N2]; rfl
    have N0 : ¬ N = 0 := by omega
    have HN2 := Lib.hid N2
    have HSR := Lib.hid hsr
    have HTN := Lib.hid htn
    have HTV := Lib.hid htv
    have HRG := Lib.hid hrg
    have HXG := Lib.hid hxg
    have HL1 := Lib.hid hL1
    clear hix hv hsr htn htv hrg hE o3 r3 HEL HIG hL1 hL1' hc4 N2 hxg
    go_wp2_with (go_at_call 28; fail)
    refine HORD.out.mono ?_
    rintro e w4 ⟨rfl, b5⟩
    have JG := Lib.hid (HIG2.out.below b5)
    have JX := Lib.hid (HIX.out.below b5)
    replace b5 := b3.trans (b5.mono b3.size)
    obtain ⟨bg, og, hGe, hbg, hcg⟩ := JG.out (by simp)
    subst hGe
    have clast : w4.cell? ⟨bg, og, none⟩ = some (.int .i64 n) := by have := hcg 0 (by simp); rwa [Nat.add_zero] at this
    have HCG := Lib.hid hcg
    have hbs := b5.size
    have ol0 : w4.ownsRow w4.heap.size 22 1 (.slice none 0 0) 0 (List.replicate 0 (Value.slice Bx xs.length cx)) := ⟨rfl, .inl ⟨rfl, rfl⟩⟩
    have bl0 : Below w4.heap.size w4 w4 := Below.refl _ _
    clear hcg HIG2 HIX HORD b3 hcx
    go_wp2
    clear g1 g2 g3 g3' clast
    go_loopw [9, 11] (fun v i wr => ∃ j : Nat, j ≤ N ∧ i = .int .i64 j ∧ wr.ownsRow w4.heap.size 22 1 v j (List.replicate j (Value.slice Bx xs.length cx)) ∧ Below w4.heap.size w4 wr) (fun _ i _ => N - (intOf i).toNat)
    case atStart => exact ⟨0, by omega, rfl, ol0, bl0⟩
    case round =>
      clear ol0 bl0
      obtain ⟨j, hj, rfl, ol, bl⟩ := hrel
      have hbm := bl.size
      by_cases hjt : j < N
      · have hnr : Row (wr.alloc (.cells #[.slice Bx xs.length cx] 22)) wr.heap.size 22 [.slice Bx xs.length cx] := row_new rfl
        go_wp2_with (at_builtin; refine wpList_append_own_at _ rfl (.tmp 63) (.tmp 65) 23 rfl w4.heap.size 22 k0 (.slice none 0 0) 1 24 Try.underlying23 ki kz0 kz1 kz2 rfl (by decide) _ j _ rfl (ol.alloc _) ⟨wr.heap.size, 0, none⟩ 1 1 [.slice Bx xs.length cx] rfl rfl (news_one hnr) (by simp [Value.oneCell']) (by unfold maxLen; omega) (by omega) (by simp; omega) ?_; intro v8 w8 o8 hg8 _ _)
        have b8 := bl.trans (app1' ol hbm hg8)
        go_roundw
        case rel => exact ⟨j + 1, by omega, by go_num, by rw [List.replicate_succ']; exact o8, b8⟩
        case measure => simp [intOf]; omega
      · obtain rfl : N = j := by omega
        obtain ⟨Al, cl, rfl, -⟩ := own_wr ol
        have RA := Lib.hid (rep_rows ol (JX.out.below bl))
        have JG2 := Lib.hid (JG.out.below bl)
        have JX2 := Lib.hid (JX.out.below bl)
        have b6 := b5.trans (bl.mono hbs)
        obtain ⟨W, hW⟩ : ∃ W, W = wr := ⟨_, rfl⟩
        subst hW
        have hbW := b6.size
        have ot0 : W.ownsRow W.heap.size 3 1 (.slice none 0 0) 0 (iv ((turnL [(n : Int)] xs).take 0)) := ⟨rfl, .inl ⟨rfl, rfl⟩⟩
        have bt0 : Below W.heap.size W W := Below.refl _ _
        clear ol bl hbm JG JX b5 hbs hjt
        go_wp2
        go_loopw [10, 12] (fun v i wr => ∃ j : Nat, j ≤ 1 ∧ i = .int .i64 j ∧ wr.ownsRow W.heap.size 3 1 v j (iv ((turnL [(n : Int)] xs).take j)) ∧ Below W.heap.size W wr) (fun _ i _ => 1 - (intOf i).toNat)
        case atStart => exact ⟨0, by omega, rfl, ot0, bt0⟩
        case round =>
          clear ot0 bt0
          obtain ⟨t, ht, rfl, ot, bt⟩ := hrel
          by_cases htt : t < 1
          · have htg : t < ([(n : Int)] : List Int).length := htt
            obtain ⟨bq, oq, hQe, hbq, hcq⟩ := JG2.out (by simp)
            injection hQe with hQe
            injection hQe with e1 e2
            subst e1 e2
            obtain ⟨bx, ox, hXe, hbx, hcxx⟩ := JX2.out (by rw [HXG.out]; simp)
            subst hXe
            obtain ⟨q, hq, q1, q2⟩ := isG_rng HG.out htg
            have cq := hcq t htg
            have cy := hcxx t (by rw [HXG.out]; exact htg)
            obtain ⟨y1, y2⟩ := HRG.out t htg
            have hst := turn_step [(n : Int)] xs htg HXG.out
            rw [hq] at cq y2 hst
            generalize geti xs t = y at *
            have hw0 : IntKind.i64.wrap ((q : Int) - y) = q - y := IntWalk.i64_in _ (by omega)
            have hw1 : ((q : Int) - y).tmod q = (q - y) % (q : Int) := Int.tmod_eq_emod_of_nonneg (by omega)
            have z1 := Int.emod_nonneg ((q : Int) - y) (b := (q : Int)) (by omega)
            have z2 := Int.emod_lt_of_pos ((q : Int) - y) (b := (q : Int)) (by omega)
            generalize ((q : Int) - y) % (q : Int) = z at *
            have hw2 : IntKind.i64.wrap z = z := IntWalk.i64_in _ (by omega)
            have q0 : ¬ q = 0 := by omega
            have HST := Lib.hid hst
            have KS : Hid (∀ w', Below W.heap.size W w' → (w'.cell? ⟨bg, og + t, none⟩ = some (.int .i64 q) ∧ w'.cell? ⟨bx, ox + t, none⟩ = some (.int .i64 y) ∧ Hid (Below W.heap.size W w'))) := Lib.hid fun w' h => ⟨cell_up h hbq cq, cell_up h hbx cy, Lib.hid h⟩
            have OT := Lib.hid ot
            have hbm := bt.size
            have hS := KS.out _ bt
            have hxs : t < xs.length := by rw [HXG.out]; exact htg
            clear hst hcq hcxx cq cy hq ot
            go_wp2
            go_region_held3 (fun w' => w'.cell? ⟨bg, og + t, none⟩ = some (.int .i64 q) ∧ w'.cell? ⟨bx, ox + t, none⟩ = some (.int .i64 y) ∧ Hid (Below W.heap.size W w')) (first | assumption | exact KS.out _ bt.drew | exact KS.out _ (bt.alloc bt.size _) | exact KS.out _ ((bt.alloc bt.size _).drew) | exact KS.out _ b9) ((first
              | (refine step_append_own_at rfl (.tmp 73) (.tmp 88) 22 rfl W.heap.size 3 j0 (.int .i64 0) 1 8 Try.underlying22 ji jz0 jz1 jz2 rfl Nat.zero_lt_one _ t _ rfl ((OT.out.alloc _).kept' ((Below.refl _ _).drew)) ⟨wr.heap.size, 0, none⟩ 1 1 [.int .i64 z] rfl rfl ?_ ?_ ?_ ?_ ?_ ?_; exact news_one ((row_new rfl).drew); simp [Value.oneCell']; (unfold maxLen; omega); omega; exact (bt.alloc bt.size _).drew.size; intro v9 w9 o9 hg9; have b9 := (bt.alloc bt.size _).drew.grown hg9 (bt.alloc bt.size _).drew.size (fun g hg => (own_ge OT.out hg).1))))
            go_wp2
            go_roundw
            case rel => exact ⟨t + 1, by omega, by go_num, by rw [HST.out, iv_snoc]; exact o9, b9⟩
            case measure => simp [intOf]; omega
          · obtain rfl : t = 1 := by omega
            have htl : (turnL [(n : Int)] xs).length = 1 := by unfold turnL; rw [List.length_zipWith, HXG.out]; simp
            rw [show (turnL [(n : Int)] xs).take 1 = turnL [(n : Int)] xs from List.take_of_length_le (by omega)] at ot
            obtain ⟨At, ct, e5, -, -, it⟩ := own_intsI ot
            rw [htl] at e5
            subst e5
            have hz := Zero_some (some ⟨bg, og, none⟩) Al cg cl m n [(n : Int)] (List.replicate N xs) wr HG.out (fun i hi => by rw [rep_get (by rw [List.length_replicate] at hi; exact hi)]; omega) (JG2.out.below bt) (RA.out.below bt) (rep_valid (by omega) HV.out) (by rw [rep_zr, HSR.out]; omega)
            rw [List.length_replicate] at hz
            have hzl : (zrL m n (List.replicate N xs) 0 0).length = N := by rw [rep_zr]; exact HSR.out
            generalize zrL m n (List.replicate N xs) 0 0 = P at *
            have HO2 := Lib.hid (fun (w' : World) h1 h2 => Order_yes (some ⟨bg, og, none⟩) At cg ct m n [(n : Int)] (turnL [(n : Int)] xs) w' HG.out (by rw [htl]; omega) h1 h2 HTV.out)
            have HZ := Lib.hid hz
            have gz : ((P.length : Int) == N) = true := by rw [hzl]; simp
            have HTT := Lib.hid (show (turnL [(n : Int)] xs).length = 1 from htl)
            have IG3 := Lib.hid (JG2.out.below bt)
            have IT := Lib.hid it
            have b7 := b6.trans (bt.mono hbW)
            clear hz hzl it ot bt RA JG2 JX2 b6 hbW htl
            go_wp2_with (go_at_call 16; fail)
            refine HZ.out.mono ?_
            rintro e w8 ⟨bp, op, cp, rfl, -, b8⟩
            have IG4 := Lib.hid (IG3.out.below b8)
            have IT2 := Lib.hid (IT.out.below b8)
            replace b8 := b7.trans (b8.mono b7.size)
            have ho := HO2.out w8 IG4.out IT2.out
            rw [HTN.out, HTT.out] at ho
            have HOO := Lib.hid ho
            clear ho HO2 HZ b7 IG3 IT
            go_wp2_with (go_at_call 28; fail)
            refine HOO.out.mono ?_
            rintro e w9 ⟨rfl, b9⟩
            replace b9 := b8.trans (b9.mono b8.size)
            go_wp2_with (go_at_call 20; fail)
            refine (awake_any _).mono ?_
            rintro e w10 ⟨rfl, b10⟩
            go_wp2
            go_ret
            exact ⟨rfl, b9.trans (b10.mono b9.size)⟩
  · have hG : IsG [(m : Int), (n : Int)] m n := ⟨hgr, .inr ⟨rfl, h1⟩, h2⟩
    clear hgr h1 h2
    have ig0 := ig
    have W1b := b1
    have rr : Row (w1.alloc (.cells #[.slice B b.length d] 22)) w1.heap.size 22 [.slice B b.length d] := row_new rfl
    have ra : RowsAt (w1.alloc (.cells #[.slice B b.length d] 22)) (some ⟨w1.heap.size, 0, none⟩) [b] := fun _ => ⟨_, 0, rfl, by simp, fun i hi => by
      have h1 : i < 1 := hi
      obtain rfl : i = 0 := by omega
      rw [Nat.zero_add, rr.cell]
      exact ⟨B, d, rfl, (HB.out.below b1).alloc _⟩⟩
    have b2 := b1.alloc b1.size (.cells #[.slice B b.length d] 22)
    have ig2 := ig.alloc (.cells #[.slice B b.length d] 22)
    have HEL := Lib.hid (elements_any Ag (some ⟨w1.heap.size, 0, none⟩) cg 1 [(m : Int), (n : Int)] [b] 1 m n _ hG ⟨by omega, by omega⟩ (by simp) (fun i hi => by
      have h1 : i < 1 := hi
      obtain rfl : i = 0 := by omega
      exact hbl) ig2 ra)
    have HIG := Lib.hid ig2
    have HG := Lib.hid hG
    clear ra rr ig ig2 ig0 W1b b1 o1
    go_wp2_with (go_at_call 40; fail)
    refine HEL.out.mono ?_
    rintro e w2 ⟨A3, c3, cs, L', rfl, hL1, hE, o3, r3, b3⟩
    have hL1' : L'.length = 1 := by rw [hL1]; rfl
    obtain ⟨b4, o4, hAe, hb4, hc4⟩ := (rows_at r3 o3) (by omega)
    subst hAe
    obtain ⟨Bx, cx, hcx, hix⟩ := hc4 0 (by omega)
    rw [Nat.add_zero] at hcx
    obtain ⟨hv, hxl⟩ := hE 0 (by omega)
    generalize getl L' 0 = xs at *
    have hL0 : 0 < L'.length := by omega
    have HIG2 := Lib.hid (HIG.out.below b3)
    replace b3 := b2.trans (b3.mono b2.size)
    have HIX := Lib.hid hix
    have HV := Lib.hid hv
    have HORD := Lib.hid (Order_yes Ag Bx cg cx m n [(m : Int), (n : Int)] xs w2 hG (by omega) HIG2.out hix hv)
    have hos := ord_spec (elA m xs) (elB m xs) hG.1
    have hol := ord_last hG (elA m xs) (elB m xs)
    have hsr := sh_rep hG.1 (e := (elA m xs, elB m xs)) (elV_el hG.1 hv)
    dsimp only at hsr
    have htn := turn_ord hG hv
    have htv := turn_el hG hv
    have hrg := el_rng hG hv
    have hxg := el_len hG hv
    obtain ⟨N1, -, -⟩ := hos
    obtain ⟨N2, N3⟩ := hol
    have hn24 := hG.1.2.2.2
    generalize ordV m n (elA m xs) (elB m xs) = N at *
    have g1 : decide ((N : Int) < 1) = false := decide_eq_false (by omega)
    have g2 : decide (n < N) = false := decide_eq_false (by omega)
    have g3 : ((n : Int) % N != 0) = false := by
      have : (n : Int) % N = 0 := Int.emod_eq_zero_of_dvd (Int.natCast_dvd_natCast.2 N2)
      rw [this]; rfl
    have g3' : (n % N != 0) = false := by rw [Nat.mod_eq_zero_of_dvd N2]; rfl
    have N0 : ¬ N = 0 := by omega
    have HN2 := Lib.hid N2
    have HSR := Lib.hid hsr
    have HTN := Lib.hid htn
    have HTV := Lib.hid htv
    have HRG := Lib.hid hrg
    have HXG := Lib.hid hxg
    have HL1 := Lib.hid hL1
    clear hix hv hsr htn htv hrg hE o3 r3 HEL HIG hL1 hL1' hc4 N2 hxg
    go_wp2_with (go_at_call 28; fail)
    refine HORD.out.mono ?_
    rintro e w4 ⟨rfl, b5⟩
    have JG := Lib.hid (HIG2.out.below b5)
    have JX := Lib.hid (HIX.out.below b5)
    replace b5 := b3.trans (b5.mono b3.size)
    obtain ⟨bg, og, hGe, hbg, hcg⟩ := JG.out (by simp)
    subst hGe
    have clast : w4.cell? ⟨bg, og + 1, none⟩ = some (.int .i64 n) := hcg 1 (by simp)
    have HCG := Lib.hid hcg
    have hbs := b5.size
    have ol0 : w4.ownsRow w4.heap.size 22 1 (.slice none 0 0) 0 (List.replicate 0 (Value.slice Bx xs.length cx)) := ⟨rfl, .inl ⟨rfl, rfl⟩⟩
    have bl0 : Below w4.heap.size w4 w4 := Below.refl _ _
    clear hcg HIG2 HIX HORD b3 hcx
    go_wp2
    clear g1 g2 g3 g3' clast
    go_loopw [9, 11] (fun v i wr => ∃ j : Nat, j ≤ N ∧ i = .int .i64 j ∧ wr.ownsRow w4.heap.size 22 1 v j (List.replicate j (Value.slice Bx xs.length cx)) ∧ Below w4.heap.size w4 wr) (fun _ i _ => N - (intOf i).toNat)
    case atStart => exact ⟨0, by omega, rfl, ol0, bl0⟩
    case round =>
      clear ol0 bl0
      obtain ⟨j, hj, rfl, ol, bl⟩ := hrel
      have hbm := bl.size
      by_cases hjt : j < N
      · have hnr : Row (wr.alloc (.cells #[.slice Bx xs.length cx] 22)) wr.heap.size 22 [.slice Bx xs.length cx] := row_new rfl
        go_wp2_with (at_builtin; refine wpList_append_own_at _ rfl (.tmp 63) (.tmp 65) 23 rfl w4.heap.size 22 k0 (.slice none 0 0) 1 24 Try.underlying23 ki kz0 kz1 kz2 rfl (by decide) _ j _ rfl (ol.alloc _) ⟨wr.heap.size, 0, none⟩ 1 1 [.slice Bx xs.length cx] rfl rfl (news_one hnr) (by simp [Value.oneCell']) (by unfold maxLen; omega) (by omega) (by simp; omega) ?_; intro v8 w8 o8 hg8 _ _)
        have b8 := bl.trans (app1' ol hbm hg8)
        go_roundw
        case rel => exact ⟨j + 1, by omega, by go_num, by rw [List.replicate_succ']; exact o8, b8⟩
        case measure => simp [intOf]; omega
      · obtain rfl : N = j := by omega
        obtain ⟨Al, cl, rfl, -⟩ := own_wr ol
        have RA := Lib.hid (rep_rows ol (JX.out.below bl))
        have JG2 := Lib.hid (JG.out.below bl)
        have JX2 := Lib.hid (JX.out.below bl)
        have b6 := b5.trans (bl.mono hbs)
        obtain ⟨W, hW⟩ : ∃ W, W = wr := ⟨_, rfl⟩
        subst hW
        have hbW := b6.size
        have ot0 : W.ownsRow W.heap.size 3 1 (.slice none 0 0) 0 (iv ((turnL [(m : Int), (n : Int)] xs).take 0)) := ⟨rfl, .inl ⟨rfl, rfl⟩⟩
        have bt0 : Below W.heap.size W W := Below.refl _ _
        clear ol bl hbm JG JX b5 hbs hjt
        go_wp2
        go_loopw [10, 12] (fun v i wr => ∃ j : Nat, j ≤ 2 ∧ i = .int .i64 j ∧ wr.ownsRow W.heap.size 3 1 v j (iv ((turnL [(m : Int), (n : Int)] xs).take j)) ∧ Below W.heap.size W wr) (fun _ i _ => 2 - (intOf i).toNat)
        case atStart => exact ⟨0, by omega, rfl, ot0, bt0⟩
        case round =>
          clear ot0 bt0
          obtain ⟨t, ht, rfl, ot, bt⟩ := hrel
          by_cases htt : t < 2
          · have htg : t < ([(m : Int), (n : Int)] : List Int).length := htt
            obtain ⟨bq, oq, hQe, hbq, hcq⟩ := JG2.out (by simp)
            injection hQe with hQe
            injection hQe with e1 e2
            subst e1 e2
            obtain ⟨bx, ox, hXe, hbx, hcxx⟩ := JX2.out (by rw [HXG.out]; simp)
            subst hXe
            obtain ⟨q, hq, q1, q2⟩ := isG_rng HG.out htg
            have cq := hcq t htg
            have cy := hcxx t (by rw [HXG.out]; exact htg)
            obtain ⟨y1, y2⟩ := HRG.out t htg
            have hst := turn_step [(m : Int), (n : Int)] xs htg HXG.out
            rw [hq] at cq y2 hst
            generalize geti xs t = y at *
            have hw0 : IntKind.i64.wrap ((q : Int) - y) = q - y := IntWalk.i64_in _ (by omega)
            have hw1 : ((q : Int) - y).tmod q = (q - y) % (q : Int) := Int.tmod_eq_emod_of_nonneg (by omega)
            have z1 := Int.emod_nonneg ((q : Int) - y) (b := (q : Int)) (by omega)
            have z2 := Int.emod_lt_of_pos ((q : Int) - y) (b := (q : Int)) (by omega)
            generalize ((q : Int) - y) % (q : Int) = z at *
            have hw2 : IntKind.i64.wrap z = z := IntWalk.i64_in _ (by omega)
            have q0 : ¬ q = 0 := by omega
            have HST := Lib.hid hst
            have KS : Hid (∀ w', Below W.heap.size W w' → (w'.cell? ⟨bg, og + t, none⟩ = some (.int .i64 q) ∧ w'.cell? ⟨bx, ox + t, none⟩ = some (.int .i64 y) ∧ Hid (Below W.heap.size W w'))) := Lib.hid fun w' h => ⟨cell_up h hbq cq, cell_up h hbx cy, Lib.hid h⟩
            have OT := Lib.hid ot
            have hbm := bt.size
            have hS := KS.out _ bt
            have hxs : t < xs.length := by rw [HXG.out]; exact htg
            clear hst hcq hcxx cq cy hq ot
            go_wp2
            go_region_held3 (fun w' => w'.cell? ⟨bg, og + t, none⟩ = some (.int .i64 q) ∧ w'.cell? ⟨bx, ox + t, none⟩ = some (.int .i64 y) ∧ Hid (Below W.heap.size W w')) (first | assumption | exact KS.out _ bt.drew | exact KS.out _ (bt.alloc bt.size _) | exact KS.out _ ((bt.alloc bt.size _).drew) | exact KS.out _ b9) ((first
              | (refine step_append_own_at rfl (.tmp 73) (.tmp 88) 22 rfl W.heap.size 3 j0 (.int .i64 0) 1 8 Try.underlying22 ji jz0 jz1 jz2 rfl Nat.zero_lt_one _ t _ rfl ((OT.out.alloc _).kept' ((Below.refl _ _).drew)) ⟨wr.heap.size, 0, none⟩ 1 1 [.int .i64 z] rfl rfl ?_ ?_ ?_ ?_ ?_ ?_; exact news_one ((row_new rfl).drew); simp [Value.oneCell']; (unfold maxLen; omega); omega; exact (bt.alloc bt.size _).drew.size; intro v9 w9 o9 hg9; have b9 := (bt.alloc bt.size _).drew.grown hg9 (bt.alloc bt.size _).drew.size (fun g hg => (own_ge OT.out hg).1))))
            go_wp2
            go_roundw
            case rel => exact ⟨t + 1, by omega, by go_num, by rw [HST.out, iv_snoc]; exact o9, b9⟩
            case measure => simp [intOf]; omega
          · obtain rfl : t = 2 := by omega
            have htl : (turnL [(m : Int), (n : Int)] xs).length = 2 := by unfold turnL; rw [List.length_zipWith, HXG.out]; simp
            rw [show (turnL [(m : Int), (n : Int)] xs).take 2 = turnL [(m : Int), (n : Int)] xs from List.take_of_length_le (by omega)] at ot
            obtain ⟨At, ct, e5, -, -, it⟩ := own_intsI ot
            rw [htl] at e5
            subst e5
            have hz := Zero_some (some ⟨bg, og, none⟩) Al cg cl m n [(m : Int), (n : Int)] (List.replicate N xs) wr HG.out (fun i hi => by rw [rep_get (by rw [List.length_replicate] at hi; exact hi)]; omega) (JG2.out.below bt) (RA.out.below bt) (rep_valid (by omega) HV.out) (by rw [rep_zr, HSR.out]; omega)
            rw [List.length_replicate] at hz
            have hzl : (zrL m n (List.replicate N xs) 0 0).length = N := by rw [rep_zr]; exact HSR.out
            generalize zrL m n (List.replicate N xs) 0 0 = P at *
            have HO2 := Lib.hid (fun (w' : World) h1 h2 => Order_yes (some ⟨bg, og, none⟩) At cg ct m n [(m : Int), (n : Int)] (turnL [(m : Int), (n : Int)] xs) w' HG.out (by rw [htl]; omega) h1 h2 HTV.out)
            have HZ := Lib.hid hz
            have gz : ((P.length : Int) == N) = true := by rw [hzl]; simp
            have HTT := Lib.hid (show (turnL [(m : Int), (n : Int)] xs).length = 2 from htl)
            have IG3 := Lib.hid (JG2.out.below bt)
            have IT := Lib.hid it
            have b7 := b6.trans (bt.mono hbW)
            clear hz hzl it ot bt RA JG2 JX2 b6 hbW htl
            go_wp2_with (go_at_call 16; fail)
            refine HZ.out.mono ?_
            rintro e w8 ⟨bp, op, cp, rfl, -, b8⟩
            have IG4 := Lib.hid (IG3.out.below b8)
            have IT2 := Lib.hid (IT.out.below b8)
            replace b8 := b7.trans (b8.mono b7.size)
            have ho := HO2.out w8 IG4.out IT2.out
            rw [HTN.out, HTT.out] at ho
            have HOO := Lib.hid ho
            clear ho HO2 HZ b7 IG3 IT
            go_wp2_with (go_at_call 28; fail)
            refine HOO.out.mono ?_
            rintro e w9 ⟨rfl, b9⟩
            replace b9 := b8.trans (b9.mono b8.size)
            go_wp2_with (go_at_call 20; fail)
            refine (awake_any _).mono ?_
            rintro e w10 ⟨rfl, b10⟩
            go_wp2
            go_ret
            exact ⟨rfl, b9.trans (b10.mono b9.size)⟩
end Go.Proofs.Ytokjdadgdfmffaa
